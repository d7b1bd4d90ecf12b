/- NamesMake, proved for every text: Json and Entry answer as the document asks; no condition. -/
import Derived.Test.YtkdondanchkjmaaRows
import Derived.Test.YtkdondanchkjmaaNAwake
import Derived.Deep.RegionWith
import Derived.ProofKit
import Derived.OpenShut
import Derived.ShutString
import Derived.ChangeOld
import Derived.Below
namespace Go.Proofs.Ytkdondanchkjmaa.namesMake
open Go.ChangeShapes Go.WideShapes Go.ChangeAt Go.RowKit
open Go.ChangeMaps (open_string shut_string)
set_option linter.unusedVariables false

theorem own : ownKnob Try.prog.godebug = none := by kernel_rfl
theorem laidOut : laidOutB Try.prog = true := by kernel_rfl

set_option maxHeartbeats 2000000 in
theorem walk (z0 : List Int) (w : World) (hz0 : Hid (∀ i, 0 ≤ z0.getD i 0 ∧ z0.getD i 0 ≤ 255)) :
    Calls Try.prog 6 #[.string (strOfNums z0)] w fun e w' => e = .returned (.bool true) ∧ Below w.heap.size w w' := by
  have hT : Hid (NTab w) := trivial
  have hsz := strOfNums_size z0
  by_cases hbig : 500 < z0.length
  · have hbig' : (500 : Int) < (z0.length : Int) := by omega
    generalize strOfNums z0 = S at hsz
    go_enter Try.func6, Try.ntmps6
    go_wp2_with fail
    refine (nawake_any _ hT).mono ?_
    rintro e w1 ⟨rfl, hbb1⟩
    go_wp2
    go_ret
    exact ⟨rfl, hbb1⟩
  · have hbig' : ¬ (500 : Int) < (z0.length : Int) := by omega
    have q1 := fun W (hB : Below w.heap.size w W) => pjson_any z0 W (hT.out.below hB (Nat.le_refl _)) hz0 (by omega)
    have q2 := fun W => rjson_any z0 W hz0 (by omega)
    have q3 := fun W (hB : Below w.heap.size w W) => pentry_any z0 W (hT.out.below hB (Nat.le_refl _)) hz0 (by omega)
    have q4 := fun W => rentry_any z0 W hz0 (by omega)
    generalize strOfNums (ncam false z0) = J at q1 q2
    generalize strOfNums (ncam true z0 ++ nentry) = E at q3 q4
    generalize strOfNums z0 = S at hsz q1 q2 q3 q4
    have Q1 : Hid _ := q1
    have Q2 : Hid _ := q2
    have Q3 : Hid _ := q3
    have Q4 : Hid _ := q4
    have e1 : (J.toList == J.toList) = true := by simp
    have e2 : (E.toList == E.toList) = true := by simp
    clear q1 q2 q3 q4
    go_enter Try.func6, Try.ntmps6
    go_wp2_with fail
    refine (nawake_any _ hT).mono ?_
    rintro e w1 ⟨rfl, hbb1⟩
    go_wp2_with fail
    refine Calls.mono (Q1.out _ hbb1) ?_
    rintro e w2 ⟨rfl, hb2⟩
    have HB2 : Hid (Below w.heap.size w w2) := hbb1.trans (hb2.mono hbb1.size)
    clear hb2
    go_wp2_with fail
    refine Calls.mono (Q2.out _) ?_
    rintro e w3 ⟨rfl, hb3⟩
    have HB3 : Hid (Below w.heap.size w w3) := HB2.out.trans (hb3.mono HB2.out.size)
    clear hb3
    go_wp2_with fail
    refine Calls.mono (Q3.out _ HB3.out) ?_
    rintro e w4 ⟨rfl, hb4⟩
    have HB4 : Hid (Below w.heap.size w w4) := HB3.out.trans (hb4.mono HB3.out.size)
    clear hb4
    go_wp2_with fail
    refine Calls.mono (Q4.out _) ?_
    rintro e w5 ⟨rfl, hb5⟩
    have HB5 : Hid (Below w.heap.size w w5) := HB4.out.trans (hb5.mono HB4.out.size)
    clear hb5
    go_wp2
    go_ret
    exact ⟨by simp, HB5.out⟩

set_option maxRecDepth 100000 in
theorem lifted (os : Os) (started : os.Started) (H : Type) (enc : TypeId × Value → H) :
    ReturnsInHanded {} Try.checked os 6 .any (Rows.namesMakeSpec.pre6 enc Try.prog Try.f6 Rows.namesMakeRow.domain false) (Rows.namesMakeSpec.post enc Try.prog Try.f6 false true false false) := by
  refine returnsInHanded_of_change (C := Try.checked) own started (by kernel_rfl) Try.func6
    (ChangeSpec.witness6 (enc := enc) (C := Try.checked) false ⟨#[], #[.string ByteArray.empty], []⟩ 8 (by kernel_rfl) (by kernel_rfl) (by kernel_rfl) (by kernel_rfl)) ?_
  intro W base args ds gs before hval0 hW hcnd _
  have hval : ∀ (j : Nat) t v, Try.f6.params[j]? = some t → args[j]? = some v → Value.okWide Try.prog W .any base t v := hval0
  have hW' := hW
  obtain ⟨p, q, hA0, hV, rfl, hfz, hnd⟩ := hW
  have hA : DataW.TrodAll enc Try.prog W 0 (fun _ => true) true Try.f6.params.toList args.toList ds p := hA0
  rw [Try.params6] at hA hval
  obtain ⟨v0, vs0, d0, ds0, p0, q0, hargs, rfl, rfl, h0, r0⟩ := trodAll_cons hA
  obtain ⟨rfl, rfl, rfl⟩ := trodAll_nil r0
  obtain rfl : args = #[v0] := by cases args; simp_all
  obtain ⟨rfl, rfl⟩ := trodVars_none hV
  obtain ⟨s0, rfl, rfl, rfl, w0⟩ := open_string Try.underlying9 (hval 0 9 v0 rfl rfl) h0
  obtain ⟨z0, rfl, hz0⟩ := str_nums s0
  clear hA0 hval0
  refine (walk z0 W hz0).mono fun e W' ⟨he, bel⟩ => ?_
  subst he
  exact ⟨_, rfl, _, _, _, [], _, [], hW', trodAll_mk1 (shut_bool Try.underlying4 _), (trodAll_cons_mk (shut_string Try.underlying9 w0) trodAll_mk0), rfl, bel.frame _, fun h => by cases h⟩

theorem over : Rows.namesMakeRow.holds Try.pinned (OpenSpec.ofChange Rows.namesMakeSpec) :=
  OpenClaim.holds_of_wide 6 Try.f6 rfl rfl rfl rfl rfl rfl rfl ⟨rfl, rfl, rfl, rfl, rfl⟩ rfl rfl rfl rfl rfl (by kernel_rfl) Try.func6 (by kernel_rfl)
    (of_decide_eq_true (by kernel_rfl)) (by unfold Func.isWrapper; first | (rw [if_pos (by decide +kernel)]; kernel_rfl) | (rw [if_neg (by decide +kernel)]; exact ⟨rfl, rfl⟩))
    (fun os started H enc _ => lifted os started H enc)

end Go.Proofs.Ytkdondanchkjmaa.namesMake
namespace Go.Proofs.Ytkdondanchkjmaa
theorem namesMake_holds : Rows.NamesMakeSaid := namesMake.over
#print axioms namesMake_holds
end Go.Proofs.Ytkdondanchkjmaa
