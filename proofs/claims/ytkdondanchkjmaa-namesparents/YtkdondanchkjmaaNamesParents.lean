/- NamesParents, proved for every two texts: a full name and a name behind it come apart again, and are full together; no condition. -/
import Derived.Test.YtkdondanchkjmaaRows
import Derived.Test.YtkdondanchkjmaaNAwake
import Derived.Deep.RegionWith
import Derived.ProofKit
import Derived.OpenShut
import Derived.ShutString
import Derived.ChangeOld
import Derived.Below
namespace Go.Proofs.Ytkdondanchkjmaa.namesParents
open Go.ChangeShapes Go.WideShapes Go.ChangeAt Go.RowKit
open Go.ChangeMaps (open_string shut_string)
set_option linter.unusedVariables false

theorem own : ownKnob Try.prog.godebug = none := by kernel_rfl
theorem laidOut : laidOutB Try.prog = true := by kernel_rfl

set_option maxHeartbeats 2000000 in
theorem walk (z0 : List Int) (z1 : List Int) (w : World) (hz0 : Hid (∀ i, 0 ≤ z0.getD i 0 ∧ z0.getD i 0 ≤ 255)) (hz1 : Hid (∀ i, 0 ≤ z1.getD i 0 ∧ z1.getD i 0 ≤ 255)) (hl1 : (z1.length : Int) ≤ 9223372036854775807) :
    Calls Try.prog 8 #[.string (strOfNums z0), .string (strOfNums z1)] w fun e w' => e = .returned (.bool true) ∧ Below w.heap.size w w' := by
  have hT : Hid (NTab w) := trivial
  have hs0 := strOfNums_size z0
  have hs1 := strOfNums_size z1
  by_cases hbig : 100 < z0.length
  · have hbig' : (100 : Int) < (z0.length : Int) := by omega
    generalize strOfNums z0 = A at hs0
    generalize strOfNums z1 = B at hs1
    go_enter Try.func8, Try.ntmps8
    go_wp2_with fail
    refine (nawake_any _ hT).mono ?_
    rintro e w1 ⟨rfl, hbb1⟩
    go_wp2
    go_ret
    exact ⟨rfl, hbb1⟩
  have hbig' : ¬ (100 : Int) < (z0.length : Int) := by omega
  have q1 := fun W (hB : Below w.heap.size w W) => pfull_any z0 W (hT.out.below hB (Nat.le_refl _)) hz0 (by omega)
  by_cases hf : nfull z0 = true
  · have q2 := fun W (hB : Below w.heap.size w W) => pident_any z1 W (hT.out.below hB (Nat.le_refl _)) hz1 hl1
    rw [hf] at q1
    by_cases hi : nident z1 = true
    · rw [hi] at q2
      have hil := nident_len z1 hi
      have hne : z0 ≠ [] := fun h => by rw [h, nfull_nil] at hf; exact absurd hf (by decide)
      have q3 := fun W (hB : Below w.heap.size w W) => pjoin_any z0 z1 W (hT.out.below hB (Nat.le_refl _)) (mem_bd hz0.out) (mem_bd hz1.out) (by omega) (by omega)
      have hjl := njoin_len z0 z1
      have hjb := njoin_bd z0 z1 (mem_bd hz0.out) (mem_bd hz1.out)
      have q4 := fun W (hB : Below w.heap.size w W) => pparent_any (njoin z0 z1) W (hT.out.below hB (Nat.le_refl _)) (getD_bd hjb) (by omega)
      rw [nparent_join z0 z1 hne (nident_no z1 hi)] at q4
      have q5 := fun W (hB : Below w.heap.size w W) => pfull_any (njoin z0 z1) W (hT.out.below hB (Nat.le_refl _)) (getD_bd hjb) (by omega)
      rw [nfull_join z0 z1 hf (by omega) hi] at q5
      simp only at q4
      generalize strOfNums (njoin z0 z1) = J at q3 q4 q5
      generalize strOfNums z0 = A at hs0 q1 q3 q4
      generalize strOfNums z1 = B at hs1 q2 q3 q4
      have Q1 : Hid _ := q1
      have Q2 : Hid _ := q2
      have Q3 : Hid _ := q3
      have Q4 : Hid _ := q4
      have Q5 : Hid _ := q5
      have e1 : (A.toList == A.toList) = true := by simp
      have e2 : (B.toList == B.toList) = true := by simp
      clear q1 q2 q3 q4 q5 hjb hjl hf hi hne hil
      go_enter Try.func8, Try.ntmps8
      go_wp2_with fail
      refine (nawake_any _ hT).mono ?_
      rintro e w1 ⟨rfl, hbb1⟩
      go_wp2_with fail
      refine Calls.mono (Q1.out _ hbb1) ?_
      rintro e w2 ⟨rfl, hb2⟩
      have HB2 : Hid (Below w.heap.size w w2) := hbb1.trans (hb2.mono hbb1.size)
      clear hb2
      go_wp2_with fail
      refine Calls.mono (Q2.out _ HB2.out) ?_
      rintro e w3 ⟨rfl, hb3⟩
      have HB3 : Hid (Below w.heap.size w w3) := HB2.out.trans (hb3.mono HB2.out.size)
      clear hb3
      go_wp2_with fail
      refine Calls.mono (Q3.out _ HB3.out) ?_
      rintro e w4 ⟨rfl, hb4⟩
      have HB4 : Hid (Below w.heap.size w w4) := HB3.out.trans (hb4.mono HB3.out.size)
      clear hb4
      go_wp2_with fail
      refine Calls.mono (Q4.out _ HB4.out) ?_
      rintro e w5 ⟨rfl, hb5⟩
      have HB5 : Hid (Below w.heap.size w w5) := HB4.out.trans (hb5.mono HB4.out.size)
      clear hb5
      go_wp2_with fail
      refine Calls.mono (Q3.out _ HB5.out) ?_
      rintro e w6 ⟨rfl, hb6⟩
      have HB6 : Hid (Below w.heap.size w w6) := HB5.out.trans (hb6.mono HB5.out.size)
      clear hb6
      go_wp2_with fail
      refine Calls.mono (Q5.out _ HB6.out) ?_
      rintro e w7 ⟨rfl, hb7⟩
      have HB7 : Hid (Below w.heap.size w w7) := HB6.out.trans (hb7.mono HB6.out.size)
      clear hb7
      go_wp2
      go_ret
      exact ⟨rfl, HB7.out⟩
    · have hi' : nident z1 = false := by simpa using hi
      rw [hi'] at q2
      generalize strOfNums z0 = A at hs0 q1
      generalize strOfNums z1 = B at hs1 q2
      have Q1 : Hid _ := q1
      have Q2 : Hid _ := q2
      clear q1 q2 hf hi hi'
      go_enter Try.func8, Try.ntmps8
      go_wp2_with fail
      refine (nawake_any _ hT).mono ?_
      rintro e w1 ⟨rfl, hbb1⟩
      go_wp2_with fail
      refine Calls.mono (Q1.out _ hbb1) ?_
      rintro e w2 ⟨rfl, hb2⟩
      have HB2 : Hid (Below w.heap.size w w2) := hbb1.trans (hb2.mono hbb1.size)
      clear hb2
      go_wp2_with fail
      refine Calls.mono (Q2.out _ HB2.out) ?_
      rintro e w3 ⟨rfl, hb3⟩
      have HB3 : Hid (Below w.heap.size w w3) := HB2.out.trans (hb3.mono HB2.out.size)
      clear hb3
      go_wp2
      go_ret
      exact ⟨rfl, HB3.out⟩
  · have hf' : nfull z0 = false := by simpa using hf
    rw [hf'] at q1
    generalize strOfNums z0 = A at hs0 q1
    generalize strOfNums z1 = B at hs1
    have Q1 : Hid _ := q1
    clear q1 hf hf'
    go_enter Try.func8, Try.ntmps8
    go_wp2_with fail
    refine (nawake_any _ hT).mono ?_
    rintro e w1 ⟨rfl, hbb1⟩
    go_wp2_with fail
    refine Calls.mono (Q1.out _ hbb1) ?_
    rintro e w2 ⟨rfl, hb2⟩
    have HB2 : Hid (Below w.heap.size w w2) := hbb1.trans (hb2.mono hbb1.size)
    clear hb2
    go_wp2
    go_ret
    exact ⟨rfl, HB2.out⟩

set_option maxRecDepth 100000 in
theorem lifted (os : Os) (started : os.Started) (H : Type) (enc : TypeId × Value → H) :
    ReturnsInHanded {} Try.checked os 8 .any (Rows.namesParentsSpec.pre6 enc Try.prog Try.f8 Rows.namesParentsRow.domain false) (Rows.namesParentsSpec.post enc Try.prog Try.f8 false true false false) := by
  refine returnsInHanded_of_change (C := Try.checked) own started (by kernel_rfl) Try.func8
    (ChangeSpec.witness6 (enc := enc) (C := Try.checked) false ⟨#[], #[.string ByteArray.empty, .string ByteArray.empty], []⟩ 8 (by kernel_rfl) (by kernel_rfl) (by kernel_rfl) (by kernel_rfl)) ?_
  intro W base args ds gs before hval0 hW hcnd _
  have hval : ∀ (j : Nat) t v, Try.f8.params[j]? = some t → args[j]? = some v → Value.okWide Try.prog W .any base t v := hval0
  have hW' := hW
  obtain ⟨p, q, hA0, hV, rfl, hfz, hnd⟩ := hW
  have hA : DataW.TrodAll enc Try.prog W 0 (fun _ => true) true Try.f8.params.toList args.toList ds p := hA0
  rw [Try.params8] at hA hval
  obtain ⟨v0, vs0, d0, ds0, p0, q0, hargs, rfl, rfl, h0, r0⟩ := trodAll_cons hA
  obtain ⟨v1, vs1, d1, ds1, p1, q1, rfl, rfl, rfl, h1, r1⟩ := trodAll_cons r0
  obtain ⟨rfl, rfl, rfl⟩ := trodAll_nil r1
  obtain rfl : args = #[v0, v1] := by cases args; simp_all
  obtain ⟨rfl, rfl⟩ := trodVars_none hV
  obtain ⟨s0, rfl, rfl, rfl, w0⟩ := open_string Try.underlying9 (hval 0 9 v0 rfl rfl) h0
  obtain ⟨z0, rfl, hz0⟩ := str_nums s0
  obtain ⟨s1, rfl, rfl, rfl, w1⟩ := open_string Try.underlying9 (hval 1 9 v1 rfl rfl) h1
  obtain ⟨z1, rfl, wuhz1⟩ := str_nums s1
  have wuhl1 : (z1.length : Int) ≤ 9223372036854775807 := by
    have := w1
    rw [strOfNums_size] at this
    unfold maxLen at this
    omega
  clear hA0 hval0
  refine (walk z0 z1 W hz0 wuhz1 wuhl1).mono fun e W' ⟨he, bel⟩ => ?_
  subst he
  exact ⟨_, rfl, _, _, _, [], _, [], hW', trodAll_mk1 (shut_bool Try.underlying4 _), (trodAll_cons_mk (shut_string Try.underlying9 w0) (trodAll_cons_mk (shut_string Try.underlying9 w1) trodAll_mk0)), rfl, bel.frame _, fun h => by cases h⟩

theorem over : Rows.namesParentsRow.holds Try.pinned (OpenSpec.ofChange Rows.namesParentsSpec) :=
  OpenClaim.holds_of_wide 8 Try.f8 rfl rfl rfl rfl rfl rfl rfl ⟨rfl, rfl, rfl, rfl, rfl⟩ rfl rfl rfl rfl rfl (by kernel_rfl) Try.func8 (by kernel_rfl)
    (of_decide_eq_true (by kernel_rfl)) (by unfold Func.isWrapper; first | (rw [if_pos (by decide +kernel)]; kernel_rfl) | (rw [if_neg (by decide +kernel)]; exact ⟨rfl, rfl⟩))
    (fun os started H enc _ => lifted os started H enc)

end Go.Proofs.Ytkdondanchkjmaa.namesParents
namespace Go.Proofs.Ytkdondanchkjmaa
theorem namesParents_holds : Rows.NamesParentsSaid := namesParents.over
#print axioms namesParents_holds
end Go.Proofs.Ytkdondanchkjmaa
