/- NamesFresh, proved for every name and every list of texts: Synthetic answers as the document asks, and what it answers is not taken; no condition. -/
import Derived.Test.YtmpdgdjjjgnpiaaRows
import Derived.Test.YtmpdgdjjjgnpiaaNAwake
import Derived.Deep.RegionWith
import Derived.ProofKit
import Derived.OpenShut
import Derived.ShutString
import Derived.ChangeOld
import Derived.Below
namespace Go.Proofs.Ytmpdgdjjjgnpiaa.namesFresh
open Go.ChangeShapes Go.WideShapes Go.ChangeAt Go.RowKit
open Go.ChangeMaps (open_string shut_string)
set_option linter.unusedVariables false

theorem own : ownKnob Try.prog.godebug = none := by kernel_rfl
theorem laidOut : laidOutB Try.prog = true := by kernel_rfl

set_option maxHeartbeats 2000000 in
theorem walk (z0 : List Int) (a1 : Option Addr) (l1 c1 : Nat) (zs1 : List (List Int)) (w : World) (hz0 : Hid (∀ i, 0 ≤ z0.getD i 0 ∧ z0.getD i 0 ≤ 255)) (hb1 : Hid (Ss w a1 l1 c1 zs1)) :
    Calls Try.prog 7 #[.string (strOfNums z0), .slice a1 l1 c1] w fun e w' => e = .returned (.bool true) ∧ Below w.heap.size w w' := by
  have hT : Hid (NTab w) := trivial
  have hs0 := strOfNums_size z0
  by_cases hbig : 200 < z0.length
  · have hbig' : (200 : Int) < (z0.length : Int) := by omega
    generalize strOfNums z0 = A at hs0
    go_enter Try.func7, Try.ntmps7
    go_wp2_with fail
    refine (nawake_any _ hT).mono ?_
    rintro e w1 ⟨rfl, hbb1⟩
    go_wp2
    go_ret
    exact ⟨rfl, hbb1⟩
  have hbig' : ¬ (200 : Int) < (z0.length : Int) := by omega
  have hlb := hb1.out.2.1
  by_cases hbig2 : 50 < l1
  · have hbig2' : (50 : Int) < (l1 : Int) := by omega
    generalize strOfNums z0 = A at hs0
    go_enter Try.func7, Try.ntmps7
    go_wp2_with fail
    refine (nawake_any _ hT).mono ?_
    rintro e w1 ⟨rfl, hbb1⟩
    go_wp2
    go_ret
    exact ⟨rfl, hbb1⟩
  have hbig2' : ¬ (50 : Int) < (l1 : Int) := by omega
  have q1 := fun W (hB : Below w.heap.size w W) => psyn_any z0 W (hT.out.below hB (Nat.le_refl _)) (hb1.out.below hB (Nat.le_refl _)) (mem_bd hz0.out) (by omega) (by omega)
  have q2 := fun W (hB : Below w.heap.size w W) => rsyn_any z0 (hb1.out.below hB (Nat.le_refl _)) (mem_bd hz0.out) (by omega) (by omega)
  have hbd : byts (nsyn zs1 l1 (95 :: z0)) := nsyn_bd zs1 l1 _ (by intro c hc; rcases List.mem_cons.1 hc with rfl | hc; omega; exact mem_bd hz0.out c hc)
  have q3 := fun W (hB : Below w.heap.size w W) => rin_any (nsyn zs1 l1 (95 :: z0)) (hb1.out.below hB (Nat.le_refl _)) hbd
  have hfr := nsyn_free zs1 (95 :: z0)
  rw [hb1.out.1] at hfr
  simp only [decide_eq_false hfr] at q3
  generalize strOfNums (nsyn zs1 l1 (95 :: z0)) = R at q1 q2 q3
  generalize strOfNums z0 = A at hs0 q1 q2
  have Q1 : Hid _ := q1
  have Q2 : Hid _ := q2
  have Q3 : Hid _ := q3
  have e1 : (R.toList == R.toList) = true := by simp
  clear q1 q2 q3 hbd hfr
  go_enter Try.func7, Try.ntmps7
  go_wp2_with fail
  refine (nawake_any _ hT).mono ?_
  rintro e w1 ⟨rfl, hbb1⟩
  go_wp2_with fail
  refine Calls.mono (Q1.out _ hbb1) ?_
  rintro e w2 ⟨rfl, hb2⟩
  have HB2 : Hid (Below w.heap.size w w2) := hbb1.trans (hb2.mono hbb1.size)
  clear hb2
  go_wp2_with fail
  refine Calls.mono (Q2.out _ HB2.out) ?_
  rintro e w3 ⟨rfl, rfl⟩
  go_wp2_with fail
  refine Calls.mono (Q3.out _ HB2.out) ?_
  rintro e w4 ⟨rfl, rfl⟩
  go_wp2
  go_ret
  exact ⟨rfl, HB2.out⟩

set_option maxRecDepth 100000 in
theorem lifted (os : Os) (started : os.Started) (H : Type) (enc : TypeId × Value → H) :
    ReturnsInHanded {} Try.checked os 7 .any (Rows.namesFreshSpec.pre6 enc Try.prog Try.f7 Rows.namesFreshRow.domain false) (Rows.namesFreshSpec.post enc Try.prog Try.f7 false true false false) := by
  refine returnsInHanded_of_change (C := Try.checked) own started (by kernel_rfl) Try.func7
    (ChangeSpec.witness6 (enc := enc) (C := Try.checked) false ⟨#[], #[.string ByteArray.empty, .slice none 0 0], []⟩ 8 (by kernel_rfl) (by kernel_rfl) (by kernel_rfl) (by kernel_rfl)) ?_
  intro W base args ds gs before hval0 hW hcnd _
  have hval : ∀ (j : Nat) t v, Try.f7.params[j]? = some t → args[j]? = some v → Value.okWide Try.prog W .any base t v := hval0
  have hW' := hW
  obtain ⟨p, q, hA0, hV, rfl, hfz, hnd⟩ := hW
  have hA : DataW.TrodAll enc Try.prog W 0 (fun _ => true) true Try.f7.params.toList args.toList ds p := hA0
  rw [Try.params7] at hA hval
  obtain ⟨v0, vs0, d0, ds0, p0, q0, hargs, rfl, rfl, h0, r0⟩ := trodAll_cons hA
  obtain ⟨v1, vs1, d1, ds1, p1, q1, rfl, rfl, rfl, h1, r1⟩ := trodAll_cons r0
  obtain ⟨rfl, rfl, rfl⟩ := trodAll_nil r1
  obtain rfl : args = #[v0, v1] := by cases args; simp_all
  obtain ⟨rfl, rfl⟩ := trodVars_none hV
  obtain ⟨s0, rfl, rfl, rfl, w0⟩ := open_string Try.underlying9 (hval 0 9 v0 rfl rfl) h0
  obtain ⟨z0, rfl, hz0⟩ := str_nums s0
  obtain ⟨a1, l1, c1, rfl⟩ := okWide_slice Try.underlying29 (hval 1 29 v1 rfl rfl)
  have lt1 : ∀ x ∈ p1, x.block < W.heap.size := by obtain ⟨m, hm⟩ := h1; exact DataW.trod_lt m _ _ _ hm
  obtain ⟨zs1, w1⟩ : ∃ zs, Ss W a1 l1 c1 zs := ss_open h1
  clear hA0 hval0
  refine (walk z0 a1 l1 c1 _ W hz0 w1).mono fun e W' ⟨he, bel⟩ => ?_
  subst he
  exact ⟨_, rfl, _, _, _, [], _, [], hW', trodAll_mk1 (shut_bool Try.underlying4 _), (trodAll_cons_mk (shut_string Try.underlying9 w0) (trodAll_cons_mk (Below.trod laidOut (by kernel_rfl) (of_decide_eq_true (by kernel_rfl)) h1 bel lt1) trodAll_mk0)), rfl, bel.frame _, fun h => by cases h⟩

theorem over : Rows.namesFreshRow.holds Try.pinned (OpenSpec.ofChange Rows.namesFreshSpec) :=
  OpenClaim.holds_of_wide 7 Try.f7 rfl rfl rfl rfl rfl rfl rfl ⟨rfl, rfl, rfl, rfl, rfl⟩ rfl rfl rfl rfl rfl (by kernel_rfl) Try.func7 (by kernel_rfl)
    (of_decide_eq_true (by kernel_rfl)) (by unfold Func.isWrapper; first | (rw [if_pos (by decide +kernel)]; kernel_rfl) | (rw [if_neg (by decide +kernel)]; exact ⟨rfl, rfl⟩))
    (fun os started H enc _ => lifted os started H enc)

end Go.Proofs.Ytmpdgdjjjgnpiaa.namesFresh
namespace Go.Proofs.Ytmpdgdjjjgnpiaa
theorem namesFresh_holds : Rows.NamesFreshSaid := namesFresh.over
#print axioms namesFresh_holds
end Go.Proofs.Ytmpdgdjjjgnpiaa
