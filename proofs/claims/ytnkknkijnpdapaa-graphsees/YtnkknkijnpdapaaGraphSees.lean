/- GraphSees, proved for every list of units and every path: Visible answers as the document asks; no condition. -/
import Derived.Test.YtnkknkijnpdapaaRows
import Derived.Test.YtnkknkijnpdapaaHAwake
import Derived.Test.YtnkknkijnpdapaaJOpen
import Derived.Deep.RegionWith
import Derived.ProofKit
import Derived.OpenShut
import Derived.ShutString
import Derived.ChangeOld
import Derived.Below
namespace Go.Proofs.Ytnkknkijnpdapaa.graphSees
open Go.ChangeShapes Go.WideShapes Go.ChangeAt Go.RowKit
open Go.ChangeMaps (open_string shut_string)
set_option linter.unusedVariables false

theorem own : ownKnob Try.prog.godebug = none := by kernel_rfl
theorem laidOut : laidOutB Try.prog = true := by kernel_rfl

set_option maxRecDepth 10000 in
set_option maxHeartbeats 4000000 in
theorem walk (a0 : Option Addr) (l0 c0 : Nat) (us0 : List Um) (x1 : ByteArray) (w : World) (hb0 : Hid (Ul w a0 l0 c0 us0)) (hs0 : Hid (Usm us0)) (b1 : x1.size ≤ maxLen) :
    Calls Try.prog 4 #[.slice a0 l0 c0, .string x1] w fun e w' => e = .returned (.bool true) ∧ Below w.heap.size w w' := by
  have QF : Hid _ := fun V (hV : Below w.heap.size w V) => rhfew_any hb0 V hV
  cases hf : hfew us0 with
  | false =>
    rw [hf] at QF
    go_enter Try.func4, Try.ntmps4
    go_wp2_with fail
    refine Calls.mono (hawake_any w) ?_
    rintro e w1 ⟨rfl, hx1⟩
    have HB1 : Hid (Below w.heap.size w w1) := hx1
    clear hx1
    go_wp2_with fail
    refine Calls.mono (QF.out w1 HB1.out) ?_
    rintro e w2 ⟨rfl, hb2⟩
    have HB2 : Hid (Below w.heap.size w w2) := HB1.out.trans (hb2.mono HB1.out.size)
    clear hb2
    go_wp2
    go_ret
    exact ⟨by first | rfl | simp, HB2.out⟩
  | true =>
    rw [hf] at QF
    have HF : Hid (hfew us0 = true) := hf
    clear hf
    have QP : Hid _ := fun V (hV : Below w.heap.size w V) => pgvis_any x1 (hb0.out.below hV) HF hs0 b1
    have QR : Hid _ := fun V (hV : Below w.heap.size w V) => rvis_any x1 (hb0.out.below hV) HF
    generalize hvis (us0.map Um.un) x1 = R at QP QR
    go_enter Try.func4, Try.ntmps4
    go_wp2_with fail
    refine Calls.mono (hawake_any w) ?_
    rintro e w1 ⟨rfl, hx1⟩
    have HB1 : Hid (Below w.heap.size w w1) := hx1
    clear hx1
    go_wp2_with fail
    refine Calls.mono (QF.out w1 HB1.out) ?_
    rintro e w2 ⟨rfl, hb2⟩
    have HB2 : Hid (Below w.heap.size w w2) := HB1.out.trans (hb2.mono HB1.out.size)
    clear hb2
    go_wp2_with fail
    refine Calls.mono (QP.out w2 HB2.out) ?_
    rintro e w3 ⟨v3, rfl, hs3, hb3⟩
    have HB3 : Hid (Below w.heap.size w w3) := HB2.out.trans (hb3.mono HB2.out.size)
    obtain ⟨xa, xc, hv3⟩ := hs3.slice
    subst hv3
    have HS3 : Hid (Sw w3 w2.heap.size (.slice xa R.length xc) R) := hs3
    clear hs3 hb3
    go_wp2_with fail
    refine Calls.mono (QR.out w3 HB3.out) ?_
    rintro e w4 ⟨v4, rfl, hs4, hb4⟩
    have HB4 : Hid (Below w.heap.size w w4) := HB3.out.trans (hb4.mono HB3.out.size)
    obtain ⟨ya, yc, hv4⟩ := hs4.slice
    subst hv4
    have Q5 : Hid _ := rhsame_any (Sb.of_own (Sw.below HS3.out hb4)) (Sb.of_own hs4)
    rw [decide_eq_true (rfl : R = R)] at Q5
    clear hs4 hb4 HS3
    go_wp2_with fail
    refine Calls.mono Q5.out ?_
    rintro e w5 ⟨rfl, hb5⟩
    have HB5 : Hid (Below w.heap.size w w5) := HB4.out.trans (hb5.mono HB4.out.size)
    clear hb5
    go_wp2
    go_ret
    exact ⟨by first | rfl | simp, HB5.out⟩

set_option maxRecDepth 100000 in
theorem lifted (os : Os) (started : os.Started) (H : Type) (enc : TypeId × Value → H) :
    ReturnsInHanded {} Try.checked os 4 .any (Rows.graphSeesSpec.pre6 enc Try.prog Try.f4 Rows.graphSeesRow.domain false) (Rows.graphSeesSpec.post enc Try.prog Try.f4 false true false false) := by
  refine returnsInHanded_of_change_sized (C := Try.checked) own started (by kernel_rfl) Try.func4
    (ChangeSpec.witness6 (enc := enc) (C := Try.checked) false ⟨#[], #[.slice none 0 0, .string ByteArray.empty], []⟩ 8 (by kernel_rfl) (by kernel_rfl) (by kernel_rfl) (by kernel_rfl)) ?_
  intro W base args ds gs before hval0 hW hcnd hwt _
  have hval : ∀ (j : Nat) t v, Try.f4.params[j]? = some t → args[j]? = some v → Value.okWide Try.prog W .any base t v := hval0
  have hW' := hW
  obtain ⟨p, q, hA0, hV, rfl, hfz, hnd⟩ := hW
  have hA : DataW.TrodAll enc Try.prog W 0 (fun _ => true) true Try.f4.params.toList args.toList ds p := hA0
  rw [Try.params4] at hA hval hwt
  obtain ⟨v0, vs0, d0, ds0, p0, q0, hargs, rfl, rfl, h0, r0⟩ := trodAll_cons hA
  obtain ⟨v1, vs1, d1, ds1, p1, q1, rfl, rfl, rfl, h1, r1⟩ := trodAll_cons r0
  obtain ⟨rfl, rfl, rfl⟩ := trodAll_nil r1
  obtain rfl : args = #[v0, v1] := by cases args; simp_all
  obtain ⟨rfl, rfl⟩ := trodVars_none hV
  obtain ⟨a0, l0, c0, rfl⟩ := okWide_slice Try.underlying22 (hval 0 22 v0 rfl rfl)
  have lt0 : ∀ x ∈ p0, x.block < W.heap.size := by obtain ⟨m, hm⟩ := h0; exact DataW.trod_lt m _ _ _ hm
  obtain ⟨us0, wuw0, wux0⟩ := units_open h0
  have wuy0 := wux0 (fun n hn => by
    have := List.all_eq_true.1 hwt n (DataW.weights_mem_each (j := 0) (t := 22) (d := d0) rfl rfl n hn)
    simpa using this)
  obtain ⟨x1, rfl, rfl, rfl, w1⟩ := open_string Try.underlying9 (hval 1 9 v1 rfl rfl) h1
  clear hA0 hval0
  refine (walk a0 l0 c0 _ x1 W wuw0 wuy0 w1).mono fun e W' ⟨he, bel⟩ => ?_
  subst he
  exact ⟨_, rfl, _, _, _, [], _, [], hW', trodAll_mk1 (shut_bool Try.underlying4 _), (trodAll_cons_mk (Below.trod laidOut (by kernel_rfl) (of_decide_eq_true (by kernel_rfl)) h0 bel lt0) (trodAll_cons_mk (shut_string Try.underlying9 w1) trodAll_mk0)), rfl, bel.frame _, fun h => by cases h⟩

theorem over : Rows.graphSeesRow.holds Try.pinned (OpenSpec.ofChange Rows.graphSeesSpec) :=
  OpenClaim.holds_of_wide 4 Try.f4 rfl rfl rfl rfl rfl rfl rfl ⟨rfl, rfl, rfl, rfl, rfl⟩ rfl rfl rfl rfl rfl (by kernel_rfl) Try.func4 (by kernel_rfl)
    (of_decide_eq_true (by kernel_rfl)) (by unfold Func.isWrapper; first | (rw [if_pos (by decide +kernel)]; kernel_rfl) | (rw [if_neg (by decide +kernel)]; exact ⟨rfl, rfl⟩))
    (fun os started H enc _ => lifted os started H enc)

end Go.Proofs.Ytnkknkijnpdapaa.graphSees
namespace Go.Proofs.Ytnkknkijnpdapaa
theorem graphSees_holds : Rows.GraphSeesSaid := graphSees.over
#print axioms graphSees_holds
end Go.Proofs.Ytnkknkijnpdapaa
