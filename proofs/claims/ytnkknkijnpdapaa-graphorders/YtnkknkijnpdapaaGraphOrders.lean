/- GraphOrders, proved for every list of units and of paths: Order answers as the document asks; no condition. -/
import Derived.Test.YtnkknkijnpdapaaRows
import Derived.Test.YtnkknkijnpdapaaHAwake
import Derived.Test.YtnkknkijnpdapaaJOpen
import Derived.Deep.RegionWith
import Derived.ProofKit
import Derived.OpenShut
import Derived.ShutString
import Derived.ChangeOld
import Derived.Below
namespace Go.Proofs.Ytnkknkijnpdapaa.graphOrders
open Go.ChangeShapes Go.WideShapes Go.ChangeAt Go.RowKit
open Go.ChangeMaps (open_string shut_string)
set_option linter.unusedVariables false

theorem own : ownKnob Try.prog.godebug = none := by kernel_rfl
theorem laidOut : laidOutB Try.prog = true := by kernel_rfl

set_option maxRecDepth 10000 in
set_option maxHeartbeats 4000000 in
theorem walk (a0 : Option Addr) (l0 c0 : Nat) (us0 : List Um) (a1 : Option Addr) (l1 c1 : Nat) (zs1 : List ByteArray) (w : World) (hb0 : Hid (Ul w a0 l0 c0 us0)) (hs0 : Hid (Usm us0)) (hb1 : Hid (Sb w a1 l1 c1 zs1)) (hs1 : Hid (∀ z ∈ zs1, Tsm z)) :
    Calls Try.prog 3 #[.slice a0 l0 c0, .slice a1 l1 c1] w fun e w' => e = .returned (.bool true) ∧ Below w.heap.size w w' := by
  have QF : Hid _ := fun V (hV : Below w.heap.size w V) => rhfew_any hb0 V hV
  cases hf : hfew us0 with
  | false =>
    rw [hf] at QF
    go_enter Try.func3, Try.ntmps3
    go_wp2_with fail
    refine Calls.mono (hawake_any w) ?_
    rintro e w1 ⟨rfl, hb1⟩
    have HB1 : Hid (Below w.heap.size w w1) := hb1
    clear hb1
    go_wp2_with fail
    refine Calls.mono (QF.out w1 HB1.out) ?_
    rintro e w2 ⟨rfl, hb2⟩
    have HB2 : Hid (Below w.heap.size w w2) := HB1.out.trans (hb2.mono HB1.out.size)
    clear hb2
    go_wp2
    go_ret
    exact ⟨by first | rfl | simp, HB2.out⟩
  | true =>
    rw [hf] at QF
    have HF : Hid (hfew us0 = true) := hf
    clear hf
    by_cases hl : 30 < l1
    · have g1 : ((l1 : Int) > 30) := by omega
      go_enter Try.func3, Try.ntmps3
      go_wp2_with fail
      refine Calls.mono (hawake_any w) ?_
      rintro e w1 ⟨rfl, hb1⟩
      have HB1 : Hid (Below w.heap.size w w1) := hb1
      clear hb1
      go_wp2_with fail
      refine Calls.mono (QF.out w1 HB1.out) ?_
      rintro e w2 ⟨rfl, hb2⟩
      have HB2 : Hid (Below w.heap.size w w2) := HB1.out.trans (hb2.mono HB1.out.size)
      clear hb2
      go_wp2
      go_ret
      exact ⟨by first | rfl | simp, HB2.out⟩
    · have g1 : ¬ ((l1 : Int) > 30) := by omega
      have hl30 : l0 ≤ 30 := by have := (hfew_of HF.out).1; rw [hb0.out.hlen] at this; exact this
      have QO : Hid _ := fun V (hV : Below w.heap.size w V) => pgorder_any (hb0.out.below hV) (hb1.out.below hV) HF (by omega) hs0 hs1
      have QR : Hid _ := fun V (hV : Below w.heap.size w V) => rorder_any (hb0.out.below hV) (hb1.out.below hV) (by omega) (by omega) (fun j u hj => Nat.le_trans ((hfew_of HF.out).2 j u hj).1 (by omega))
      obtain ⟨⟨r1, r2, r3⟩, hR⟩ : ∃ R, R = hord (us0.map Um.un) zs1 := ⟨_, rfl⟩
      rw [← hR] at QO QR
      simp only at QO QR
      have hx1 : (r2.toList == r2.toList) = true := by simp
      have hx2 : (r3 == r3) = true := by simp
      clear hR hl30
      go_enter Try.func3, Try.ntmps3
      go_wp2_with fail
      refine Calls.mono (hawake_any w) ?_
      rintro e w1 ⟨rfl, hx1⟩
      have HB1 : Hid (Below w.heap.size w w1) := hx1
      clear hx1
      go_wp2_with fail
      refine Calls.mono (QF.out w1 HB1.out) ?_
      rintro e w2 ⟨rfl, hb2⟩
      have HB2 : Hid (Below w.heap.size w w2) := HB1.out.trans (hb2.mono HB1.out.size)
      clear hb2
      go_wp2_with fail
      refine Calls.mono (QO.out w2 HB2.out) ?_
      rintro e w3 ⟨v3, rfl, hs3, hb3⟩
      have HB3 : Hid (Below w.heap.size w w3) := HB2.out.trans (hb3.mono HB2.out.size)
      obtain ⟨xa, xc, hv3⟩ := hs3.slice
      subst hv3
      have HS3 : Hid (Sw w3 w2.heap.size (.slice xa r1.length xc) r1) := hs3
      clear hs3 hb3
      go_wp2_with fail
      refine Calls.mono (QR.out w3 HB3.out) ?_
      rintro e w4 ⟨v4, rfl, hs4, hb4⟩
      have HB4 : Hid (Below w.heap.size w w4) := HB3.out.trans (hb4.mono HB3.out.size)
      obtain ⟨ya, yc, hv4⟩ := hs4.slice
      subst hv4
      have Q5 : Hid _ := rhsame_any (Sb.of_own (HS3.out.below hb4)) (Sb.of_own hs4)
      rw [decide_eq_true (rfl : r1 = r1)] at Q5
      clear hs4 hb4 HS3
      go_wp2_with fail
      refine Calls.mono Q5.out ?_
      rintro e w5 ⟨rfl, hb5⟩
      have HB5 : Hid (Below w.heap.size w w5) := HB4.out.trans (hb5.mono HB4.out.size)
      clear hb5
      go_wp2
      go_ret
      exact ⟨by first | rfl | simp, HB5.out⟩

set_option maxRecDepth 100000 in
theorem lifted (os : Os) (started : os.Started) (H : Type) (enc : TypeId × Value → H) :
    ReturnsInHanded {} Try.checked os 3 .any (Rows.graphOrdersSpec.pre6 enc Try.prog Try.f3 Rows.graphOrdersRow.domain false) (Rows.graphOrdersSpec.post enc Try.prog Try.f3 false true false false) := by
  refine returnsInHanded_of_change_sized (C := Try.checked) own started (by kernel_rfl) Try.func3
    (ChangeSpec.witness6 (enc := enc) (C := Try.checked) false ⟨#[], #[.slice none 0 0, .slice none 0 0], []⟩ 8 (by kernel_rfl) (by kernel_rfl) (by kernel_rfl) (by kernel_rfl)) ?_
  intro W base args ds gs before hval0 hW hcnd hwt _
  have hval : ∀ (j : Nat) t v, Try.f3.params[j]? = some t → args[j]? = some v → Value.okWide Try.prog W .any base t v := hval0
  have hW' := hW
  obtain ⟨p, q, hA0, hV, rfl, hfz, hnd⟩ := hW
  have hA : DataW.TrodAll enc Try.prog W 0 (fun _ => true) true Try.f3.params.toList args.toList ds p := hA0
  rw [Try.params3] at hA hval hwt
  obtain ⟨v0, vs0, d0, ds0, p0, q0, hargs, rfl, rfl, h0, r0⟩ := trodAll_cons hA
  obtain ⟨v1, vs1, d1, ds1, p1, q1, rfl, rfl, rfl, h1, r1⟩ := trodAll_cons r0
  obtain ⟨rfl, rfl, rfl⟩ := trodAll_nil r1
  obtain rfl : args = #[v0, v1] := by cases args; simp_all
  obtain ⟨rfl, rfl⟩ := trodVars_none hV
  obtain ⟨a0, l0, c0, rfl⟩ := okWide_slice Try.underlying22 (hval 0 22 v0 rfl rfl)
  have lt0 : ∀ x ∈ p0, x.block < W.heap.size := by obtain ⟨m, hm⟩ := h0; exact DataW.trod_lt m _ _ _ hm
  obtain ⟨us0, wuw0, wux0⟩ := units_open h0
  have wuy0 := wux0 (fun n hn => by
    have := List.all_eq_true.1 hwt n (DataW.weights_mem_each (j := 0) (t := 22) (d := d0) rfl rfl n hn)
    simpa using this)
  obtain ⟨a1, l1, c1, rfl⟩ := okWide_slice Try.underlying23 (hval 1 23 v1 rfl rfl)
  have lt1 : ∀ x ∈ p1, x.block < W.heap.size := by obtain ⟨m, hm⟩ := h1; exact DataW.trod_lt m _ _ _ hm
  obtain ⟨zs1, wuw1, wux1⟩ := sb_open h1
  have wuy1 := wux1 (fun n hn => by
    have := List.all_eq_true.1 hwt n (DataW.weights_mem_each (j := 1) (t := 23) (d := d1) rfl rfl n hn)
    simpa using this)
  clear hA0 hval0
  refine (walk a0 l0 c0 _ a1 l1 c1 _ W wuw0 wuy0 wuw1 wuy1).mono fun e W' ⟨he, bel⟩ => ?_
  subst he
  exact ⟨_, rfl, _, _, _, [], _, [], hW', trodAll_mk1 (shut_bool Try.underlying4 _), (trodAll_cons_mk (Below.trod laidOut (by kernel_rfl) (of_decide_eq_true (by kernel_rfl)) h0 bel lt0) (trodAll_cons_mk (Below.trod laidOut (by kernel_rfl) (of_decide_eq_true (by kernel_rfl)) h1 bel lt1) trodAll_mk0)), rfl, bel.frame _, fun h => by cases h⟩

theorem over : Rows.graphOrdersRow.holds Try.pinned (OpenSpec.ofChange Rows.graphOrdersSpec) :=
  OpenClaim.holds_of_wide 3 Try.f3 rfl rfl rfl rfl rfl rfl rfl ⟨rfl, rfl, rfl, rfl, rfl⟩ rfl rfl rfl rfl rfl (by kernel_rfl) Try.func3 (by kernel_rfl)
    (of_decide_eq_true (by kernel_rfl)) (by unfold Func.isWrapper; first | (rw [if_pos (by decide +kernel)]; kernel_rfl) | (rw [if_neg (by decide +kernel)]; exact ⟨rfl, rfl⟩))
    (fun os started H enc _ => lifted os started H enc)

end Go.Proofs.Ytnkknkijnpdapaa.graphOrders
namespace Go.Proofs.Ytnkknkijnpdapaa
theorem graphOrders_holds : Rows.GraphOrdersSaid := graphOrders.over
#print axioms graphOrders_holds
end Go.Proofs.Ytnkknkijnpdapaa
