/- GraphAgain, proved for every list of units and of paths: what Order answers is in order already; no condition. -/
import Derived.Test.YtnkknkijnpdapaaRows
import Derived.Test.YtnkknkijnpdapaaHAwake
import Derived.Test.YtnkknkijnpdapaaJOpen
import Derived.Deep.RegionWith
import Derived.ProofKit
import Derived.OpenShut
import Derived.ShutString
import Derived.ChangeOld
import Derived.Below
namespace Go.Proofs.Ytnkknkijnpdapaa.graphAgain
open Go.ChangeShapes Go.WideShapes Go.ChangeAt Go.RowKit
open Go.ChangeMaps (open_string shut_string)
set_option linter.unusedVariables false

theorem own : ownKnob Try.prog.godebug = none := by kernel_rfl
theorem laidOut : laidOutB Try.prog = true := by kernel_rfl

theorem out_tsm {us : List Um} {asked : List ByteArray} (hs : Usm us) : ∀ z ∈ (hrun (us.map Um.un) asked).out, Tsm z := by
  intro z hz
  obtain ⟨i, hi⟩ := List.getElem?_of_mem hz
  obtain ⟨u, hu, _⟩ := (hrun_kept (us.map Um.un) asked).2.1.at i z hi
  obtain ⟨h1, h2⟩ := hunit_some hu
  obtain ⟨m, hm, rfl⟩ := List.mem_map.1 h1
  rw [← h2]
  exact (hs m hm).1

theorem hord_ok {us : List Um} {asked : List ByteArray} (h : hfew us = true) : (hord (us.map Um.un) asked).1.length ≤ 30 := by
  unfold hord
  split
  · have := (hrun_kept (us.map Um.un) asked).2.1.le
    rw [List.length_map] at this
    exact Nat.le_trans this (hfew_of h).1
  · simp

set_option maxRecDepth 10000 in
set_option maxHeartbeats 4000000 in
theorem walk (a0 : Option Addr) (l0 c0 : Nat) (us0 : List Um) (a1 : Option Addr) (l1 c1 : Nat) (zs1 : List ByteArray) (w : World) (hb0 : Hid (Ul w a0 l0 c0 us0)) (hs0 : Hid (Usm us0)) (hb1 : Hid (Sb w a1 l1 c1 zs1)) (hs1 : Hid (∀ z ∈ zs1, Tsm z)) :
    Calls Try.prog 8 #[.slice a0 l0 c0, .slice a1 l1 c1] w fun e w' => e = .returned (.bool true) ∧ Below w.heap.size w w' := by
  have QF : Hid _ := fun V (hV : Below w.heap.size w V) => rhfew_any hb0 V hV
  cases hf : hfew us0 with
  | false =>
    rw [hf] at QF
    go_enter Try.func8, Try.ntmps8
    go_wp2_with fail
    refine Calls.mono (hawake_any w) ?_
    rintro e w1 ⟨rfl, hx1⟩
    have HB1 : Hid (Below w.heap.size w w1) := hx1
    clear hx1
    go_wp2_with fail
    refine Calls.mono (QF.out w1 HB1.out) ?_
    rintro e w2 ⟨rfl, hb2⟩
    have HB2 : Hid (Below w.heap.size w w2) := HB1.out.trans (hb2.mono HB1.out.size)
    clear hb2
    go_wp2
    go_ret
    exact ⟨by first | rfl | simp, HB2.out⟩
  | true =>
    rw [hf] at QF
    have HF : Hid (hfew us0 = true) := hf
    clear hf
    by_cases hl : 30 < l1
    · have g1 : ((l1 : Int) > 30) := by omega
      go_enter Try.func8, Try.ntmps8
      go_wp2_with fail
      refine Calls.mono (hawake_any w) ?_
      rintro e w1 ⟨rfl, hx1⟩
      have HB1 : Hid (Below w.heap.size w w1) := hx1
      clear hx1
      go_wp2_with fail
      refine Calls.mono (QF.out w1 HB1.out) ?_
      rintro e w2 ⟨rfl, hb2⟩
      have HB2 : Hid (Below w.heap.size w w2) := HB1.out.trans (hb2.mono HB1.out.size)
      clear hb2
      go_wp2
      go_ret
      exact ⟨by first | rfl | simp, HB2.out⟩
    · have g1 : ¬ ((l1 : Int) > 30) := by omega
      have hl30 : l0 ≤ 30 := by have := (hfew_of HF.out).1; rw [hb0.out.hlen] at this; exact this
      have QO : Hid _ := fun (x : List ByteArray) (V : World) (hV : Below w.heap.size w V) (a : Option Addr) (c : Nat) (hx : Sb V a x.length c x) (hl : x.length ≤ 30) (ht : ∀ z ∈ x, Tsm z) => pgorder_any (hb0.out.below hV) hx HF hl hs0 ht
      have Q1 : Hid _ := fun (V : World) (hV : Below w.heap.size w V) => pgorder_any (hb0.out.below hV) (hb1.out.below hV) HF (by omega) hs0 hs1
      have hol := hord_ok (asked := zs1) HF.out
      by_cases hE : (hrun (us0.map Um.un) zs1).e = 0
      · have hag := hord_again hE
        have hto := out_tsm (asked := zs1) hs0.out
        have ho : hord (us0.map Um.un) zs1 = ((hrun (us0.map Um.un) zs1).out, ⟨#[]⟩, 0) := by unfold hord; rw [if_pos hE]
        rw [ho] at Q1 hol
        generalize (hrun (us0.map Um.un) zs1).out = R at Q1 hol hag hto
        have Q2 : Hid _ := fun V hV a c hx => QO.out R V hV a c hx hol hto
        rw [hag] at Q2
        simp only at Q1 Q2
        clear hE hag ho QO hto
        go_enter Try.func8, Try.ntmps8
        go_wp2_with fail
        refine Calls.mono (hawake_any w) ?_
        rintro e w1 ⟨rfl, hx1⟩
        have HB1 : Hid (Below w.heap.size w w1) := hx1
        clear hx1
        go_wp2_with fail
        refine Calls.mono (QF.out w1 HB1.out) ?_
        rintro e w2 ⟨rfl, hb2⟩
        have HB2 : Hid (Below w.heap.size w w2) := HB1.out.trans (hb2.mono HB1.out.size)
        clear hb2
        go_wp2_with fail
        refine Calls.mono (Q1.out w2 HB2.out) ?_
        rintro e w3 ⟨v3, rfl, hs3, hb3⟩
        have HB3 : Hid (Below w.heap.size w w3) := HB2.out.trans (hb3.mono HB2.out.size)
        obtain ⟨xa, xc, hv3⟩ := hs3.slice
        subst hv3
        have HS3 : Hid (Sw w3 w2.heap.size (.slice xa R.length xc) R) := hs3
        clear hs3 hb3
        go_wp2_with fail
        refine Calls.mono (Q2.out w3 HB3.out _ _ (Sb.of_own HS3.out)) ?_
        rintro e w4 ⟨v4, rfl, hs4, hb4⟩
        have HB4 : Hid (Below w.heap.size w w4) := HB3.out.trans (hb4.mono HB3.out.size)
        obtain ⟨ya, yc, hv4⟩ := hs4.slice
        subst hv4
        have Q5 : Hid _ := rhsame_any (Sb.of_own (Sw.below HS3.out hb4)) (Sb.of_own hs4)
        rw [decide_eq_true (rfl : R = R)] at Q5
        clear hs4 hb4 HS3
        go_wp2_with fail
        refine Calls.mono Q5.out ?_
        rintro e w5 ⟨rfl, hb5⟩
        have HB5 : Hid (Below w.heap.size w w5) := HB4.out.trans (hb5.mono HB4.out.size)
        clear hb5
        go_wp2
        go_ret
        exact ⟨by first | rfl | simp, HB5.out⟩
      · have ho : hord (us0.map Um.un) zs1 = ([], (hrun (us0.map Um.un) zs1).path, (hrun (us0.map Um.un) zs1).e) := by unfold hord; rw [if_neg hE]
        rw [ho] at Q1
        have hne : ((hrun (us0.map Um.un) zs1).e != 0) = true := by simpa using hE
        have Q2 : Hid _ := fun V hV a c hx => QO.out [] V hV a c hx (by simp) (fun z hz => by simp at hz)
        generalize (hrun (us0.map Um.un) zs1).path = P1 at Q1
        generalize (hrun (us0.map Um.un) zs1).e = E1 at Q1 hne
        obtain ⟨⟨s1, s2, s3⟩, hS⟩ : ∃ S, S = hord (us0.map Um.un) [] := ⟨_, rfl⟩
        rw [← hS] at Q2
        simp only at Q1 Q2
        clear hE ho QO hS hol
        go_enter Try.func8, Try.ntmps8
        go_wp2_with fail
        refine Calls.mono (hawake_any w) ?_
        rintro e w1 ⟨rfl, hx1⟩
        have HB1 : Hid (Below w.heap.size w w1) := hx1
        clear hx1
        go_wp2_with fail
        refine Calls.mono (QF.out w1 HB1.out) ?_
        rintro e w2 ⟨rfl, hb2⟩
        have HB2 : Hid (Below w.heap.size w w2) := HB1.out.trans (hb2.mono HB1.out.size)
        clear hb2
        go_wp2_with fail
        refine Calls.mono (Q1.out w2 HB2.out) ?_
        rintro e w3 ⟨v3, rfl, hs3, hb3⟩
        have HB3 : Hid (Below w.heap.size w w3) := HB2.out.trans (hb3.mono HB2.out.size)
        obtain ⟨xa, xc, hv3⟩ := hs3.slice
        subst hv3
        have HS3 : Hid (Sw w3 w2.heap.size (.slice xa ([] : List ByteArray).length xc) []) := hs3
        clear hs3 hb3
        go_wp2_with fail
        refine Calls.mono (Q2.out w3 HB3.out _ _ (Sb.of_own HS3.out)) ?_
        rintro e w4 ⟨v4, rfl, hs4, hb4⟩
        have HB4 : Hid (Below w.heap.size w w4) := HB3.out.trans (hb4.mono HB3.out.size)
        clear hs4 hb4 HS3
        go_wp2
        go_ret
        exact ⟨by first | rfl | simp, HB4.out⟩

set_option maxRecDepth 100000 in
theorem lifted (os : Os) (started : os.Started) (H : Type) (enc : TypeId × Value → H) :
    ReturnsInHanded {} Try.checked os 8 .any (Rows.graphAgainSpec.pre6 enc Try.prog Try.f8 Rows.graphAgainRow.domain false) (Rows.graphAgainSpec.post enc Try.prog Try.f8 false true false false) := by
  refine returnsInHanded_of_change_sized (C := Try.checked) own started (by kernel_rfl) Try.func8
    (ChangeSpec.witness6 (enc := enc) (C := Try.checked) false ⟨#[], #[.slice none 0 0, .slice none 0 0], []⟩ 8 (by kernel_rfl) (by kernel_rfl) (by kernel_rfl) (by kernel_rfl)) ?_
  intro W base args ds gs before hval0 hW hcnd hwt _
  have hval : ∀ (j : Nat) t v, Try.f8.params[j]? = some t → args[j]? = some v → Value.okWide Try.prog W .any base t v := hval0
  have hW' := hW
  obtain ⟨p, q, hA0, hV, rfl, hfz, hnd⟩ := hW
  have hA : DataW.TrodAll enc Try.prog W 0 (fun _ => true) true Try.f8.params.toList args.toList ds p := hA0
  rw [Try.params8] at hA hval hwt
  obtain ⟨v0, vs0, d0, ds0, p0, q0, hargs, rfl, rfl, h0, r0⟩ := trodAll_cons hA
  obtain ⟨v1, vs1, d1, ds1, p1, q1, rfl, rfl, rfl, h1, r1⟩ := trodAll_cons r0
  obtain ⟨rfl, rfl, rfl⟩ := trodAll_nil r1
  obtain rfl : args = #[v0, v1] := by cases args; simp_all
  obtain ⟨rfl, rfl⟩ := trodVars_none hV
  obtain ⟨a0, l0, c0, rfl⟩ := okWide_slice Try.underlying22 (hval 0 22 v0 rfl rfl)
  have lt0 : ∀ x ∈ p0, x.block < W.heap.size := by obtain ⟨m, hm⟩ := h0; exact DataW.trod_lt m _ _ _ hm
  obtain ⟨us0, wuw0, wux0⟩ := units_open h0
  have wuy0 := wux0 (fun n hn => by
    have := List.all_eq_true.1 hwt n (DataW.weights_mem_each (j := 0) (t := 22) (d := d0) rfl rfl n hn)
    simpa using this)
  obtain ⟨a1, l1, c1, rfl⟩ := okWide_slice Try.underlying23 (hval 1 23 v1 rfl rfl)
  have lt1 : ∀ x ∈ p1, x.block < W.heap.size := by obtain ⟨m, hm⟩ := h1; exact DataW.trod_lt m _ _ _ hm
  obtain ⟨zs1, wuw1, wux1⟩ := sb_open h1
  have wuy1 := wux1 (fun n hn => by
    have := List.all_eq_true.1 hwt n (DataW.weights_mem_each (j := 1) (t := 23) (d := d1) rfl rfl n hn)
    simpa using this)
  clear hA0 hval0
  refine (walk a0 l0 c0 _ a1 l1 c1 _ W wuw0 wuy0 wuw1 wuy1).mono fun e W' ⟨he, bel⟩ => ?_
  subst he
  exact ⟨_, rfl, _, _, _, [], _, [], hW', trodAll_mk1 (shut_bool Try.underlying4 _), (trodAll_cons_mk (Below.trod laidOut (by kernel_rfl) (of_decide_eq_true (by kernel_rfl)) h0 bel lt0) (trodAll_cons_mk (Below.trod laidOut (by kernel_rfl) (of_decide_eq_true (by kernel_rfl)) h1 bel lt1) trodAll_mk0)), rfl, bel.frame _, fun h => by cases h⟩

theorem over : Rows.graphAgainRow.holds Try.pinned (OpenSpec.ofChange Rows.graphAgainSpec) :=
  OpenClaim.holds_of_wide 8 Try.f8 rfl rfl rfl rfl rfl rfl rfl ⟨rfl, rfl, rfl, rfl, rfl⟩ rfl rfl rfl rfl rfl (by kernel_rfl) Try.func8 (by kernel_rfl)
    (of_decide_eq_true (by kernel_rfl)) (by unfold Func.isWrapper; first | (rw [if_pos (by decide +kernel)]; kernel_rfl) | (rw [if_neg (by decide +kernel)]; exact ⟨rfl, rfl⟩))
    (fun os started H enc _ => lifted os started H enc)

end Go.Proofs.Ytnkknkijnpdapaa.graphAgain
namespace Go.Proofs.Ytnkknkijnpdapaa
theorem graphAgain_holds : Rows.GraphAgainSaid := graphAgain.over
#print axioms graphAgain_holds
end Go.Proofs.Ytnkknkijnpdapaa
