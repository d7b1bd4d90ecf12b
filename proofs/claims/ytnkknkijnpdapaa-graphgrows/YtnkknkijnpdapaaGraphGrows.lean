/- GraphGrows, proved for every list of units and every path: a file comes to all that it sees; no condition. -/
import Derived.Test.YtnkknkijnpdapaaRows
import Derived.Test.YtnkknkijnpdapaaHAwake
import Derived.Test.YtnkknkijnpdapaaJOpen
import Derived.Deep.RegionWith
import Derived.ProofKit
import Derived.OpenShut
import Derived.ShutString
import Derived.ChangeOld
import Derived.Below
namespace Go.Proofs.Ytnkknkijnpdapaa.graphGrows
open Go.ChangeShapes Go.WideShapes Go.ChangeAt Go.RowKit
open Go.ChangeMaps (open_string shut_string)
set_option linter.unusedVariables false

theorem own : ownKnob Try.prog.godebug = none := by kernel_rfl
theorem laidOut : laidOutB Try.prog = true := by kernel_rfl

set_option maxRecDepth 10000 in
set_option maxHeartbeats 4000000 in
theorem walk (a0 : Option Addr) (l0 c0 : Nat) (us0 : List Um) (x1 : ByteArray) (w : World) (hb0 : Hid (Ul w a0 l0 c0 us0)) (hs0 : Hid (Usm us0)) (b1 : x1.size ≤ maxLen) :
    Calls Try.prog 7 #[.slice a0 l0 c0, .string x1] w fun e w' => e = .returned (.bool true) ∧ Below w.heap.size w w' := by
  have QF : Hid _ := fun V (hV : Below w.heap.size w V) => rhfew_any hb0 V hV
  cases hf : hfew us0 with
  | false =>
    rw [hf] at QF
    go_enter Try.func7, Try.ntmps7
    go_wp2_with fail
    refine Calls.mono (hawake_any w) ?_
    rintro e w1 ⟨rfl, hx1⟩
    have HB1 : Hid (Below w.heap.size w w1) := hx1
    clear hx1
    go_wp2_with fail
    refine Calls.mono (QF.out w1 HB1.out) ?_
    rintro e w2 ⟨rfl, hb2⟩
    have HB2 : Hid (Below w.heap.size w w2) := HB1.out.trans (hb2.mono HB1.out.size)
    clear hb2
    go_wp2
    go_ret
    exact ⟨by first | rfl | simp, HB2.out⟩
  | true =>
    rw [hf] at QF
    have HF : Hid (hfew us0 = true) := hf
    clear hf
    have QP : Hid _ := fun V (hV : Below w.heap.size w V) => pgvis_any x1 (hb0.out.below hV) HF hs0 b1
    have QC : Hid _ := fun V (hV : Below w.heap.size w V) => pgclo_any x1 (hb0.out.below hV) HF hs0 b1
    obtain ⟨hv1, hv2, hv3⟩ := hvis_clo (l := us0.map Um.un) (p := x1)
    generalize hvis (us0.map Um.un) x1 = R at QP hv1 hv2 hv3
    generalize hclo (us0.map Um.un) x1 = T at QC hv1 hv2
    have HV1 : Hid _ := hv1
    have HV3 : Hid _ := hv3
    clear hv1 hv3
    go_enter Try.func7, Try.ntmps7
    go_wp2_with fail
    refine Calls.mono (hawake_any w) ?_
    rintro e w1 ⟨rfl, hx1⟩
    have HB1 : Hid (Below w.heap.size w w1) := hx1
    clear hx1
    go_wp2_with fail
    refine Calls.mono (QF.out w1 HB1.out) ?_
    rintro e w2 ⟨rfl, hb2⟩
    have HB2 : Hid (Below w.heap.size w w2) := HB1.out.trans (hb2.mono HB1.out.size)
    clear hb2
    go_wp2_with fail
    refine Calls.mono (QP.out w2 HB2.out) ?_
    rintro e w3 ⟨v3, rfl, hs3, hb3⟩
    have HB3 : Hid (Below w.heap.size w w3) := HB2.out.trans (hb3.mono HB2.out.size)
    obtain ⟨xa, xc, hv3⟩ := hs3.slice
    subst hv3
    have HS3 : Hid (Sw w3 w2.heap.size (.slice xa R.length xc) R) := hs3
    clear hs3 hb3
    go_wp2_with fail
    refine Calls.mono (QC.out w3 HB3.out) ?_
    rintro e w4 ⟨v4, rfl, hs4, hb4⟩
    have HB4 : Hid (Below w.heap.size w w4) := HB3.out.trans (hb4.mono HB3.out.size)
    obtain ⟨ya, yc, hv4⟩ := hs4.slice
    subst hv4
    have HX : Hid (Sb w4 xa R.length xc R) := Sb.of_own (Sw.below HS3.out hb4)
    have HY : Hid (Sb w4 ya T.length yc T) := Sb.of_own hs4
    have hl63 := HX.out.h63
    have hl64 := HY.out.h63
    clear hs4 hb4 HS3
    go_wp2
    go_loopw [22] (fun v wr => ∃ j : Nat, v = .int .i64 (j : Int) ∧ j ≤ R.length ∧ w4 = wr) (fun v _ => R.length - (intOf v).toNat)
    case atStart => exact ⟨0, rfl, by omega, rfl⟩
    case round =>
      obtain ⟨j, rfl, hj, rfl⟩ := hrel
      by_cases hjl : j < R.length
      · obtain ⟨b, off, rfl, hlt, hc⟩ := HX.out.hmem (by omega)
        obtain ⟨z, hz⟩ : ∃ z, R[j]? = some z := ⟨R[j]'hjl, List.getElem?_eq_getElem hjl⟩
        have hcell := hc j z hz
        have Q6 : Hid _ := rhin_any z HY
        rw [(hin_iff T z).2 (HV1.out z (List.mem_of_getElem? hz))] at Q6
        clear hc hz
        go_wp2_with fail
        refine Calls.mono Q6.out ?_
        rintro e w6 ⟨rfl, rfl⟩
        go_wp2
        go_roundw
        case rel => first | exact ⟨j + 1, by go_num, by omega, by first | rfl | trivial⟩ | ((repeat apply Exists.intro); exact ⟨⟨j + 1, by go_num, by omega, by first | rfl | trivial⟩, rfl⟩)
        case measure => simp [intOf]; omega
      · obtain rfl : j = R.length := by omega
        by_cases h0 : R.length = 0
        · have h1 : T.length = 0 := hv2.1 h0
          have e1 : ((R.length : Int) == 0) = true := by simp [h0]
          have e2 : ((T.length : Int) == 0) = true := by simp [h1]
          clear hjl h0 h1 hv2
          go_wp2
          go_ret
          exact ⟨by first | rfl | simp, HB4.out⟩
        · have h1 : ¬ T.length = 0 := fun h => h0 (hv2.2 h)
          have e1 : ((R.length : Int) == 0) = false := by simp; exact fun h => h0 (by simp [h])
          have e2 : ((T.length : Int) == 0) = false := by simp; exact fun h => h1 (by simp [h])
          have Q7 : Hid _ := rhin_any x1 HX
          rw [(hin_iff R x1).2 (HV3.out h0)] at Q7
          clear hjl h0 h1 hv2
          go_wp2_with fail
          refine Calls.mono Q7.out ?_
          rintro e w6 ⟨rfl, rfl⟩
          go_wp2
          go_ret
          exact ⟨by first | rfl | simp, HB4.out⟩

set_option maxRecDepth 100000 in
theorem lifted (os : Os) (started : os.Started) (H : Type) (enc : TypeId × Value → H) :
    ReturnsInHanded {} Try.checked os 7 .any (Rows.graphGrowsSpec.pre6 enc Try.prog Try.f7 Rows.graphGrowsRow.domain false) (Rows.graphGrowsSpec.post enc Try.prog Try.f7 false true false false) := by
  refine returnsInHanded_of_change_sized (C := Try.checked) own started (by kernel_rfl) Try.func7
    (ChangeSpec.witness6 (enc := enc) (C := Try.checked) false ⟨#[], #[.slice none 0 0, .string ByteArray.empty], []⟩ 8 (by kernel_rfl) (by kernel_rfl) (by kernel_rfl) (by kernel_rfl)) ?_
  intro W base args ds gs before hval0 hW hcnd hwt _
  have hval : ∀ (j : Nat) t v, Try.f7.params[j]? = some t → args[j]? = some v → Value.okWide Try.prog W .any base t v := hval0
  have hW' := hW
  obtain ⟨p, q, hA0, hV, rfl, hfz, hnd⟩ := hW
  have hA : DataW.TrodAll enc Try.prog W 0 (fun _ => true) true Try.f7.params.toList args.toList ds p := hA0
  rw [Try.params7] at hA hval hwt
  obtain ⟨v0, vs0, d0, ds0, p0, q0, hargs, rfl, rfl, h0, r0⟩ := trodAll_cons hA
  obtain ⟨v1, vs1, d1, ds1, p1, q1, rfl, rfl, rfl, h1, r1⟩ := trodAll_cons r0
  obtain ⟨rfl, rfl, rfl⟩ := trodAll_nil r1
  obtain rfl : args = #[v0, v1] := by cases args; simp_all
  obtain ⟨rfl, rfl⟩ := trodVars_none hV
  obtain ⟨a0, l0, c0, rfl⟩ := okWide_slice Try.underlying22 (hval 0 22 v0 rfl rfl)
  have lt0 : ∀ x ∈ p0, x.block < W.heap.size := by obtain ⟨m, hm⟩ := h0; exact DataW.trod_lt m _ _ _ hm
  obtain ⟨us0, wuw0, wux0⟩ := units_open h0
  have wuy0 := wux0 (fun n hn => by
    have := List.all_eq_true.1 hwt n (DataW.weights_mem_each (j := 0) (t := 22) (d := d0) rfl rfl n hn)
    simpa using this)
  obtain ⟨x1, rfl, rfl, rfl, w1⟩ := open_string Try.underlying9 (hval 1 9 v1 rfl rfl) h1
  clear hA0 hval0
  refine (walk a0 l0 c0 _ x1 W wuw0 wuy0 w1).mono fun e W' ⟨he, bel⟩ => ?_
  subst he
  exact ⟨_, rfl, _, _, _, [], _, [], hW', trodAll_mk1 (shut_bool Try.underlying4 _), (trodAll_cons_mk (Below.trod laidOut (by kernel_rfl) (of_decide_eq_true (by kernel_rfl)) h0 bel lt0) (trodAll_cons_mk (shut_string Try.underlying9 w1) trodAll_mk0)), rfl, bel.frame _, fun h => by cases h⟩

theorem over : Rows.graphGrowsRow.holds Try.pinned (OpenSpec.ofChange Rows.graphGrowsSpec) :=
  OpenClaim.holds_of_wide 7 Try.f7 rfl rfl rfl rfl rfl rfl rfl ⟨rfl, rfl, rfl, rfl, rfl⟩ rfl rfl rfl rfl rfl (by kernel_rfl) Try.func7 (by kernel_rfl)
    (of_decide_eq_true (by kernel_rfl)) (by unfold Func.isWrapper; first | (rw [if_pos (by decide +kernel)]; kernel_rfl) | (rw [if_neg (by decide +kernel)]; exact ⟨rfl, rfl⟩))
    (fun os started H enc _ => lifted os started H enc)

end Go.Proofs.Ytnkknkijnpdapaa.graphGrows
namespace Go.Proofs.Ytnkknkijnpdapaa
theorem graphGrows_holds : Rows.GraphGrowsSaid := graphGrows.over
#print axioms graphGrows_holds
end Go.Proofs.Ytnkknkijnpdapaa
