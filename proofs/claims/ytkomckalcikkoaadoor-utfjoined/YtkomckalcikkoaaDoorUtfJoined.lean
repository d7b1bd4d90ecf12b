/- UtfJoined, proved for all numbers: two characters one behind the other are two, and a part of one is none; no condition. -/
import Derived.Test.YtkomckalcikkoaaDoorCards
import Derived.Test.YtkomckalcikkoaaDoorTie
import Derived.Test.YtkomckalcikkoaaDoorUAwake
import Derived.Deep.RegionWith
import Derived.ProofKit
import Derived.OpenShut
import Derived.ShutString
import Derived.ChangeOld
import Derived.Below
import Derived.Deep.DeepHandedRow
import Derived.Lib.LaidTab
import Derived.Stop.LaidErr
namespace Go.Proofs.YtkomckalcikkoaaDoor.utfJoined
open Go.ChangeShapes Go.WideShapes Go.ChangeAt Go.RowKit
open Go.ChangeMaps (open_string shut_string)
set_option linter.unusedVariables false

theorem own : ownKnob Tryd.prog.godebug = none := by kernel_rfl
theorem laidOut : laidOutB Tryd.prog = true := by kernel_rfl

theorem gSz : Tryd.prog.globalNamed "glossary/utf.sizes" = some 0 := by kernel_rfl
theorem gSzT : (Tryd.prog.globals[0]?).map (·.type) = some 35 := by kernel_rfl
theorem gHd : Tryd.prog.globalNamed "glossary/utf.heads" = some 1 := by kernel_rfl
theorem gHdT : (Tryd.prog.globals[1]?).map (·.type) = some 37 := by kernel_rfl

/-- WHAT THE ROW's LIST GIVES: the tables' cells hold their numbers. -/
theorem table {W : World} (h : laidMetH Tryd.prog Rows.utfJoinedRow.laid W) : Tab W := by
  have h1 : Lib.TabIs Tryd.prog W "glossary/utf.sizes" .i64 szs := Lib.tabIs_of_head (rest := [("glossary/utf.heads", Rows.laid_glossary_utf_heads)]) gSz gSzT Tryd.underlying35 Tryd.underlying3 (by kernel_rfl) (by kernel_rfl) h
  have h0 : laidMet Tryd.prog [("glossary/utf.sizes", Rows.laid_glossary_utf_sizes), ("glossary/utf.heads", Rows.laid_glossary_utf_heads)] W := h
  have h2 : Lib.TabIs Tryd.prog W "glossary/utf.heads" .u8 hds := Lib.tabIs_of_head (rest := []) gHd gHdT Tryd.underlying37 Tryd.underlying5 (by kernel_rfl) (by kernel_rfl) h0.tail
  exact ⟨fun i hi => h1.cell gSz i hi, fun i hi => h2.cell gHd i hi⟩

/-- A WORLD FOR THE WITNESS: the settled one, the tables holding what their initialisers lay. -/
def layCells (xs : Array Value) : Obj → Obj
  | .cells _ t frozen => .cells xs t frozen
  | o => o
noncomputable def laidWorld (os : Os) : World :=
  { World.holding Tryd.prog os ⟨#[], #[], []⟩ with heap := ((World.holding Tryd.prog os ⟨#[], #[], []⟩).heap.modify 0 (layCells (szs.map fun z => Value.int .i64 z).toArray)).modify 1 (layCells (hds.map fun z => Value.int .u8 z).toArray) }

set_option maxHeartbeats 2000000 in
theorem walk (x0 : Int) (x1 : Int) (x2 : Int) (w : World) (hT : Hid (Tab w)) (b0 : -2147483648 ≤ x0 ∧ x0 ≤ 2147483647) (b1 : -2147483648 ≤ x1 ∧ x1 ≤ 2147483647) (b2 : -9223372036854775808 ≤ x2 ∧ x2 ≤ 9223372036854775807) :
    Calls Tryd.prog 7 #[.int .i32 x0, .int .i32 x1, .int .i64 x2] w fun e w' => e = .returned (.bool true) ∧ Below w.heap.size w w' := by
  have q1 := fun W (hB : Below w.heap.size w W) => pput_any x0 W (hT.out.below hB (Nat.le_refl _))
  have q2 := fun W (hB : Below w.heap.size w W) => pput_any x1 W (hT.out.below hB (Nat.le_refl _))
  cases hc0 : isCh x0 with
  | false =>
    rw [uput_no hc0, List.length_nil] at q1
    have Q1 : Hid _ := q1
    generalize uput x1 = y at q2
    have Q2 : Hid _ := q2
    clear q1 q2 hc0
    go_enter Tryd.func7, Tryd.ntmps7
    go_wp2_with fail
    refine (uawake_any _ hT).mono ?_
    rintro e w1 ⟨rfl, hbb1⟩
    go_wp2_with fail
    refine Calls.mono (Q1.out _ hbb1) ?_
    rintro e w2 ⟨v2, rfl, hown2, hb2⟩
    have HB2 : Hid (Below w.heap.size w w2) := hbb1.trans (hb2.mono hbb1.size)
    obtain ⟨a2, c2, rfl⟩ := own_slice hown2
    go_wp2_with fail
    refine Calls.mono (Q2.out _ HB2.out) ?_
    rintro e w3 ⟨v3, rfl, hown3, hb3⟩
    have HB3 : Hid (Below w.heap.size w w3) := HB2.out.trans (hb3.mono HB2.out.size)
    obtain ⟨a3, c3, rfl⟩ := own_slice hown3
    go_wp2
    go_ret
    exact ⟨rfl, HB3.out⟩
  | true =>
    cases hc1 : isCh x1 with
    | false =>
      have hp := uput_pos hc0
      rw [uput_no hc1, List.length_nil] at q2
      have Q2 : Hid _ := q2
      generalize uput x0 = x at q1 hp
      have hp' : ((x.length : Int) == 0) = false := by simp; intro e; simp [e] at hp
      have Q1 : Hid _ := q1
      clear q1 q2 hc0 hc1
      go_enter Tryd.func7, Tryd.ntmps7
      go_wp2_with fail
      refine (uawake_any _ hT).mono ?_
      rintro e w1 ⟨rfl, hbb1⟩
      go_wp2_with fail
      refine Calls.mono (Q1.out _ hbb1) ?_
      rintro e w2 ⟨v2, rfl, hown2, hb2⟩
      have HB2 : Hid (Below w.heap.size w w2) := hbb1.trans (hb2.mono hbb1.size)
      obtain ⟨a2, c2, rfl⟩ := own_slice hown2
      go_wp2_with fail
      refine Calls.mono (Q2.out _ HB2.out) ?_
      rintro e w3 ⟨v3, rfl, hown3, hb3⟩
      have HB3 : Hid (Below w.heap.size w w3) := HB2.out.trans (hb3.mono HB2.out.size)
      obtain ⟨a3, c3, rfl⟩ := own_slice hown3
      go_wp2
      go_ret
      exact ⟨rfl, HB3.out⟩
    | true =>
      have hpx := uput_pos hc0
      have hpy := uput_pos hc1
      have hqx := uput_len x0
      have hqy := uput_len x1
      have BDx : Hid (∀ c ∈ uput x0, 0 ≤ c ∧ c ≤ 255) := uput_bd x0
      have BDy : Hid (∀ c ∈ uput x1, 0 ≤ c ∧ c ≤ 255) := uput_bd x1
      have HA : Hid (ucnt (uput x0 ++ uput x1) = (2, true)) := by
        show _ = _
        rw [ucnt_append _ (uput x0) (uput x1) (Nat.le_refl _) (getD_bd BDx.out) (by rw [ucnt_uput hc0]), ucnt_uput hc0, ucnt_uput hc1]
        rfl
      have HP : Hid (∀ k, 1 ≤ k → k < (uput x0).length → ucnt ((uput x0).take k) = (0, false)) := fun k h1 h2 => ucnt_part hc0 h1 h2
      generalize uput x0 = x at q1 hpx hqx BDx HA HP
      generalize uput x1 = y at q2 hpy hqy BDy HA
      have hpx' : ((x.length : Int) == 0) = false := by simp; intro e; simp [e] at hpx
      have hpy' : ((y.length : Int) == 0) = false := by simp; intro e; simp [e] at hpy
      have Q1 : Hid _ := q1
      have Q2 : Hid _ := q2
      clear q1 q2 hc0 hc1
      go_enter Tryd.func7, Tryd.ntmps7
      go_wp2_with fail
      refine (uawake_any _ hT).mono ?_
      rintro e w1 ⟨rfl, hbb1⟩
      go_wp2_with fail
      refine Calls.mono (Q1.out _ hbb1) ?_
      rintro e w2 ⟨v2, rfl, hown2, hb2⟩
      have HB2 : Hid (Below w.heap.size w w2) := hbb1.trans (hb2.mono hbb1.size)
      obtain ⟨a2, c2, rfl⟩ := own_slice hown2
      go_wp2_with fail
      refine Calls.mono (Q2.out _ HB2.out) ?_
      rintro e w3 ⟨v3, rfl, hown3, hb3⟩
      have HB3 : Hid (Below w.heap.size w w3) := HB2.out.trans (hb3.mono HB2.out.size)
      obtain ⟨a3, c3, rfl⟩ := own_slice hown3
      have BX3 : Hid (Bs w3 a2 x.length c2 x) := Bs.of_owns (own_below hown2 hb3) BDx.out
      have BY3 : Hid (Bs w3 a3 y.length c3 y) := Bs.of_owns hown3 BDy.out
      clear hown2 hown3 hb2 hb3
      go_wp2_with (first
        | (at_builtin; refine wpList_append_bs rfl _ _ rfl w3.heap.size _ _ _ _ _ _ x rfl rfl (World.ownsRow_nil _ _ _ _) BX3.out (by omega) (by omega) ?_; intro v4 w4 hown4 hgrow4; rw [Nat.zero_add, List.nil_append] at hown4; have hB4 : Below w3.heap.size w3 w4 := (Below.refl _ _).grown hgrow4 (by omega) (fun k hk => by cases hk); clear hgrow4)
        | (at_builtin; refine wpList_append_bs rfl _ _ rfl w3.heap.size _ _ _ _ _ _ y rfl rfl hown4 (BY3.out.below hB4 (Nat.le_refl _)) (by omega) hB4.size ?_; intro v5 w5 hown5 hgrow5; have HB5 : Hid (Below w3.heap.size w3 w5) := hB4.grown hgrow5 hB4.size (fun k hk => (hown4.lt k hk).1); clear hgrow5 hown4 hB4))
      rw [← List.map_append] at hown5
      obtain ⟨a5, c5, rfl⟩ := own_slice hown5
      have B5 : Hid (Bs w5 a5 (x.length + y.length) c5 (x ++ y)) := Bs.of_owns hown5 (fun c hc => (List.mem_append.1 hc).elim (BDx.out c) (BDy.out c))
      have pv := fun W (hB : Below w.heap.size w W) hW => pvalid_bs (w := W) (a := a5) (len := x.length + y.length) (cap := c5) (zs := x ++ y) (hT.out.below hB (Nat.le_refl _)) hW
      have pc := fun W (hB : Below w.heap.size w W) hW => pcount_bs (w := W) (a := a5) (len := x.length + y.length) (cap := c5) (zs := x ++ y) (hT.out.below hB (Nat.le_refl _)) hW
      rw [HA.out] at pv pc
      have PV : Hid _ := pv
      have PC : Hid _ := pc
      have HW5 : Hid (Below w.heap.size w w5) := HB3.out.trans (HB5.out.mono HB3.out.size)
      clear pv pc hown5
      refine Calls.mono (PV.out _ HW5.out B5.out) ?_
      rintro e w6 ⟨rfl, hb6⟩
      have HX6 : Hid (Below w3.heap.size w3 w6) := HB5.out.trans (hb6.mono HB5.out.size)
      have B6 : Hid (Bs w6 a5 (x.length + y.length) c5 (x ++ y)) := B5.out.below hb6 (Nat.le_refl _)
      clear hb6
      go_wp2_with fail
      refine Calls.mono (PC.out _ (HB3.out.trans (HX6.out.mono HB3.out.size)) B6.out) ?_
      rintro e w7 ⟨rfl, hb7⟩
      have HX7 : Hid (Below w3.heap.size w3 w7) := HX6.out.trans (hb7.mono HX6.out.size)
      have HW7 : Hid (Below w.heap.size w w7) := HB3.out.trans (HX7.out.mono HB3.out.size)
      clear hb7
      by_cases h1 : x2 < 1
      · go_wp2
        go_ret
        exact ⟨rfl, HW7.out⟩
      · by_cases h2 : (x.length : Int) ≤ x2
        · go_wp2
          go_ret
          exact ⟨rfl, HW7.out⟩
        · obtain ⟨k, rfl⟩ : ∃ k : Nat, x2 = (k : Int) := ⟨x2.toNat, by omega⟩
          have BK := (BX3.out.below HX7.out (Nat.le_refl _)).head k (by omega)
          have hcc : (k : Int) ≤ (c2 : Int) := by have := BX3.out.2.2.2.1; omega
          have pv := fun W (hB : Below w.heap.size w W) hW => pvalid_bs (w := W) (a := a2) (len := k) (cap := c2) (zs := x.take k) (hT.out.below hB (Nat.le_refl _)) hW
          have pc := fun W (hB : Below w.heap.size w W) hW => pcount_bs (w := W) (a := a2) (len := k) (cap := c2) (zs := x.take k) (hT.out.below hB (Nat.le_refl _)) hW
          rw [HP.out k (by omega) (by omega)] at pv pc
          have PV7 : Hid _ := pv
          have PC7 : Hid _ := pc
          have BK7 : Hid (Bs w7 a2 k c2 (x.take k)) := BK
          clear pv pc BK
          go_wp2_with fail
          refine Calls.mono (PV7.out _ HW7.out BK7.out) ?_
          rintro e w8 ⟨rfl, hb8⟩
          have HW8 : Hid (Below w.heap.size w w8) := HW7.out.trans (hb8.mono HW7.out.size)
          have BK8 : Hid (Bs w8 a2 k c2 (x.take k)) := BK7.out.below hb8 (Nat.le_refl _)
          clear hb8
          go_wp2_with fail
          refine Calls.mono (PC7.out _ HW8.out BK8.out) ?_
          rintro e w9 ⟨rfl, hb9⟩
          have HW9 : Hid (Below w.heap.size w w9) := HW8.out.trans (hb9.mono HW8.out.size)
          clear hb9
          go_wp2
          go_ret
          exact ⟨rfl, HW9.out⟩

theorem contract (H : Type) (enc : TypeId × Value → H) (W : World) (base : Nat) (args : Array Value) (ds gs : List (DataW H)) (before : List MemPlace)
    (hval0 : ∀ (j : Nat) t v, Tryd.f7.params[j]? = some t → args[j]? = some v → Value.okWide Tryd.prog W .any base t v)
    (hW : DataW.Whole enc Tryd.prog Tryd.f7.params.toList Rows.utfJoinedSpec.vars false W args.toList ds gs before) (hL : laidMetH Tryd.prog Rows.utfJoinedRow.laid W) :
    Calls Tryd.prog 7 args W fun e W' => ∃ v, e = .returned v ∧ Rows.utfJoinedSpec.post enc Tryd.prog Tryd.f7 false true false false W args v W' := by
  have hval : ∀ (j : Nat) t v, Tryd.f7.params[j]? = some t → args[j]? = some v → Value.okWide Tryd.prog W .any base t v := hval0
  have hW' := hW
  obtain ⟨p, q, hA0, hV, rfl, hfz, hnd⟩ := hW
  have hA : DataW.TrodAll enc Tryd.prog W 0 (fun _ => true) true Tryd.f7.params.toList args.toList ds p := hA0
  rw [Tryd.params7] at hA hval
  obtain ⟨v0, vs0, d0, ds0, p0, q0, hargs, rfl, rfl, h0, r0⟩ := trodAll_cons hA
  obtain ⟨v1, vs1, d1, ds1, p1, q1, rfl, rfl, rfl, h1, r1⟩ := trodAll_cons r0
  obtain ⟨v2, vs2, d2, ds2, p2, q2, rfl, rfl, rfl, h2, r2⟩ := trodAll_cons r1
  obtain ⟨rfl, rfl, rfl⟩ := trodAll_nil r2
  obtain rfl : args = #[v0, v1, v2] := by cases args; simp_all
  obtain ⟨rfl, rfl⟩ := trodVars_none hV
  obtain ⟨x0, rfl, rfl, rfl, w0⟩ := open_int Tryd.underlying21 (hval 0 21 v0 rfl rfl) h0
  obtain ⟨x1, rfl, rfl, rfl, w1⟩ := open_int Tryd.underlying21 (hval 1 21 v1 rfl rfl) h1
  obtain ⟨x2, rfl, rfl, rfl, w2⟩ := open_int Tryd.underlying3 (hval 2 3 v2 rfl rfl) h2
  clear hA0 hval0
  refine (walk x0 x1 x2 W (table hL) (bounds_i32 w0) (bounds_i32 w1) (bounds_i64 w2)).mono fun e W' ⟨he, bel⟩ => ?_
  subst he
  exact ⟨_, rfl, _, _, _, [], _, [], hW', trodAll_mk1 (shut_bool Tryd.underlying4 _), (trodAll_cons_mk (shut_int Tryd.underlying21 w0) (trodAll_cons_mk (shut_int Tryd.underlying21 w1) (trodAll_cons_mk (shut_int Tryd.underlying3 w2) trodAll_mk0))), rfl, bel.frame _, fun h => by cases h⟩

theorem laid_met (os : Os) : laidMet Tryd.prog Rows.utfJoinedRow.laid ((laidWorld os).forCall (fun _ _ => 0) ⟨#[], #[.int .i32 0, .int .i32 0, .int .i64 0], []⟩).memory :=
  laidMet_of_run' 8 (by kernel_rfl) (by kernel_rfl)

theorem reads (os : Os) {H : Type} (enc : TypeId × Value → H) : ∃ places, DataW.whole enc Tryd.prog ((laidWorld os).forCall (fun _ _ => 0) ⟨#[], #[.int .i32 0, .int .i32 0, .int .i64 0], []⟩).memory Tryd.f7.params.toList Rows.utfJoinedSpec.vars false (#[.int .i32 0, .int .i32 0, .int .i64 0] : Array Value).toList 8 = some ([.lit (.int .i32 0), .lit (.int .i32 0), .lit (.int .i64 0)], [], places) :=
  ⟨[], by kernel_rfl⟩

set_option maxRecDepth 100000 in
theorem lifted (os : Os) (started : os.Started) (H : Type) (enc : TypeId × Value → H) (F : Stop.Interp) :
    ReturnsInHanded {} Tryd.checked os 7 .any ((OpenSpec.ofChange Rows.utfJoinedSpec).preRow enc Tryd.prog Tryd.f7 Rows.utfJoinedRow.domain false Rows.utfJoinedRow.laid) (((OpenSpec.ofChange Rows.utfJoinedSpec).at F).post enc Tryd.prog Tryd.f7 false true false false) := by
  obtain ⟨places, hx⟩ := reads os enc
  refine returnsInHanded_of_row (C := Tryd.checked) (s := OpenSpec.ofChange Rows.utfJoinedSpec) own started (by kernel_rfl) Tryd.func7
    (witness_row_at (enc := enc) (C := Tryd.checked) false (laidWorld os) #[.int .i32 0, .int .i32 0, .int .i64 0] rfl (by kernel_rfl) (by kernel_rfl) (by kernel_rfl)
      (OpenSpec.preRow_of_cond 8 hx (by kernel_rfl) (fun k hk => by cases hk) (by kernel_rfl) (laid_met os))) ?_
  intro W base args ds gs before hval hW _ _ _ hL _ _
  exact contract H enc W base args ds gs before hval hW hL

theorem said : Rows.UtfJoinedSaid :=
  OpenClaim.holds_of_cond 7 Tryd.f7 rfl rfl rfl rfl rfl rfl rfl ⟨rfl, rfl, rfl, rfl, rfl⟩ rfl rfl rfl rfl rfl (by kernel_rfl) Tryd.func7 (by kernel_rfl)
    (of_decide_eq_true (by kernel_rfl)) (by unfold Func.isWrapper; first | (rw [if_pos (by decide +kernel)]; kernel_rfl) | (rw [if_neg (by decide +kernel)]; exact ⟨rfl, rfl⟩))
    (fun os started H enc _ F => by rw [OpenClaim.pre_eq_preRow]; exact lifted os started H enc F)

/-- No parameter wants a stand-in; the program's own looks are off: what the card asks. -/
theorem plain (f : FuncId) (fn : Func) (hf : Tryd.pinned.checked.prog.funcNamed "glossary/glossarylaw03.UtfJoined" = some f) (hfn : Tryd.pinned.checked.prog.funcs[f]? = some fn) :
    false = Tryd.pinned.checked.prog.looks [] ∧ ∀ (j : Nat) t, fn.params[j]? = some t → Tryd.pinned.checked.prog.wantsStandIn t = false := by
  obtain rfl : f = 7 := Option.some.inj ((show Tryd.prog.funcNamed "glossary/glossarylaw03.UtfJoined" = some 7 by kernel_rfl).symm.trans hf) |>.symm
  obtain rfl : fn = Tryd.f7 := (Option.some.inj (Tryd.func7.symm.trans hfn)).symm
  refine ⟨by kernel_rfl, fun j t ht => ?_⟩
  rw [Tryd.params7] at ht
  have hm := Array.mem_of_getElem? ht
  simp only [List.mem_toArray, List.mem_cons, List.not_mem_nil, or_false] at hm
  rcases hm with rfl | rfl | rfl
  · exact (show Tryd.prog.wantsStandIn 21 = false by kernel_rfl)
  · exact (show Tryd.prog.wantsStandIn 21 = false by kernel_rfl)
  · exact (show Tryd.prog.wantsStandIn 3 = false by kernel_rfl)

end Go.Proofs.YtkomckalcikkoaaDoor.utfJoined
namespace Go.Proofs.YtkomckalcikkoaaDoor
theorem utfJoined_holds : Rows.UtfJoinedCardSaid :=
  Claim7.holds_tied_plain_at .later [] _ _ _ _ utfJoined.said (fun _ h => by cases h) (by kernel_rfl) (fun _ h => by cases h) utfJoined_row_tie rfl ⟨rfl, rfl⟩ (by kernel_rfl) rfl utfJoined.plain (by kernel_rfl)
#print axioms utfJoined_holds
end Go.Proofs.YtkomckalcikkoaaDoor
