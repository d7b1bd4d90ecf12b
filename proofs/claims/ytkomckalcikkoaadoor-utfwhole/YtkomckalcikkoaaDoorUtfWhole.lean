/- UtfWhole, proved for all bytes: two texts of characters are one, counted and told valid together; no condition. -/
import Derived.Test.YtkomckalcikkoaaDoorCards
import Derived.Test.YtkomckalcikkoaaDoorTie
import Derived.Test.YtkomckalcikkoaaDoorUAwake
import Derived.Deep.RegionWith
import Derived.ProofKit
import Derived.OpenShut
import Derived.ShutString
import Derived.ChangeOld
import Derived.Below
import Derived.Deep.DeepHandedRow
import Derived.Lib.LaidTab
import Derived.Stop.LaidErr
namespace Go.Proofs.YtkomckalcikkoaaDoor.utfWhole
open Go.ChangeShapes Go.WideShapes Go.ChangeAt Go.RowKit
open Go.ChangeMaps (open_string shut_string)
set_option linter.unusedVariables false

theorem own : ownKnob Tryd.prog.godebug = none := by kernel_rfl
theorem laidOut : laidOutB Tryd.prog = true := by kernel_rfl

theorem gSz : Tryd.prog.globalNamed "glossary/utf.sizes" = some 0 := by kernel_rfl
theorem gSzT : (Tryd.prog.globals[0]?).map (·.type) = some 35 := by kernel_rfl
theorem gHd : Tryd.prog.globalNamed "glossary/utf.heads" = some 1 := by kernel_rfl
theorem gHdT : (Tryd.prog.globals[1]?).map (·.type) = some 37 := by kernel_rfl

/-- WHAT THE ROW's LIST GIVES: the tables' cells hold their numbers. -/
theorem table {W : World} (h : laidMetH Tryd.prog Rows.utfWholeRow.laid W) : Tab W := by
  have h1 : Lib.TabIs Tryd.prog W "glossary/utf.sizes" .i64 szs := Lib.tabIs_of_head (rest := [("glossary/utf.heads", Rows.laid_glossary_utf_heads)]) gSz gSzT Tryd.underlying35 Tryd.underlying3 (by kernel_rfl) (by kernel_rfl) h
  have h0 : laidMet Tryd.prog [("glossary/utf.sizes", Rows.laid_glossary_utf_sizes), ("glossary/utf.heads", Rows.laid_glossary_utf_heads)] W := h
  have h2 : Lib.TabIs Tryd.prog W "glossary/utf.heads" .u8 hds := Lib.tabIs_of_head (rest := []) gHd gHdT Tryd.underlying37 Tryd.underlying5 (by kernel_rfl) (by kernel_rfl) h0.tail
  exact ⟨fun i hi => h1.cell gSz i hi, fun i hi => h2.cell gHd i hi⟩

/-- A WORLD FOR THE WITNESS: the settled one, the tables holding what their initialisers lay. -/
def layCells (xs : Array Value) : Obj → Obj
  | .cells _ t frozen => .cells xs t frozen
  | o => o
noncomputable def laidWorld (os : Os) : World :=
  { World.holding Tryd.prog os ⟨#[], #[], []⟩ with heap := ((World.holding Tryd.prog os ⟨#[], #[], []⟩).heap.modify 0 (layCells (szs.map fun z => Value.int .i64 z).toArray)).modify 1 (layCells (hds.map fun z => Value.int .u8 z).toArray) }

set_option maxHeartbeats 1000000 in
theorem walk (a0 : Option Addr) (l0 c0 : Nat) (z0 : List Int) (a1 : Option Addr) (l1 c1 : Nat) (z1 : List Int) (w : World) (hT : Hid (Tab w)) (hb0 : Hid (Bs w a0 l0 c0 z0)) (hb1 : Hid (Bs w a1 l1 c1 z1)) :
    Calls Tryd.prog 8 #[.slice a0 l0 c0, .slice a1 l1 c1] w fun e w' => e = .returned (.bool true) ∧ Below w.heap.size w w' := by
  have hl0 := hb0.out.2.1
  have hl1 := hb1.out.2.1
  by_cases hbig : 200 < l0
  · have hbig' : (200 : Int) < (l0 : Int) := by omega
    go_enter Tryd.func8, Tryd.ntmps8
    go_wp2_with fail
    refine (uawake_any _ hT).mono ?_
    rintro e w1 ⟨rfl, hbb1⟩
    go_wp2
    go_ret
    exact ⟨rfl, hbb1⟩
  · have hbig' : ¬ (200 : Int) < (l0 : Int) := by omega
    by_cases hbg1 : 200 < l1
    · have hbg1' : (200 : Int) < (l1 : Int) := by omega
      go_enter Tryd.func8, Tryd.ntmps8
      go_wp2_with fail
      refine (uawake_any _ hT).mono ?_
      rintro e w1 ⟨rfl, hbb1⟩
      go_wp2
      go_ret
      exact ⟨rfl, hbb1⟩
    · have hbg1' : ¬ (200 : Int) < (l1 : Int) := by omega
      cases hv : (ucnt z0).2 with
      | false =>
        have p := fun W (hB : Below w.heap.size w W) hW => pvalid_bs (w := W) (a := a0) (len := l0) (cap := c0) (zs := z0) (hT.out.below hB (Nat.le_refl _)) hW
        rw [hv] at p
        have P : Hid _ := p
        clear p
        go_enter Tryd.func8, Tryd.ntmps8
        go_wp2_with fail
        refine (uawake_any _ hT).mono ?_
        rintro e w1 ⟨rfl, hbb1⟩
        go_wp2_with fail
        refine Calls.mono (P.out _ hbb1 (hb0.out.below hbb1 (Nat.le_refl _))) ?_
        rintro e w2 ⟨rfl, hb2⟩
        go_wp2
        go_ret
        exact ⟨rfl, hbb1.trans (hb2.mono hbb1.size)⟩
      | true =>
        have p := fun W (hB : Below w.heap.size w W) hW => pvalid_bs (w := W) (a := a0) (len := l0) (cap := c0) (zs := z0) (hT.out.below hB (Nat.le_refl _)) hW
        rw [hv] at p
        have pc0 := fun W (hB : Below w.heap.size w W) hW => pcount_bs (w := W) (a := a0) (len := l0) (cap := c0) (zs := z0) (hT.out.below hB (Nat.le_refl _)) hW
        have pv1 := fun W (hB : Below w.heap.size w W) hW => pvalid_bs (w := W) (a := a1) (len := l1) (cap := c1) (zs := z1) (hT.out.below hB (Nat.le_refl _)) hW
        have pc1 := fun W (hB : Below w.heap.size w W) hW => pcount_bs (w := W) (a := a1) (len := l1) (cap := c1) (zs := z1) (hT.out.below hB (Nat.le_refl _)) hW
        have hA : ucnt (z0 ++ z1) = ((ucnt z0).1 + (ucnt z1).1, (ucnt z1).2) := ucnt_append l0 z0 z1 (Nat.le_of_eq hb0.out.1) hb0.out.2.2.1 hv
        have hbd0 : 0 ≤ (ucnt z0).1 ∧ (ucnt z0).1 ≤ l0 := by have := ucnt_bd z0.length z0; rw [hb0.out.1] at this; unfold ucnt; rw [hb0.out.1]; exact this
        have hbd1 : 0 ≤ (ucnt z1).1 ∧ (ucnt z1).1 ≤ l1 := by have := ucnt_bd z1.length z1; rw [hb1.out.1] at this; unfold ucnt; rw [hb1.out.1]; exact this
        clear hv
        generalize (ucnt z0).1 = m0 at pc0 hA hbd0
        generalize (ucnt z1).1 = m1 at pc1 hA hbd1
        generalize (ucnt z1).2 = y1 at pv1 hA
        have P : Hid _ := p
        have PC0 : Hid _ := pc0
        have PC1 : Hid _ := pc1
        have PV1 : Hid _ := pv1
        have HA : Hid _ := hA
        clear p pc0 pc1 pv1 hA
        go_enter Tryd.func8, Tryd.ntmps8
        go_wp2_with fail
        refine (uawake_any _ hT).mono ?_
        rintro e w1 ⟨rfl, hbb1⟩
        go_wp2_with fail
        refine Calls.mono (P.out _ hbb1 (hb0.out.below hbb1 (Nat.le_refl _))) ?_
        rintro e w2 ⟨rfl, hb2⟩
        have HB2 : Hid (Below w.heap.size w w2) := hbb1.trans (hb2.mono hbb1.size)
        have SZ2 := HB2.out.size
        have BX2 : Hid (Bs w2 a0 l0 c0 z0) := hb0.out.below HB2.out (Nat.le_refl _)
        have BM2 : Hid (Bs w2 a1 l1 c1 z1) := hb1.out.below HB2.out (Nat.le_refl _)
        clear hb2
        go_wp2_with (first
          | (at_builtin; refine wpList_append_bs rfl _ _ rfl w2.heap.size _ _ _ _ _ _ z0 rfl rfl (World.ownsRow_nil _ _ _ _) BX2.out (by omega) (by omega) ?_; intro v3 w3 hown3 hgrow3; rw [Nat.zero_add, List.nil_append] at hown3; have hB3 : Below w2.heap.size w2 w3 := (Below.refl _ _).grown hgrow3 (by omega) (fun k hk => by cases hk); clear hgrow3)
          | (at_builtin; refine wpList_append_bs rfl _ _ rfl w2.heap.size _ _ _ _ _ _ z1 rfl rfl hown3 (BM2.out.below hB3 (Nat.le_refl _)) (by omega) hB3.size ?_; intro v4 w4 hown4 hgrow4; have HB4 : Hid (Below w2.heap.size w2 w4) := hB3.grown hgrow4 hB3.size (fun k hk => (hown3.lt k hk).1); clear hgrow4 hown3 hB3))
        rw [← List.map_append] at hown4
        obtain ⟨a4, c4, rfl⟩ := own_slice hown4
        have B4 : Hid (Bs w4 a4 (l0 + l1) c4 (z0 ++ z1)) := Bs.of_owns hown4 (fun c hc => (List.mem_append.1 hc).elim (BX2.out.mem c) (BM2.out.mem c))
        have pv := fun W (hB : Below w.heap.size w W) hW => pvalid_bs (w := W) (a := a4) (len := l0 + l1) (cap := c4) (zs := z0 ++ z1) (hT.out.below hB (Nat.le_refl _)) hW
        have pc := fun W (hB : Below w.heap.size w W) hW => pcount_bs (w := W) (a := a4) (len := l0 + l1) (cap := c4) (zs := z0 ++ z1) (hT.out.below hB (Nat.le_refl _)) hW
        rw [HA.out] at pv pc
        have PV : Hid _ := pv
        have PC : Hid _ := pc
        have HW4 : Hid (Below w.heap.size w w4) := HB2.out.trans (HB4.out.mono HB2.out.size)
        clear pv pc hown4 HB4
        refine Calls.mono (PV.out _ HW4.out B4.out) ?_
        rintro e w5 ⟨rfl, hb5⟩
        have HW5 : Hid (Below w.heap.size w w5) := HW4.out.trans (hb5.mono HW4.out.size)
        have HX5 : Hid (Below w4.heap.size w4 w5) := hb5
        clear hb5
        go_wp2_with fail
        refine Calls.mono (PV1.out _ HW5.out (hb1.out.below HW5.out (Nat.le_refl _))) ?_
        rintro e w6 ⟨rfl, hb6⟩
        have HW6 : Hid (Below w.heap.size w w6) := HW5.out.trans (hb6.mono HW5.out.size)
        have HX6 : Hid (Below w4.heap.size w4 w6) := HX5.out.trans (hb6.mono HX5.out.size)
        clear hb6
        go_wp2_with fail
        refine Calls.mono (PC.out _ HW6.out (B4.out.below HX6.out (Nat.le_refl _))) ?_
        rintro e w7 ⟨rfl, hb7⟩
        have HW7 : Hid (Below w.heap.size w w7) := HW6.out.trans (hb7.mono HW6.out.size)
        clear hb7
        go_wp2_with fail
        refine Calls.mono (PC0.out _ HW7.out (hb0.out.below HW7.out (Nat.le_refl _))) ?_
        rintro e w8 ⟨rfl, hb8⟩
        have HW8 : Hid (Below w.heap.size w w8) := HW7.out.trans (hb8.mono HW7.out.size)
        clear hb8
        go_wp2_with fail
        refine Calls.mono (PC1.out _ HW8.out (hb1.out.below HW8.out (Nat.le_refl _))) ?_
        rintro e w9 ⟨rfl, hb9⟩
        have HW9 : Hid (Below w.heap.size w w9) := HW8.out.trans (hb9.mono HW8.out.size)
        clear hb9
        go_wp2
        go_ret
        exact ⟨by simp, HW9.out⟩

theorem contract (H : Type) (enc : TypeId × Value → H) (W : World) (base : Nat) (args : Array Value) (ds gs : List (DataW H)) (before : List MemPlace)
    (hval0 : ∀ (j : Nat) t v, Tryd.f8.params[j]? = some t → args[j]? = some v → Value.okWide Tryd.prog W .any base t v)
    (hW : DataW.Whole enc Tryd.prog Tryd.f8.params.toList Rows.utfWholeSpec.vars false W args.toList ds gs before) (hL : laidMetH Tryd.prog Rows.utfWholeRow.laid W) :
    Calls Tryd.prog 8 args W fun e W' => ∃ v, e = .returned v ∧ Rows.utfWholeSpec.post enc Tryd.prog Tryd.f8 false true false false W args v W' := by
  have hval : ∀ (j : Nat) t v, Tryd.f8.params[j]? = some t → args[j]? = some v → Value.okWide Tryd.prog W .any base t v := hval0
  have hW' := hW
  obtain ⟨p, q, hA0, hV, rfl, hfz, hnd⟩ := hW
  have hA : DataW.TrodAll enc Tryd.prog W 0 (fun _ => true) true Tryd.f8.params.toList args.toList ds p := hA0
  rw [Tryd.params8] at hA hval
  obtain ⟨v0, vs0, d0, ds0, p0, q0, hargs, rfl, rfl, h0, r0⟩ := trodAll_cons hA
  obtain ⟨v1, vs1, d1, ds1, p1, q1, rfl, rfl, rfl, h1, r1⟩ := trodAll_cons r0
  obtain ⟨rfl, rfl, rfl⟩ := trodAll_nil r1
  obtain rfl : args = #[v0, v1] := by cases args; simp_all
  obtain ⟨rfl, rfl⟩ := trodVars_none hV
  obtain ⟨a0, l0, c0, rfl⟩ := okWide_slice Tryd.underlying22 (hval 0 22 v0 rfl rfl)
  have k0 := h0
  have lt0 : ∀ x ∈ p0, x.block < W.heap.size := by obtain ⟨m, hm⟩ := k0; exact DataW.trod_lt m _ _ _ hm
  obtain ⟨z0, w0⟩ : ∃ zs, Bs W a0 l0 c0 zs := by
    obtain ⟨fuel, hf⟩ := h0
    exact bs_open (by simpa [Value.cells] using hf)
  obtain ⟨a1, l1, c1, rfl⟩ := okWide_slice Tryd.underlying22 (hval 1 22 v1 rfl rfl)
  have k1 := h1
  have lt1 : ∀ x ∈ p1, x.block < W.heap.size := by obtain ⟨m, hm⟩ := k1; exact DataW.trod_lt m _ _ _ hm
  obtain ⟨z1, w1⟩ : ∃ zs, Bs W a1 l1 c1 zs := by
    obtain ⟨fuel, hf⟩ := h1
    exact bs_open (by simpa [Value.cells] using hf)
  clear hA0 hval0
  refine (walk a0 l0 c0 _ a1 l1 c1 _ W (table hL) w0 w1).mono fun e W' ⟨he, bel⟩ => ?_
  subst he
  exact ⟨_, rfl, _, _, _, [], _, [], hW', trodAll_mk1 (shut_bool Tryd.underlying4 _), (trodAll_cons_mk (Below.trod laidOut (by kernel_rfl) (of_decide_eq_true (by kernel_rfl)) k0 bel lt0) (trodAll_cons_mk (Below.trod laidOut (by kernel_rfl) (of_decide_eq_true (by kernel_rfl)) k1 bel lt1) trodAll_mk0)), rfl, bel.frame _, fun h => by cases h⟩

theorem laid_met (os : Os) : laidMet Tryd.prog Rows.utfWholeRow.laid ((laidWorld os).forCall (fun _ _ => 0) ⟨#[], #[.slice none 0 0, .slice none 0 0], []⟩).memory :=
  laidMet_of_run' 8 (by kernel_rfl) (by kernel_rfl)

theorem reads (os : Os) {H : Type} (enc : TypeId × Value → H) : ∃ places, DataW.whole enc Tryd.prog ((laidWorld os).forCall (fun _ _ => 0) ⟨#[], #[.slice none 0 0, .slice none 0 0], []⟩).memory Tryd.f8.params.toList Rows.utfWholeSpec.vars false (#[.slice none 0 0, .slice none 0 0] : Array Value).toList 8 = some ([.nil, .nil], [], places) :=
  ⟨[], by kernel_rfl⟩

set_option maxRecDepth 100000 in
theorem lifted (os : Os) (started : os.Started) (H : Type) (enc : TypeId × Value → H) (F : Stop.Interp) :
    ReturnsInHanded {} Tryd.checked os 8 .any ((OpenSpec.ofChange Rows.utfWholeSpec).preRow enc Tryd.prog Tryd.f8 Rows.utfWholeRow.domain false Rows.utfWholeRow.laid) (((OpenSpec.ofChange Rows.utfWholeSpec).at F).post enc Tryd.prog Tryd.f8 false true false false) := by
  obtain ⟨places, hx⟩ := reads os enc
  refine returnsInHanded_of_row (C := Tryd.checked) (s := OpenSpec.ofChange Rows.utfWholeSpec) own started (by kernel_rfl) Tryd.func8
    (witness_row_at (enc := enc) (C := Tryd.checked) false (laidWorld os) #[.slice none 0 0, .slice none 0 0] rfl (by kernel_rfl) (by kernel_rfl) (by kernel_rfl)
      (OpenSpec.preRow_of_cond 8 hx (by kernel_rfl) (fun k hk => by cases hk) (by kernel_rfl) (laid_met os))) ?_
  intro W base args ds gs before hval hW _ _ _ hL _ _
  exact contract H enc W base args ds gs before hval hW hL

theorem said : Rows.UtfWholeSaid :=
  OpenClaim.holds_of_cond 8 Tryd.f8 rfl rfl rfl rfl rfl rfl rfl ⟨rfl, rfl, rfl, rfl, rfl⟩ rfl rfl rfl rfl rfl (by kernel_rfl) Tryd.func8 (by kernel_rfl)
    (of_decide_eq_true (by kernel_rfl)) (by unfold Func.isWrapper; first | (rw [if_pos (by decide +kernel)]; kernel_rfl) | (rw [if_neg (by decide +kernel)]; exact ⟨rfl, rfl⟩))
    (fun os started H enc _ F => by rw [OpenClaim.pre_eq_preRow]; exact lifted os started H enc F)

/-- No parameter wants a stand-in; the program's own looks are off: what the card asks. -/
theorem plain (f : FuncId) (fn : Func) (hf : Tryd.pinned.checked.prog.funcNamed "glossary/glossarylaw03.UtfWhole" = some f) (hfn : Tryd.pinned.checked.prog.funcs[f]? = some fn) :
    false = Tryd.pinned.checked.prog.looks [] ∧ ∀ (j : Nat) t, fn.params[j]? = some t → Tryd.pinned.checked.prog.wantsStandIn t = false := by
  obtain rfl : f = 8 := Option.some.inj ((show Tryd.prog.funcNamed "glossary/glossarylaw03.UtfWhole" = some 8 by kernel_rfl).symm.trans hf) |>.symm
  obtain rfl : fn = Tryd.f8 := (Option.some.inj (Tryd.func8.symm.trans hfn)).symm
  refine ⟨by kernel_rfl, fun j t ht => ?_⟩
  rw [Tryd.params8] at ht
  have hm := Array.mem_of_getElem? ht
  simp only [List.mem_toArray, List.mem_cons, List.not_mem_nil, or_false] at hm
  rcases hm with rfl | rfl
  · exact (show Tryd.prog.wantsStandIn 22 = false by kernel_rfl)
  · exact (show Tryd.prog.wantsStandIn 22 = false by kernel_rfl)

end Go.Proofs.YtkomckalcikkoaaDoor.utfWhole
namespace Go.Proofs.YtkomckalcikkoaaDoor
theorem utfWhole_holds : Rows.UtfWholeCardSaid :=
  Claim7.holds_tied_plain_at .later [] _ _ _ _ utfWhole.said (fun _ h => by cases h) (by kernel_rfl) (fun _ h => by cases h) utfWhole_row_tie rfl ⟨rfl, rfl⟩ (by kernel_rfl) rfl utfWhole.plain (by kernel_rfl)
#print axioms utfWhole_holds
end Go.Proofs.YtkomckalcikkoaaDoor
