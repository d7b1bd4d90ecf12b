/- UtfBack, proved for every number of 32 bits and all bytes behind: what Put answers is found again by Rune; no condition. -/
import Derived.Test.YtkomckalcikkoaaDoorCards
import Derived.Test.YtkomckalcikkoaaDoorTie
import Derived.Test.YtkomckalcikkoaaDoorUAwake
import Derived.Deep.RegionWith
import Derived.ProofKit
import Derived.OpenShut
import Derived.ShutString
import Derived.ChangeOld
import Derived.Below
import Derived.Deep.DeepHandedRow
import Derived.Lib.LaidTab
import Derived.Stop.LaidErr
namespace Go.Proofs.YtkomckalcikkoaaDoor.utfBack
open Go.ChangeShapes Go.WideShapes Go.ChangeAt Go.RowKit
open Go.ChangeMaps (open_string shut_string)
set_option linter.unusedVariables false

theorem own : ownKnob Tryd.prog.godebug = none := by kernel_rfl
theorem laidOut : laidOutB Tryd.prog = true := by kernel_rfl

theorem gSz : Tryd.prog.globalNamed "glossary/utf.sizes" = some 0 := by kernel_rfl
theorem gSzT : (Tryd.prog.globals[0]?).map (·.type) = some 35 := by kernel_rfl
theorem gHd : Tryd.prog.globalNamed "glossary/utf.heads" = some 1 := by kernel_rfl
theorem gHdT : (Tryd.prog.globals[1]?).map (·.type) = some 37 := by kernel_rfl

/-- WHAT THE ROW's LIST GIVES: the tables' cells hold their numbers. -/
theorem table {W : World} (h : laidMetH Tryd.prog Rows.utfBackRow.laid W) : Tab W := by
  have h1 : Lib.TabIs Tryd.prog W "glossary/utf.sizes" .i64 szs := Lib.tabIs_of_head (rest := [("glossary/utf.heads", Rows.laid_glossary_utf_heads)]) gSz gSzT Tryd.underlying35 Tryd.underlying3 (by kernel_rfl) (by kernel_rfl) h
  have h0 : laidMet Tryd.prog [("glossary/utf.sizes", Rows.laid_glossary_utf_sizes), ("glossary/utf.heads", Rows.laid_glossary_utf_heads)] W := h
  have h2 : Lib.TabIs Tryd.prog W "glossary/utf.heads" .u8 hds := Lib.tabIs_of_head (rest := []) gHd gHdT Tryd.underlying37 Tryd.underlying5 (by kernel_rfl) (by kernel_rfl) h0.tail
  exact ⟨fun i hi => h1.cell gSz i hi, fun i hi => h2.cell gHd i hi⟩

/-- A WORLD FOR THE WITNESS: the settled one, the tables holding what their initialisers lay. -/
def layCells (xs : Array Value) : Obj → Obj
  | .cells _ t frozen => .cells xs t frozen
  | o => o
noncomputable def laidWorld (os : Os) : World :=
  { World.holding Tryd.prog os ⟨#[], #[], []⟩ with heap := ((World.holding Tryd.prog os ⟨#[], #[], []⟩).heap.modify 0 (layCells (szs.map fun z => Value.int .i64 z).toArray)).modify 1 (layCells (hds.map fun z => Value.int .u8 z).toArray) }

set_option maxHeartbeats 1000000 in
theorem walk (x0 : Int) (a1 : Option Addr) (l1 c1 : Nat) (z1 : List Int) (w : World) (hT : Hid (Tab w)) (b0 : -2147483648 ≤ x0 ∧ x0 ≤ 2147483647) (hb1 : Hid (Bs w a1 l1 c1 z1)) :
    Calls Tryd.prog 6 #[.int .i32 x0, .slice a1 l1 c1] w fun e w' => e = .returned (.bool true) ∧ Below w.heap.size w w' := by
  have hll := hb1.out.2.1
  by_cases hbig : 100 < l1
  · have hbig' : (100 : Int) < (l1 : Int) := by omega
    go_enter Tryd.func6, Tryd.ntmps6
    go_wp2_with fail
    refine (uawake_any _ hT).mono ?_
    rintro e w1 ⟨rfl, hbb1⟩
    go_wp2_with fail
    refine (pput_any _ _ (hT.out.below hbb1 (Nat.le_refl _))).mono ?_
    rintro e w2 ⟨v2, rfl, hown2, hb2⟩
    go_wp2
    go_ret
    exact ⟨rfl, hbb1.trans (hb2.mono hbb1.size)⟩
  · have hbig' : ¬ (100 : Int) < (l1 : Int) := by omega
    cases hch : isCh x0 with
    | false =>
      have q := fun W (hB : Below w.heap.size w W) => pput_any x0 W (hT.out.below hB (Nat.le_refl _))
      rw [uput_no hch, List.length_nil] at q
      have Q : Hid _ := q
      clear q hch
      go_enter Tryd.func6, Tryd.ntmps6
      go_wp2_with fail
      refine (uawake_any _ hT).mono ?_
      rintro e w1 ⟨rfl, hbb1⟩
      go_wp2_with fail
      refine Calls.mono (Q.out _ hbb1) ?_
      rintro e w2 ⟨v2, rfl, hown2, hb2⟩
      obtain ⟨a2, c2, rfl⟩ := own_slice hown2
      go_wp2
      go_ret
      exact ⟨rfl, hbb1.trans (hb2.mono hbb1.size)⟩
    | true =>
      have q := fun W (hB : Below w.heap.size w W) => pput_any x0 W (hT.out.below hB (Nat.le_refl _))
      have HR : Hid (urune (uput x0 ++ z1) = (x0, ((uput x0).length : Int))) := urune_uput hch z1
      have hp := uput_pos hch
      have hq := uput_len x0
      have BD : Hid (∀ c ∈ uput x0, 0 ≤ c ∧ c ≤ 255) := uput_bd x0
      generalize uput x0 = l at q HR BD hp hq
      have Q : Hid _ := q
      have hp' : ((l.length : Int) == 0) = false := by simp; intro e; simp [e] at hp
      clear q hch
      go_enter Tryd.func6, Tryd.ntmps6
      go_wp2_with fail
      refine (uawake_any _ hT).mono ?_
      rintro e w1 ⟨rfl, hbb1⟩
      go_wp2_with fail
      refine Calls.mono (Q.out _ hbb1) ?_
      rintro e w2 ⟨v2, rfl, hown2, hb2⟩
      obtain ⟨a2, c2, rfl⟩ := own_slice hown2
      have HB2 : Hid (Below w.heap.size w w2) := hbb1.trans (hb2.mono hbb1.size)
      have SZ2 := HB2.out.size
      have BX2 : Hid (Bs w2 a2 l.length c2 l) := Bs.of_owns hown2 BD.out
      have BM2 : Hid (Bs w2 a1 l1 c1 z1) := hb1.out.below HB2.out (Nat.le_refl _)
      clear hown2 hb2
      go_wp2_with (first
        | (at_builtin; refine wpList_append_bs rfl _ _ rfl w2.heap.size _ _ _ _ _ _ l rfl rfl (World.ownsRow_nil _ _ _ _) BX2.out (by omega) (by omega) ?_; intro v3 w3 hown3 hgrow3; rw [Nat.zero_add, List.nil_append] at hown3; have hB3 : Below w2.heap.size w2 w3 := (Below.refl _ _).grown hgrow3 (by omega) (fun k hk => by cases hk); clear hgrow3)
        | (at_builtin; refine wpList_append_bs rfl _ _ rfl w2.heap.size _ _ _ _ _ _ z1 rfl rfl hown3 (BM2.out.below hB3 (Nat.le_refl _)) (by omega) hB3.size ?_; intro v4 w4 hown4 hgrow4; have HB4 : Hid (Below w2.heap.size w2 w4) := hB3.grown hgrow4 hB3.size (fun k hk => (hown3.lt k hk).1); clear hgrow4 hown3 hB3))
      rw [← List.map_append] at hown4
      obtain ⟨a4, c4, rfl⟩ := own_slice hown4
      have q := prune_bs (hT.out.below (HB2.out.trans (HB4.out.mono HB2.out.size)) (Nat.le_refl _)) (Bs.of_owns hown4 (fun c hc => (List.mem_append.1 hc).elim (BD.out c) (BM2.out.mem c)))
      rw [HR.out] at q
      have Q5 : Hid _ := q
      clear q hown4
      refine Calls.mono Q5.out ?_
      rintro e w5 ⟨rfl, hb5⟩
      have HB5 : Hid (Below w.heap.size w w5) := (HB2.out.trans (HB4.out.mono HB2.out.size)).trans (hb5.mono (by have := HB2.out.size; have := HB4.out.size; omega))
      go_wp2
      go_ret
      exact ⟨by simp, HB5.out⟩

theorem contract (H : Type) (enc : TypeId × Value → H) (W : World) (base : Nat) (args : Array Value) (ds gs : List (DataW H)) (before : List MemPlace)
    (hval0 : ∀ (j : Nat) t v, Tryd.f6.params[j]? = some t → args[j]? = some v → Value.okWide Tryd.prog W .any base t v)
    (hW : DataW.Whole enc Tryd.prog Tryd.f6.params.toList Rows.utfBackSpec.vars false W args.toList ds gs before) (hL : laidMetH Tryd.prog Rows.utfBackRow.laid W) :
    Calls Tryd.prog 6 args W fun e W' => ∃ v, e = .returned v ∧ Rows.utfBackSpec.post enc Tryd.prog Tryd.f6 false true false false W args v W' := by
  have hval : ∀ (j : Nat) t v, Tryd.f6.params[j]? = some t → args[j]? = some v → Value.okWide Tryd.prog W .any base t v := hval0
  have hW' := hW
  obtain ⟨p, q, hA0, hV, rfl, hfz, hnd⟩ := hW
  have hA : DataW.TrodAll enc Tryd.prog W 0 (fun _ => true) true Tryd.f6.params.toList args.toList ds p := hA0
  rw [Tryd.params6] at hA hval
  obtain ⟨v0, vs0, d0, ds0, p0, q0, hargs, rfl, rfl, h0, r0⟩ := trodAll_cons hA
  obtain ⟨v1, vs1, d1, ds1, p1, q1, rfl, rfl, rfl, h1, r1⟩ := trodAll_cons r0
  obtain ⟨rfl, rfl, rfl⟩ := trodAll_nil r1
  obtain rfl : args = #[v0, v1] := by cases args; simp_all
  obtain ⟨rfl, rfl⟩ := trodVars_none hV
  obtain ⟨x0, rfl, rfl, rfl, w0⟩ := open_int Tryd.underlying21 (hval 0 21 v0 rfl rfl) h0
  obtain ⟨a1, l1, c1, rfl⟩ := okWide_slice Tryd.underlying22 (hval 1 22 v1 rfl rfl)
  have k1 := h1
  have lt1 : ∀ x ∈ p1, x.block < W.heap.size := by obtain ⟨m, hm⟩ := k1; exact DataW.trod_lt m _ _ _ hm
  obtain ⟨z1, w1⟩ : ∃ zs, Bs W a1 l1 c1 zs := by
    obtain ⟨fuel, hf⟩ := h1
    exact bs_open (by simpa [Value.cells] using hf)
  clear hA0 hval0
  refine (walk x0 a1 l1 c1 _ W (table hL) (bounds_i32 w0) w1).mono fun e W' ⟨he, bel⟩ => ?_
  subst he
  exact ⟨_, rfl, _, _, _, [], _, [], hW', trodAll_mk1 (shut_bool Tryd.underlying4 _), (trodAll_cons_mk (shut_int Tryd.underlying21 w0) (trodAll_cons_mk (Below.trod laidOut (by kernel_rfl) (of_decide_eq_true (by kernel_rfl)) k1 bel lt1) trodAll_mk0)), rfl, bel.frame _, fun h => by cases h⟩

theorem laid_met (os : Os) : laidMet Tryd.prog Rows.utfBackRow.laid ((laidWorld os).forCall (fun _ _ => 0) ⟨#[], #[.int .i32 0, .slice none 0 0], []⟩).memory :=
  laidMet_of_run' 8 (by kernel_rfl) (by kernel_rfl)

theorem reads (os : Os) {H : Type} (enc : TypeId × Value → H) : ∃ places, DataW.whole enc Tryd.prog ((laidWorld os).forCall (fun _ _ => 0) ⟨#[], #[.int .i32 0, .slice none 0 0], []⟩).memory Tryd.f6.params.toList Rows.utfBackSpec.vars false (#[.int .i32 0, .slice none 0 0] : Array Value).toList 8 = some ([.lit (.int .i32 0), .nil], [], places) :=
  ⟨[], by kernel_rfl⟩

set_option maxRecDepth 100000 in
theorem lifted (os : Os) (started : os.Started) (H : Type) (enc : TypeId × Value → H) (F : Stop.Interp) :
    ReturnsInHanded {} Tryd.checked os 6 .any ((OpenSpec.ofChange Rows.utfBackSpec).preRow enc Tryd.prog Tryd.f6 Rows.utfBackRow.domain false Rows.utfBackRow.laid) (((OpenSpec.ofChange Rows.utfBackSpec).at F).post enc Tryd.prog Tryd.f6 false true false false) := by
  obtain ⟨places, hx⟩ := reads os enc
  refine returnsInHanded_of_row (C := Tryd.checked) (s := OpenSpec.ofChange Rows.utfBackSpec) own started (by kernel_rfl) Tryd.func6
    (witness_row_at (enc := enc) (C := Tryd.checked) false (laidWorld os) #[.int .i32 0, .slice none 0 0] rfl (by kernel_rfl) (by kernel_rfl) (by kernel_rfl)
      (OpenSpec.preRow_of_cond 8 hx (by kernel_rfl) (fun k hk => by cases hk) (by kernel_rfl) (laid_met os))) ?_
  intro W base args ds gs before hval hW _ _ _ hL _ _
  exact contract H enc W base args ds gs before hval hW hL

theorem said : Rows.UtfBackSaid :=
  OpenClaim.holds_of_cond 6 Tryd.f6 rfl rfl rfl rfl rfl rfl rfl ⟨rfl, rfl, rfl, rfl, rfl⟩ rfl rfl rfl rfl rfl (by kernel_rfl) Tryd.func6 (by kernel_rfl)
    (of_decide_eq_true (by kernel_rfl)) (by unfold Func.isWrapper; first | (rw [if_pos (by decide +kernel)]; kernel_rfl) | (rw [if_neg (by decide +kernel)]; exact ⟨rfl, rfl⟩))
    (fun os started H enc _ F => by rw [OpenClaim.pre_eq_preRow]; exact lifted os started H enc F)

/-- No parameter wants a stand-in; the program's own looks are off: what the card asks. -/
theorem plain (f : FuncId) (fn : Func) (hf : Tryd.pinned.checked.prog.funcNamed "glossary/glossarylaw03.UtfBack" = some f) (hfn : Tryd.pinned.checked.prog.funcs[f]? = some fn) :
    false = Tryd.pinned.checked.prog.looks [] ∧ ∀ (j : Nat) t, fn.params[j]? = some t → Tryd.pinned.checked.prog.wantsStandIn t = false := by
  obtain rfl : f = 6 := Option.some.inj ((show Tryd.prog.funcNamed "glossary/glossarylaw03.UtfBack" = some 6 by kernel_rfl).symm.trans hf) |>.symm
  obtain rfl : fn = Tryd.f6 := (Option.some.inj (Tryd.func6.symm.trans hfn)).symm
  refine ⟨by kernel_rfl, fun j t ht => ?_⟩
  rw [Tryd.params6] at ht
  have hm := Array.mem_of_getElem? ht
  simp only [List.mem_toArray, List.mem_cons, List.not_mem_nil, or_false] at hm
  rcases hm with rfl | rfl
  · exact (show Tryd.prog.wantsStandIn 21 = false by kernel_rfl)
  · exact (show Tryd.prog.wantsStandIn 22 = false by kernel_rfl)

end Go.Proofs.YtkomckalcikkoaaDoor.utfBack
namespace Go.Proofs.YtkomckalcikkoaaDoor
theorem utfBack_holds : Rows.UtfBackCardSaid :=
  Claim7.holds_tied_plain_at .later [] _ _ _ _ utfBack.said (fun _ h => by cases h) (by kernel_rfl) (fun _ h => by cases h) utfBack_row_tie rfl ⟨rfl, rfl⟩ (by kernel_rfl) rfl utfBack.plain (by kernel_rfl)
#print axioms utfBack_holds
end Go.Proofs.YtkomckalcikkoaaDoor
