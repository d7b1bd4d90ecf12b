/- UtfPuts, proved for every number of 32 bits: Put answers the bytes that the document asks; no condition. -/
import Derived.Test.YtkomckalcikkoaaDoorCards
import Derived.Test.YtkomckalcikkoaaDoorTie
import Derived.Test.YtkomckalcikkoaaDoorUAwake
import Derived.Deep.RegionWith
import Derived.ProofKit
import Derived.OpenShut
import Derived.ShutString
import Derived.ChangeOld
import Derived.Below
import Derived.Deep.DeepHandedRow
import Derived.Lib.LaidTab
import Derived.Stop.LaidErr
namespace Go.Proofs.YtkomckalcikkoaaDoor.utfPuts
open Go.ChangeShapes Go.WideShapes Go.ChangeAt Go.RowKit
open Go.ChangeMaps (open_string shut_string)
set_option linter.unusedVariables false

theorem own : ownKnob Tryd.prog.godebug = none := by kernel_rfl
theorem laidOut : laidOutB Tryd.prog = true := by kernel_rfl

theorem gSz : Tryd.prog.globalNamed "glossary/utf.sizes" = some 0 := by kernel_rfl
theorem gSzT : (Tryd.prog.globals[0]?).map (·.type) = some 35 := by kernel_rfl
theorem gHd : Tryd.prog.globalNamed "glossary/utf.heads" = some 1 := by kernel_rfl
theorem gHdT : (Tryd.prog.globals[1]?).map (·.type) = some 37 := by kernel_rfl

/-- WHAT THE ROW's LIST GIVES: the tables' cells hold their numbers. -/
theorem table {W : World} (h : laidMetH Tryd.prog Rows.utfPutsRow.laid W) : Tab W := by
  have h1 : Lib.TabIs Tryd.prog W "glossary/utf.sizes" .i64 szs := Lib.tabIs_of_head (rest := [("glossary/utf.heads", Rows.laid_glossary_utf_heads)]) gSz gSzT Tryd.underlying35 Tryd.underlying3 (by kernel_rfl) (by kernel_rfl) h
  have h0 : laidMet Tryd.prog [("glossary/utf.sizes", Rows.laid_glossary_utf_sizes), ("glossary/utf.heads", Rows.laid_glossary_utf_heads)] W := h
  have h2 : Lib.TabIs Tryd.prog W "glossary/utf.heads" .u8 hds := Lib.tabIs_of_head (rest := []) gHd gHdT Tryd.underlying37 Tryd.underlying5 (by kernel_rfl) (by kernel_rfl) h0.tail
  exact ⟨fun i hi => h1.cell gSz i hi, fun i hi => h2.cell gHd i hi⟩

/-- A WORLD FOR THE WITNESS: the settled one, the tables holding what their initialisers lay. -/
def layCells (xs : Array Value) : Obj → Obj
  | .cells _ t frozen => .cells xs t frozen
  | o => o
noncomputable def laidWorld (os : Os) : World :=
  { World.holding Tryd.prog os ⟨#[], #[], []⟩ with heap := ((World.holding Tryd.prog os ⟨#[], #[], []⟩).heap.modify 0 (layCells (szs.map fun z => Value.int .i64 z).toArray)).modify 1 (layCells (hds.map fun z => Value.int .u8 z).toArray) }

theorem fin_puts {w w1 w2 w3 : World} (h1 : Below w.heap.size w w1) (h2 : Below w1.drew.heap.size w1.drew w2) (h3 : Below w2.heap.size w2 w3) : Below w.heap.size w w3 := by
  have s1 := h1.size
  have s2 := h2.size
  have e : w1.drew.heap.size = w1.heap.size := rfl
  exact (h1.drew.trans (h2.mono (by omega))).trans (h3.mono (by omega))

set_option maxHeartbeats 1000000 in
theorem walk (x0 : Int) (w : World) (hT : Hid (Tab w)) (b0 : -2147483648 ≤ x0 ∧ x0 ≤ 2147483647) :
    Calls Tryd.prog 4 #[.int .i32 x0] w fun e w' => e = .returned (.bool true) ∧ Below w.heap.size w w' := by
  have BD : Hid (∀ c ∈ uput x0, 0 ≤ c ∧ c ≤ 255) := uput_bd x0
  have q := fun W (hB : Below w.heap.size w W) => pput_any x0 W (hT.out.below hB (Nat.le_refl _))
  have q' := fun W => rputr_any x0 W b0.1 b0.2
  generalize uput x0 = l at q q' BD
  have Q : Hid _ := q
  have Q' : Hid _ := q'
  clear q q'
  go_enter Tryd.func4, Tryd.ntmps4
  go_wp2_with fail
  refine (uawake_any _ hT).mono ?_
  rintro e w1 ⟨rfl, hb1⟩
  go_wp2_with fail
  go_region_with (first
    | (go_at_call 12; refine Calls.mono (Q.out _ hb1.drew) ?_; rintro e w2 ⟨v2, rfl, hown2, hb2⟩; obtain ⟨a2, c2, rfl⟩ := own_slice hown2; have x2 := Bs.conv (Bs.of_owns hown2 BD.out))
    | (go_at_call 13; refine Calls.mono (Q'.out _) ?_; rintro e w3 ⟨v3, rfl, hown3, hb3⟩; obtain ⟨a3, c3, rfl⟩ := own_slice hown3; have x3 := Bs.conv (Bs.of_owns hown3 BD.out); have x4 := Bs.conv (Bs.of_owns (own_below hown2 hb3) BD.out)))
  all_goals
    go_wp2
    go_ret
    exact ⟨rfl, fin_puts hb1 (by assumption) (by assumption)⟩

theorem contract (H : Type) (enc : TypeId × Value → H) (W : World) (base : Nat) (args : Array Value) (ds gs : List (DataW H)) (before : List MemPlace)
    (hval0 : ∀ (j : Nat) t v, Tryd.f4.params[j]? = some t → args[j]? = some v → Value.okWide Tryd.prog W .any base t v)
    (hW : DataW.Whole enc Tryd.prog Tryd.f4.params.toList Rows.utfPutsSpec.vars false W args.toList ds gs before) (hL : laidMetH Tryd.prog Rows.utfPutsRow.laid W) :
    Calls Tryd.prog 4 args W fun e W' => ∃ v, e = .returned v ∧ Rows.utfPutsSpec.post enc Tryd.prog Tryd.f4 false true false false W args v W' := by
  have hval : ∀ (j : Nat) t v, Tryd.f4.params[j]? = some t → args[j]? = some v → Value.okWide Tryd.prog W .any base t v := hval0
  have hW' := hW
  obtain ⟨p, q, hA0, hV, rfl, hfz, hnd⟩ := hW
  have hA : DataW.TrodAll enc Tryd.prog W 0 (fun _ => true) true Tryd.f4.params.toList args.toList ds p := hA0
  rw [Tryd.params4] at hA hval
  obtain ⟨v0, vs0, d0, ds0, p0, q0, hargs, rfl, rfl, h0, r0⟩ := trodAll_cons hA
  obtain ⟨rfl, rfl, rfl⟩ := trodAll_nil r0
  obtain rfl : args = #[v0] := by cases args; simp_all
  obtain ⟨rfl, rfl⟩ := trodVars_none hV
  obtain ⟨x0, rfl, rfl, rfl, w0⟩ := open_int Tryd.underlying21 (hval 0 21 v0 rfl rfl) h0
  clear hA0 hval0
  refine (walk x0 W (table hL) (bounds_i32 w0)).mono fun e W' ⟨he, bel⟩ => ?_
  subst he
  exact ⟨_, rfl, _, _, _, [], _, [], hW', trodAll_mk1 (shut_bool Tryd.underlying4 _), (trodAll_cons_mk (shut_int Tryd.underlying21 w0) trodAll_mk0), rfl, bel.frame _, fun h => by cases h⟩

theorem laid_met (os : Os) : laidMet Tryd.prog Rows.utfPutsRow.laid ((laidWorld os).forCall (fun _ _ => 0) ⟨#[], #[.int .i32 0], []⟩).memory :=
  laidMet_of_run' 8 (by kernel_rfl) (by kernel_rfl)

theorem reads (os : Os) {H : Type} (enc : TypeId × Value → H) : ∃ places, DataW.whole enc Tryd.prog ((laidWorld os).forCall (fun _ _ => 0) ⟨#[], #[.int .i32 0], []⟩).memory Tryd.f4.params.toList Rows.utfPutsSpec.vars false (#[.int .i32 0] : Array Value).toList 8 = some ([.lit (.int .i32 0)], [], places) :=
  ⟨[], by kernel_rfl⟩

set_option maxRecDepth 100000 in
theorem lifted (os : Os) (started : os.Started) (H : Type) (enc : TypeId × Value → H) (F : Stop.Interp) :
    ReturnsInHanded {} Tryd.checked os 4 .any ((OpenSpec.ofChange Rows.utfPutsSpec).preRow enc Tryd.prog Tryd.f4 Rows.utfPutsRow.domain false Rows.utfPutsRow.laid) (((OpenSpec.ofChange Rows.utfPutsSpec).at F).post enc Tryd.prog Tryd.f4 false true false false) := by
  obtain ⟨places, hx⟩ := reads os enc
  refine returnsInHanded_of_row (C := Tryd.checked) (s := OpenSpec.ofChange Rows.utfPutsSpec) own started (by kernel_rfl) Tryd.func4
    (witness_row_at (enc := enc) (C := Tryd.checked) false (laidWorld os) #[.int .i32 0] rfl (by kernel_rfl) (by kernel_rfl) (by kernel_rfl)
      (OpenSpec.preRow_of_cond 8 hx (by kernel_rfl) (fun k hk => by cases hk) (by kernel_rfl) (laid_met os))) ?_
  intro W base args ds gs before hval hW _ _ _ hL _ _
  exact contract H enc W base args ds gs before hval hW hL

theorem said : Rows.UtfPutsSaid :=
  OpenClaim.holds_of_cond 4 Tryd.f4 rfl rfl rfl rfl rfl rfl rfl ⟨rfl, rfl, rfl, rfl, rfl⟩ rfl rfl rfl rfl rfl (by kernel_rfl) Tryd.func4 (by kernel_rfl)
    (of_decide_eq_true (by kernel_rfl)) (by unfold Func.isWrapper; first | (rw [if_pos (by decide +kernel)]; kernel_rfl) | (rw [if_neg (by decide +kernel)]; exact ⟨rfl, rfl⟩))
    (fun os started H enc _ F => by rw [OpenClaim.pre_eq_preRow]; exact lifted os started H enc F)

/-- No parameter wants a stand-in; the program's own looks are off: what the card asks. -/
theorem plain (f : FuncId) (fn : Func) (hf : Tryd.pinned.checked.prog.funcNamed "glossary/glossarylaw03.UtfPuts" = some f) (hfn : Tryd.pinned.checked.prog.funcs[f]? = some fn) :
    false = Tryd.pinned.checked.prog.looks [] ∧ ∀ (j : Nat) t, fn.params[j]? = some t → Tryd.pinned.checked.prog.wantsStandIn t = false := by
  obtain rfl : f = 4 := Option.some.inj ((show Tryd.prog.funcNamed "glossary/glossarylaw03.UtfPuts" = some 4 by kernel_rfl).symm.trans hf) |>.symm
  obtain rfl : fn = Tryd.f4 := (Option.some.inj (Tryd.func4.symm.trans hfn)).symm
  refine ⟨by kernel_rfl, fun j t ht => ?_⟩
  rw [Tryd.params4] at ht
  have hm := Array.mem_of_getElem? ht
  simp only [List.mem_toArray, List.mem_cons, List.not_mem_nil, or_false] at hm
  subst hm
  exact (show Tryd.prog.wantsStandIn 21 = false by kernel_rfl)

end Go.Proofs.YtkomckalcikkoaaDoor.utfPuts
namespace Go.Proofs.YtkomckalcikkoaaDoor
theorem utfPuts_holds : Rows.UtfPutsCardSaid :=
  Claim7.holds_tied_plain_at .later [] _ _ _ _ utfPuts.said (fun _ h => by cases h) (by kernel_rfl) (fun _ h => by cases h) utfPuts_row_tie rfl ⟨rfl, rfl⟩ (by kernel_rfl) rfl utfPuts.plain (by kernel_rfl)
#print axioms utfPuts_holds
end Go.Proofs.YtkomckalcikkoaaDoor
