/- UtfCounts, proved for every slice of bytes: Count and Valid answer as the document asks; no condition. -/
import Derived.Test.YtkomckalcikkoaaDoorCards
import Derived.Test.YtkomckalcikkoaaDoorTie
import Derived.Test.YtkomckalcikkoaaDoorUAwake
import Derived.Deep.RegionWith
import Derived.ProofKit
import Derived.OpenShut
import Derived.ShutString
import Derived.ChangeOld
import Derived.Below
import Derived.Deep.DeepHandedRow
import Derived.Lib.LaidTab
import Derived.Stop.LaidErr
namespace Go.Proofs.YtkomckalcikkoaaDoor.utfCounts
open Go.ChangeShapes Go.WideShapes Go.ChangeAt Go.RowKit
open Go.ChangeMaps (open_string shut_string)
set_option linter.unusedVariables false

theorem own : ownKnob Tryd.prog.godebug = none := by kernel_rfl
theorem laidOut : laidOutB Tryd.prog = true := by kernel_rfl

theorem gSz : Tryd.prog.globalNamed "glossary/utf.sizes" = some 0 := by kernel_rfl
theorem gSzT : (Tryd.prog.globals[0]?).map (·.type) = some 35 := by kernel_rfl
theorem gHd : Tryd.prog.globalNamed "glossary/utf.heads" = some 1 := by kernel_rfl
theorem gHdT : (Tryd.prog.globals[1]?).map (·.type) = some 37 := by kernel_rfl

/-- WHAT THE ROW's LIST GIVES: the tables' cells hold their numbers. -/
theorem table {W : World} (h : laidMetH Tryd.prog Rows.utfCountsRow.laid W) : Tab W := by
  have h1 : Lib.TabIs Tryd.prog W "glossary/utf.sizes" .i64 szs := Lib.tabIs_of_head (rest := [("glossary/utf.heads", Rows.laid_glossary_utf_heads)]) gSz gSzT Tryd.underlying35 Tryd.underlying3 (by kernel_rfl) (by kernel_rfl) h
  have h0 : laidMet Tryd.prog [("glossary/utf.sizes", Rows.laid_glossary_utf_sizes), ("glossary/utf.heads", Rows.laid_glossary_utf_heads)] W := h
  have h2 : Lib.TabIs Tryd.prog W "glossary/utf.heads" .u8 hds := Lib.tabIs_of_head (rest := []) gHd gHdT Tryd.underlying37 Tryd.underlying5 (by kernel_rfl) (by kernel_rfl) h0.tail
  exact ⟨fun i hi => h1.cell gSz i hi, fun i hi => h2.cell gHd i hi⟩

/-- A WORLD FOR THE WITNESS: the settled one, the tables holding what their initialisers lay. -/
def layCells (xs : Array Value) : Obj → Obj
  | .cells _ t frozen => .cells xs t frozen
  | o => o
noncomputable def laidWorld (os : Os) : World :=
  { World.holding Tryd.prog os ⟨#[], #[], []⟩ with heap := ((World.holding Tryd.prog os ⟨#[], #[], []⟩).heap.modify 0 (layCells (szs.map fun z => Value.int .i64 z).toArray)).modify 1 (layCells (hds.map fun z => Value.int .u8 z).toArray) }

set_option maxHeartbeats 1000000 in
theorem walk (a0 : Option Addr) (l0 c0 : Nat) (z0 : List Int) (w : World) (hT : Hid (Tab w)) (hb0 : Hid (Bs w a0 l0 c0 z0)) :
    Calls Tryd.prog 5 #[.slice a0 l0 c0] w fun e w' => e = .returned (.bool true) ∧ Below w.heap.size w w' := by
  by_cases hbig : 500 < l0
  · have hbig' : (500 : Int) < (l0 : Int) := by omega
    go_enter Tryd.func5, Tryd.ntmps5
    go_wp2_with fail
    refine (uawake_any _ hT).mono ?_
    rintro e w1 ⟨rfl, hb1⟩
    go_wp2
    go_ret
    exact ⟨rfl, hb1⟩
  · have hbig' : ¬ (500 : Int) < (l0 : Int) := by omega
    have q := fun W (hB : Below w.heap.size w W) hW => pcount_bs (w := W) (a := a0) (len := l0) (cap := c0) (zs := z0) (hT.out.below hB (Nat.le_refl _)) hW
    have p := fun W (hB : Below w.heap.size w W) hW => pvalid_bs (w := W) (a := a0) (len := l0) (cap := c0) (zs := z0) (hT.out.below hB (Nat.le_refl _)) hW
    have q' := fun W hW => rcount_bs (w := W) (a := a0) (len := l0) (cap := c0) (zs := z0) hW
    generalize (ucnt z0).1 = r at q q'
    generalize (ucnt z0).2 = n at p q'
    have Q : Hid _ := q
    have P : Hid _ := p
    have Q' : Hid _ := q'
    clear q q' p
    go_enter Tryd.func5, Tryd.ntmps5
    go_wp2_with fail
    refine (uawake_any _ hT).mono ?_
    rintro e w1 ⟨rfl, hb1⟩
    go_wp2_with fail
    refine Calls.mono (Q'.out _ (hb0.out.below hb1 (Nat.le_refl _))) ?_
    rintro e w2 ⟨rfl, hb2⟩
    have hB2 : Hid (Below w.heap.size w w2) := hb1.trans (hb2.mono hb1.size)
    go_wp2_with fail
    refine Calls.mono (Q.out _ hB2.out (hb0.out.below hB2.out (Nat.le_refl _))) ?_
    rintro e w3 ⟨rfl, hb3⟩
    have hB3 : Hid (Below w.heap.size w w3) := hB2.out.trans (hb3.mono hB2.out.size)
    go_wp2_with fail
    refine Calls.mono (P.out _ hB3.out (hb0.out.below hB3.out (Nat.le_refl _))) ?_
    rintro e w4 ⟨rfl, hb4⟩
    have hB4 : Hid (Below w.heap.size w w4) := hB3.out.trans (hb4.mono hB3.out.size)
    go_wp2
    go_ret
    exact ⟨by simp, hB4.out⟩

theorem contract (H : Type) (enc : TypeId × Value → H) (W : World) (base : Nat) (args : Array Value) (ds gs : List (DataW H)) (before : List MemPlace)
    (hval0 : ∀ (j : Nat) t v, Tryd.f5.params[j]? = some t → args[j]? = some v → Value.okWide Tryd.prog W .any base t v)
    (hW : DataW.Whole enc Tryd.prog Tryd.f5.params.toList Rows.utfCountsSpec.vars false W args.toList ds gs before) (hL : laidMetH Tryd.prog Rows.utfCountsRow.laid W) :
    Calls Tryd.prog 5 args W fun e W' => ∃ v, e = .returned v ∧ Rows.utfCountsSpec.post enc Tryd.prog Tryd.f5 false true false false W args v W' := by
  have hval : ∀ (j : Nat) t v, Tryd.f5.params[j]? = some t → args[j]? = some v → Value.okWide Tryd.prog W .any base t v := hval0
  have hW' := hW
  obtain ⟨p, q, hA0, hV, rfl, hfz, hnd⟩ := hW
  have hA : DataW.TrodAll enc Tryd.prog W 0 (fun _ => true) true Tryd.f5.params.toList args.toList ds p := hA0
  rw [Tryd.params5] at hA hval
  obtain ⟨v0, vs0, d0, ds0, p0, q0, hargs, rfl, rfl, h0, r0⟩ := trodAll_cons hA
  obtain ⟨rfl, rfl, rfl⟩ := trodAll_nil r0
  obtain rfl : args = #[v0] := by cases args; simp_all
  obtain ⟨rfl, rfl⟩ := trodVars_none hV
  obtain ⟨a0, l0, c0, rfl⟩ := okWide_slice Tryd.underlying22 (hval 0 22 v0 rfl rfl)
  have k0 := h0
  have lt0 : ∀ x ∈ p0, x.block < W.heap.size := by obtain ⟨m, hm⟩ := k0; exact DataW.trod_lt m _ _ _ hm
  obtain ⟨z0, w0⟩ : ∃ zs, Bs W a0 l0 c0 zs := by
    obtain ⟨fuel, hf⟩ := h0
    exact bs_open (by simpa [Value.cells] using hf)
  clear hA0 hval0
  refine (walk a0 l0 c0 _ W (table hL) w0).mono fun e W' ⟨he, bel⟩ => ?_
  subst he
  exact ⟨_, rfl, _, _, _, [], _, [], hW', trodAll_mk1 (shut_bool Tryd.underlying4 _), (trodAll_cons_mk (Below.trod laidOut (by kernel_rfl) (of_decide_eq_true (by kernel_rfl)) k0 bel lt0) trodAll_mk0), rfl, bel.frame _, fun h => by cases h⟩

theorem laid_met (os : Os) : laidMet Tryd.prog Rows.utfCountsRow.laid ((laidWorld os).forCall (fun _ _ => 0) ⟨#[], #[.slice none 0 0], []⟩).memory :=
  laidMet_of_run' 8 (by kernel_rfl) (by kernel_rfl)

theorem reads (os : Os) {H : Type} (enc : TypeId × Value → H) : ∃ places, DataW.whole enc Tryd.prog ((laidWorld os).forCall (fun _ _ => 0) ⟨#[], #[.slice none 0 0], []⟩).memory Tryd.f5.params.toList Rows.utfCountsSpec.vars false (#[.slice none 0 0] : Array Value).toList 8 = some ([.nil], [], places) :=
  ⟨[], by kernel_rfl⟩

set_option maxRecDepth 100000 in
theorem lifted (os : Os) (started : os.Started) (H : Type) (enc : TypeId × Value → H) (F : Stop.Interp) :
    ReturnsInHanded {} Tryd.checked os 5 .any ((OpenSpec.ofChange Rows.utfCountsSpec).preRow enc Tryd.prog Tryd.f5 Rows.utfCountsRow.domain false Rows.utfCountsRow.laid) (((OpenSpec.ofChange Rows.utfCountsSpec).at F).post enc Tryd.prog Tryd.f5 false true false false) := by
  obtain ⟨places, hx⟩ := reads os enc
  refine returnsInHanded_of_row (C := Tryd.checked) (s := OpenSpec.ofChange Rows.utfCountsSpec) own started (by kernel_rfl) Tryd.func5
    (witness_row_at (enc := enc) (C := Tryd.checked) false (laidWorld os) #[.slice none 0 0] rfl (by kernel_rfl) (by kernel_rfl) (by kernel_rfl)
      (OpenSpec.preRow_of_cond 8 hx (by kernel_rfl) (fun k hk => by cases hk) (by kernel_rfl) (laid_met os))) ?_
  intro W base args ds gs before hval hW _ _ _ hL _ _
  exact contract H enc W base args ds gs before hval hW hL

theorem said : Rows.UtfCountsSaid :=
  OpenClaim.holds_of_cond 5 Tryd.f5 rfl rfl rfl rfl rfl rfl rfl ⟨rfl, rfl, rfl, rfl, rfl⟩ rfl rfl rfl rfl rfl (by kernel_rfl) Tryd.func5 (by kernel_rfl)
    (of_decide_eq_true (by kernel_rfl)) (by unfold Func.isWrapper; first | (rw [if_pos (by decide +kernel)]; kernel_rfl) | (rw [if_neg (by decide +kernel)]; exact ⟨rfl, rfl⟩))
    (fun os started H enc _ F => by rw [OpenClaim.pre_eq_preRow]; exact lifted os started H enc F)

/-- No parameter wants a stand-in; the program's own looks are off: what the card asks. -/
theorem plain (f : FuncId) (fn : Func) (hf : Tryd.pinned.checked.prog.funcNamed "glossary/glossarylaw03.UtfCounts" = some f) (hfn : Tryd.pinned.checked.prog.funcs[f]? = some fn) :
    false = Tryd.pinned.checked.prog.looks [] ∧ ∀ (j : Nat) t, fn.params[j]? = some t → Tryd.pinned.checked.prog.wantsStandIn t = false := by
  obtain rfl : f = 5 := Option.some.inj ((show Tryd.prog.funcNamed "glossary/glossarylaw03.UtfCounts" = some 5 by kernel_rfl).symm.trans hf) |>.symm
  obtain rfl : fn = Tryd.f5 := (Option.some.inj (Tryd.func5.symm.trans hfn)).symm
  refine ⟨by kernel_rfl, fun j t ht => ?_⟩
  rw [Tryd.params5] at ht
  have hm := Array.mem_of_getElem? ht
  simp only [List.mem_toArray, List.mem_cons, List.not_mem_nil, or_false] at hm
  subst hm
  exact (show Tryd.prog.wantsStandIn 22 = false by kernel_rfl)

end Go.Proofs.YtkomckalcikkoaaDoor.utfCounts
namespace Go.Proofs.YtkomckalcikkoaaDoor
theorem utfCounts_holds : Rows.UtfCountsCardSaid :=
  Claim7.holds_tied_plain_at .later [] _ _ _ _ utfCounts.said (fun _ h => by cases h) (by kernel_rfl) (fun _ h => by cases h) utfCounts_row_tie rfl ⟨rfl, rfl⟩ (by kernel_rfl) rfl utfCounts.plain (by kernel_rfl)
#print axioms utfCounts_holds
end Go.Proofs.YtkomckalcikkoaaDoor
