/- QuoteNumbers, proved for every text and every number: Number and Digits answer as the document asks; no condition. -/
import Derived.Test.YtilcaihfoelapaaDoorCards
import Derived.Test.YtilcaihfoelapaaDoorTie
import Derived.Test.YtilcaihfoelapaaDoorQAwake
import Derived.Test.YtilcaihfoelapaaDoorQPg
import Derived.Deep.RegionWith
import Derived.ProofKit
import Derived.OpenShut
import Derived.ShutString
import Derived.ChangeOld
import Derived.Below
import Derived.Deep.DeepHandedRow
import Derived.Lib.LaidTab
import Derived.Stop.LaidErr
namespace Go.Proofs.YtilcaihfoelapaaDoor.quoteNumbers
open Go.ChangeShapes Go.WideShapes Go.ChangeAt Go.RowKit
open Go.ChangeMaps (open_string shut_string)
set_option linter.unusedVariables false

theorem own : ownKnob Tryd.prog.godebug = none := by kernel_rfl
theorem laidOut : laidOutB Tryd.prog = true := by kernel_rfl

theorem gHd : Tryd.prog.globalNamed "glossary/utf.heads" = some 0 := by kernel_rfl
theorem gHdT : (Tryd.prog.globals[0]?).map (·.type) = some 66 := by kernel_rfl
theorem gPw : Tryd.prog.globalNamed "internal/strconv.uint64pow10" = some 1 := by kernel_rfl
theorem gPwT : (Tryd.prog.globals[1]?).map (·.type) = some 69 := by kernel_rfl

/-- WHAT THE ROW's LIST GIVES: the tables that are read hold their numbers. -/
theorem table {W : World} (h : laidMetH Tryd.prog Rows.quoteNumbersRow.laid W) : QPTab W := by
  have h0 : laidMet Tryd.prog [("glossary/utf.heads", Rows.laid_glossary_utf_heads), ("math/bits.deBruijn32tab", Rows.laid_math_bits_deBruijn32tab), ("math/bits.deBruijn64tab", Rows.laid_math_bits_deBruijn64tab), ("internal/strconv.uint64pow10", Rows.laid_internal_strconv_uint64pow10)] W := h
  have h2 : Lib.TabIs Tryd.prog W "glossary/utf.heads" .u8 hds := Lib.tabIs_of_head (rest := [("math/bits.deBruijn32tab", Rows.laid_math_bits_deBruijn32tab), ("math/bits.deBruijn64tab", Rows.laid_math_bits_deBruijn64tab), ("internal/strconv.uint64pow10", Rows.laid_internal_strconv_uint64pow10)]) gHd gHdT Tryd.underlying66 Tryd.underlying5 (by kernel_rfl) (by kernel_rfl) h0
  have h3 : Lib.TabIs Tryd.prog W "internal/strconv.uint64pow10" .u64 Lib.pow10Tab := Lib.tabIs_of_head (rest := []) gPw gPwT Tryd.underlying69 Tryd.underlying32 (by kernel_rfl) (by kernel_rfl) h0.tail.tail.tail
  exact ⟨fun i hi => h2.cell gHd i hi, h3⟩

/-- A WORLD FOR THE WITNESS: the settled one, the tables holding what their initialisers lay. -/
def layCells (xs : Array Value) : Obj → Obj
  | .cells _ t frozen => .cells xs t frozen
  | o => o
def db32 : List Int := [0, 1, 28, 2, 29, 14, 24, 3, 30, 22, 20, 15, 25, 17, 4, 8, 31, 27, 13, 23, 21, 19, 16, 7, 26, 12, 18, 6, 11, 5, 10, 9]
def db64 : List Int := [0, 1, 56, 2, 57, 49, 28, 3, 61, 58, 42, 50, 38, 29, 17, 4, 62, 47, 59, 36, 45, 43, 51, 22, 53, 39, 33, 30, 24, 18, 12, 5, 63, 55, 48, 27, 60, 41, 37, 16, 46, 35, 44, 21, 52, 32, 23, 11, 54, 26, 40, 15, 34, 20, 31, 10, 25, 14, 19, 9, 13, 8, 7, 6]
def pw10 : List Int := [1, 10, 100, 1000, 10000, 100000, 1000000, 10000000, 100000000, 1000000000, 10000000000, 100000000000, 1000000000000, 10000000000000, 100000000000000, 1000000000000000, 10000000000000000, 100000000000000000, 1000000000000000000, 10000000000000000000]
noncomputable def laidWorld (os : Os) : World :=
  { World.holding Tryd.prog os ⟨#[], #[], []⟩ with heap := ((((World.holding Tryd.prog os ⟨#[], #[], []⟩).heap.modify 0 (layCells (hds.map fun z => Value.int .u8 z).toArray)).modify 3 (layCells (db32.map fun z => Value.int .u8 z).toArray)).modify 4 (layCells (db64.map fun z => Value.int .u8 z).toArray)).modify 1 (layCells (pw10.map fun z => Value.int .u64 z).toArray) }

set_option maxHeartbeats 1000000 in
theorem walk (z0 : List Int) (x1 : Int) (w : World) (hT : Hid (QPTab w)) (hz0 : Hid (∀ i, 0 ≤ z0.getD i 0 ∧ z0.getD i 0 ≤ 255)) (b1 : 0 ≤ x1 ∧ x1 ≤ 18446744073709551615) :
    Calls Tryd.prog 5 #[.string (strOfNums z0), .int .u64 x1] w fun e w' => e = .returned (.bool true) ∧ Below w.heap.size w w' := by
  have hP : Hid (PTab w) := hT.out.2
  replace hT : Hid (QTab w) := hT.out.1
  by_cases hbig : 500 < z0.length
  · have hbig' : (500 : Int) < (z0.length : Int) := by omega
    have hsz := strOfNums_size z0
    generalize strOfNums z0 = S at hsz
    go_enter Tryd.func5, Tryd.ntmps5
    go_wp2_with fail
    refine (qawake_any _ hT).mono ?_
    rintro e w1 ⟨rfl, hbb1⟩
    go_wp2
    go_ret
    exact ⟨rfl, hbb1⟩
  · have hbig' : ¬ (500 : Int) < (z0.length : Int) := by omega
    have q := fun W (hB : Below w.heap.size w W) => pnum_any z0 W hz0 (by omega)
    have q' := fun W => rnum_any z0 W hz0 (by omega)
    have p := fun W (hB : Below w.heap.size w W) => pdig_any x1 W (hP.out.below hB (Nat.le_refl _)) b1.1 b1.2
    have p' := fun W => rdig_any x1 W b1.1 b1.2
    have hsz := strOfNums_size z0
    generalize qnum z0 = u at q q'
    generalize strOfNums z0 = S at q q' hsz
    generalize strOfNums (qdg 20 x1) = D at p p'
    obtain ⟨n, b⟩ := u
    simp only at q q'
    have Q : Hid _ := q
    have Q' : Hid _ := q'
    have P : Hid _ := p
    have P' : Hid _ := p'
    clear q q' p p'
    go_enter Tryd.func5, Tryd.ntmps5
    go_wp2_with fail
    refine (qawake_any _ hT).mono ?_
    rintro e w1 ⟨rfl, hbb1⟩
    go_wp2_with fail
    refine Calls.mono (Q.out _ hbb1) ?_
    rintro e w2 ⟨rfl, hb2⟩
    have HB2 : Hid (Below w.heap.size w w2) := hbb1.trans (hb2.mono hbb1.size)
    clear hb2
    go_wp2_with fail
    refine Calls.mono (Q'.out _) ?_
    rintro e w3 ⟨rfl, hb3⟩
    have HB3 : Hid (Below w.heap.size w w3) := HB2.out.trans (hb3.mono HB2.out.size)
    clear hb3
    go_wp2_with fail
    refine Calls.mono (P.out _ HB3.out) ?_
    rintro e w4 ⟨rfl, hb4⟩
    have HB4 : Hid (Below w.heap.size w w4) := HB3.out.trans (hb4.mono HB3.out.size)
    clear hb4
    go_wp2_with fail
    refine Calls.mono (P'.out _) ?_
    rintro e w5 ⟨rfl, rfl⟩
    go_wp2
    go_ret
    exact ⟨by simp, HB4.out⟩

theorem contract (H : Type) (enc : TypeId × Value → H) (W : World) (base : Nat) (args : Array Value) (ds gs : List (DataW H)) (before : List MemPlace)
    (hval0 : ∀ (j : Nat) t v, Tryd.f5.params[j]? = some t → args[j]? = some v → Value.okWide Tryd.prog W .any base t v)
    (hW : DataW.Whole enc Tryd.prog Tryd.f5.params.toList Rows.quoteNumbersSpec.vars false W args.toList ds gs before) (hL : laidMetH Tryd.prog Rows.quoteNumbersRow.laid W) :
    Calls Tryd.prog 5 args W fun e W' => ∃ v, e = .returned v ∧ Rows.quoteNumbersSpec.post enc Tryd.prog Tryd.f5 false true false false W args v W' := by
  have hval : ∀ (j : Nat) t v, Tryd.f5.params[j]? = some t → args[j]? = some v → Value.okWide Tryd.prog W .any base t v := hval0
  have hW' := hW
  obtain ⟨p, q, hA0, hV, rfl, hfz, hnd⟩ := hW
  have hA : DataW.TrodAll enc Tryd.prog W 0 (fun _ => true) true Tryd.f5.params.toList args.toList ds p := hA0
  rw [Tryd.params5] at hA hval
  obtain ⟨v0, vs0, d0, ds0, p0, q0, hargs, rfl, rfl, h0, r0⟩ := trodAll_cons hA
  obtain ⟨v1, vs1, d1, ds1, p1, q1, rfl, rfl, rfl, h1, r1⟩ := trodAll_cons r0
  obtain ⟨rfl, rfl, rfl⟩ := trodAll_nil r1
  obtain rfl : args = #[v0, v1] := by cases args; simp_all
  obtain ⟨rfl, rfl⟩ := trodVars_none hV
  obtain ⟨s0, rfl, rfl, rfl, w0⟩ := open_string Tryd.underlying9 (hval 0 9 v0 rfl rfl) h0
  obtain ⟨z0, rfl, hz0⟩ := str_nums s0
  obtain ⟨x1, rfl, rfl, rfl, w1⟩ := open_int Tryd.underlying32 (hval 1 32 v1 rfl rfl) h1
  clear hA0 hval0
  refine (walk z0 x1 W (table hL) hz0 (bounds_u64 w1)).mono fun e W' ⟨he, bel⟩ => ?_
  subst he
  exact ⟨_, rfl, _, _, _, [], _, [], hW', trodAll_mk1 (shut_bool Tryd.underlying4 _), (trodAll_cons_mk (shut_string Tryd.underlying9 w0) (trodAll_cons_mk (shut_int Tryd.underlying32 w1) trodAll_mk0)), rfl, bel.frame _, fun h => by cases h⟩

theorem laid_met (os : Os) : laidMet Tryd.prog Rows.quoteNumbersRow.laid ((laidWorld os).forCall (fun _ _ => 0) ⟨#[], #[.string ByteArray.empty, .int .u64 0], []⟩).memory :=
  laidMet_of_run' 8 (by kernel_rfl) (by kernel_rfl)

theorem reads (os : Os) {H : Type} (enc : TypeId × Value → H) : ∃ places, DataW.whole enc Tryd.prog ((laidWorld os).forCall (fun _ _ => 0) ⟨#[], #[.string ByteArray.empty, .int .u64 0], []⟩).memory Tryd.f5.params.toList Rows.quoteNumbersSpec.vars false (#[.string ByteArray.empty, .int .u64 0] : Array Value).toList 8 = some ([.lit (.string []), .lit (.int .u64 0)], [], places) :=
  ⟨[], by kernel_rfl⟩

set_option maxRecDepth 100000 in
theorem lifted (os : Os) (started : os.Started) (H : Type) (enc : TypeId × Value → H) (F : Stop.Interp) :
    ReturnsInHanded {} Tryd.checked os 5 .any ((OpenSpec.ofChange Rows.quoteNumbersSpec).preRow enc Tryd.prog Tryd.f5 Rows.quoteNumbersRow.domain false Rows.quoteNumbersRow.laid) (((OpenSpec.ofChange Rows.quoteNumbersSpec).at F).post enc Tryd.prog Tryd.f5 false true false false) := by
  obtain ⟨places, hx⟩ := reads os enc
  refine returnsInHanded_of_row (C := Tryd.checked) (s := OpenSpec.ofChange Rows.quoteNumbersSpec) own started (by kernel_rfl) Tryd.func5
    (witness_row_at (enc := enc) (C := Tryd.checked) false (laidWorld os) #[.string ByteArray.empty, .int .u64 0] rfl (by kernel_rfl) (by kernel_rfl) (by kernel_rfl)
      (OpenSpec.preRow_of_cond 8 hx (by kernel_rfl) (fun k hk => by cases hk) (by kernel_rfl) (laid_met os))) ?_
  intro W base args ds gs before hval hW _ _ _ hL _ _
  exact contract H enc W base args ds gs before hval hW hL

theorem said : Rows.QuoteNumbersSaid :=
  OpenClaim.holds_of_cond 5 Tryd.f5 rfl rfl rfl rfl rfl rfl rfl ⟨rfl, rfl, rfl, rfl, rfl⟩ rfl rfl rfl rfl rfl (by kernel_rfl) Tryd.func5 (by kernel_rfl)
    (of_decide_eq_true (by kernel_rfl)) (by unfold Func.isWrapper; first | (rw [if_pos (by decide +kernel)]; kernel_rfl) | (rw [if_neg (by decide +kernel)]; exact ⟨rfl, rfl⟩))
    (fun os started H enc _ F => by rw [OpenClaim.pre_eq_preRow]; exact lifted os started H enc F)

/-- No parameter wants a stand-in; the program's own looks are off: what the card asks. -/
theorem plain (f : FuncId) (fn : Func) (hf : Tryd.pinned.checked.prog.funcNamed "glossary/glossarylaw04.QuoteNumbers" = some f) (hfn : Tryd.pinned.checked.prog.funcs[f]? = some fn) :
    false = Tryd.pinned.checked.prog.looks [] ∧ ∀ (j : Nat) t, fn.params[j]? = some t → Tryd.pinned.checked.prog.wantsStandIn t = false := by
  obtain rfl : f = 5 := Option.some.inj ((show Tryd.prog.funcNamed "glossary/glossarylaw04.QuoteNumbers" = some 5 by kernel_rfl).symm.trans hf) |>.symm
  obtain rfl : fn = Tryd.f5 := (Option.some.inj (Tryd.func5.symm.trans hfn)).symm
  refine ⟨by kernel_rfl, fun j t ht => ?_⟩
  rw [Tryd.params5] at ht
  have hm := Array.mem_of_getElem? ht
  simp only [List.mem_toArray, List.mem_cons, List.not_mem_nil, or_false] at hm
  rcases hm with rfl | rfl
  · exact (show Tryd.prog.wantsStandIn 9 = false by kernel_rfl)
  · exact (show Tryd.prog.wantsStandIn 32 = false by kernel_rfl)

end Go.Proofs.YtilcaihfoelapaaDoor.quoteNumbers
namespace Go.Proofs.YtilcaihfoelapaaDoor
theorem quoteNumbers_holds : Rows.QuoteNumbersCardSaid :=
  Claim7.holds_tied_plain_at .later [] _ _ _ _ quoteNumbers.said (fun _ h => by cases h) (by kernel_rfl) (fun _ h => by cases h) quoteNumbers_row_tie rfl ⟨rfl, rfl⟩ (by kernel_rfl) rfl quoteNumbers.plain (by kernel_rfl)
#print axioms quoteNumbers_holds
end Go.Proofs.YtilcaihfoelapaaDoor
