/- LowerTypes, proved for every text and every number: Type and Plain answer as the document asks, and a type's word is the type again; no condition. -/
import Derived.Test.YtlekfcehmlepkaaGreatDoorCards
import Derived.Test.YtlekfcehmlepkaaGreatDoorTie
import Derived.Deep.RegionWith
import Derived.Deep.RegionHeld3
import Derived.ProofKit
import Derived.OpenShut
import Derived.ShutString
import Derived.ChangeOld
import Derived.Below
import Derived.Deep.DeepHandedRow
import Derived.Lib.LaidTab
import Derived.Stop.LaidErr
import Derived.Shelf.Vars
import Derived.Test.YtlekfcehmlepkaaGreatDoorBunL40
namespace Go.Proofs.YtlekfcehmlepkaaGreatDoor.lowerTypes
open Go.ChangeShapes Go.WideShapes Go.ChangeAt Go.RowKit
open Go.ChangeMaps (open_string shut_string)
set_option linter.unusedVariables false

theorem own : ownKnob Tryz.prog.godebug = none := by kernel_rfl
theorem laidOut : laidOutB Tryz.prog = true := by kernel_rfl

theorem gPw : Tryz.prog.globalNamed "internal/strconv.uint64pow10" = some 2 := by kernel_rfl
theorem gPwT : (Tryz.prog.globals[2]?).map (·.type) = some 208 := by kernel_rfl

theorem gWd : Tryz.prog.globalNamed "glossary/lower.plainWords" = some 0 := by kernel_rfl
theorem gWdT : (Tryz.prog.globals[0]?).map (·.type) = some 56 := by kernel_rfl
def pwU : List (List UInt8) := [[], [100, 111, 117, 98, 108, 101], [102, 108, 111, 97, 116], [105, 110, 116, 54, 52], [117, 105, 110, 116, 54, 52], [105, 110, 116, 51, 50], [102, 105, 120, 101, 100, 54, 52], [102, 105, 120, 101, 100, 51, 50], [98, 111, 111, 108], [115, 116, 114, 105, 110, 103], [], [], [98, 121, 116, 101, 115], [117, 105, 110, 116, 51, 50], [], [115, 102, 105, 120, 101, 100, 51, 50], [115, 102, 105, 120, 101, 100, 54, 52], [115, 105, 110, 116, 51, 50], [115, 105, 110, 116, 54, 52]]

/-- WHAT THE ROW's LIST AND THE WORLD's SHAPE GIVE: the tables hold what they are laid as; internal/bytealg.MaxLen holds some number. -/
theorem table {W : World} (h : laidMetH Tryz.prog Rows.lowerTypesRow.laid W) (hs : W.ShapedOpen Tryz.prog) : LoTab W := by
  have h0 : laidMet Tryz.prog [("math/bits.deBruijn32tab", Rows.laid_math_bits_deBruijn32tab), ("math/bits.deBruijn64tab", Rows.laid_math_bits_deBruijn64tab), ("internal/strconv.uint64pow10", Rows.laid_internal_strconv_uint64pow10), ("glossary/lower.plainWords", Rows.laid_glossary_lower_plainWords)] W := h
  have h3 : Lib.TabIs Tryz.prog W "internal/strconv.uint64pow10" .u64 Lib.pow10Tab := Lib.tabIs_of_head gPw gPwT Tryz.underlying208 Tryz.underlying61 (by kernel_rfl) (by kernel_rfl) h0.tail.tail
  have h4 := strs_of_head (zs := pwU) (rest := []) gWd gWdT Tryz.underlying56 Tryz.underlying9 (by kernel_rfl) (by kernel_rfl) h0.tail.tail.tail
  rw [show (pwU.map fun z => Value.string ⟨z.toArray⟩).toArray = pwVal from by kernel_rfl] at h4
  exact ⟨⟨h3, cell_of_shapedOpen_int (zero := #[.int .i64 0]) (t := 3) hs (of_decide_eq_true (by kernel_rfl)) (by kernel_rfl) rfl (by kernel_rfl) (by kernel_rfl) Tryz.underlying3⟩, h4⟩

/-- A WORLD FOR THE WITNESS: the settled one, the tables holding what their initialisers lay. -/
def layCells (xs : Array Value) : Obj → Obj
  | .cells _ t frozen => .cells xs t frozen
  | o => o
def db32 : List Int := [0, 1, 28, 2, 29, 14, 24, 3, 30, 22, 20, 15, 25, 17, 4, 8, 31, 27, 13, 23, 21, 19, 16, 7, 26, 12, 18, 6, 11, 5, 10, 9]
def db64 : List Int := [0, 1, 56, 2, 57, 49, 28, 3, 61, 58, 42, 50, 38, 29, 17, 4, 62, 47, 59, 36, 45, 43, 51, 22, 53, 39, 33, 30, 24, 18, 12, 5, 63, 55, 48, 27, 60, 41, 37, 16, 46, 35, 44, 21, 52, 32, 23, 11, 54, 26, 40, 15, 34, 20, 31, 10, 25, 14, 19, 9, 13, 8, 7, 6]
def pw10 : List Int := [1, 10, 100, 1000, 10000, 100000, 1000000, 10000000, 100000000, 1000000000, 10000000000, 100000000000, 1000000000000, 10000000000000, 100000000000000, 1000000000000000, 10000000000000000, 100000000000000000, 1000000000000000000, 10000000000000000000]
noncomputable def laidWorld (os : Os) : World :=
  { World.holding Tryz.prog os ⟨#[], #[], []⟩ with heap := ((((World.holding Tryz.prog os ⟨#[], #[], []⟩).heap.modify 3 (layCells (db32.map fun z => Value.int .u8 z).toArray)).modify 4 (layCells (db64.map fun z => Value.int .u8 z).toArray)).modify 2 (layCells (pw10.map fun z => Value.int .u64 z).toArray)).modify 0 (layCells (pwU.map fun z => Value.string ⟨z.toArray⟩).toArray) }
set_option maxRecDepth 10000 in
set_option maxHeartbeats 4000000 in
theorem walk (z0 : List Int) (x1 : Int) (w : World) (hT : Hid (LoTab w)) (hz0 : Hid (∀ i, 0 ≤ z0.getD i 0 ∧ z0.getD i 0 ≤ 255)) (b1 : -9223372036854775808 ≤ x1 ∧ x1 ≤ 9223372036854775807) :
    Calls Tryz.prog 3 #[.string (strOfNums z0), .int .i64 x1] w fun e w' => e = .returned (.bool true) ∧ Below w.heap.size w w' := by
  have hsz := strOfNums_size z0
  by_cases hbig : 300 < z0.length
  · have hbig' : (300 : Int) < (z0.length : Int) := by omega
    generalize strOfNums z0 = S at hsz
    go_enter Tryz.func3, Tryz.ntmps3
    go_wp2_with fail
    refine (lawake_any _ hT).mono ?_
    rintro e w1 ⟨rfl, hbb1⟩
    go_wp2
    go_ret
    exact ⟨rfl, hbb1⟩
  · have hbig' : ¬ (300 : Int) < (z0.length : Int) := by omega
    have q1 := fun W (hB : Below w.heap.size w W) => ptype_any z0 W (show Hid _ from hT.out.below hB (Nat.le_refl _)) (mem_bd hz0.out)
    have q2 := fun W => rword_any z0 W (mem_bd hz0.out)
    have q3 := fun W (hB : Below w.heap.size w W) => xplain_any x1 W (show Hid _ from hT.out.below hB (Nat.le_refl _)) b1
    have q4 := fun W => rplain_any x1 W b1
    have q5 := fun W (hB : Below w.heap.size w W) => ptype_any (nplain x1) W (show Hid _ from hT.out.below hB (Nat.le_refl _)) (nplain_bd x1)
    have hback := nplain_back x1
    have hnil : ((strOfNums (nplain x1)).toList == []) = decide (nplain x1 = []) := by
      rw [str_list]
      cases nplain x1 <;> rfl
    generalize (nword z0 : Int) = R at q1 q2
    generalize strOfNums z0 = S at hsz q1 q2
    have e1 : (R == R) = true := by simp
    have Q1 : Hid _ := q1
    have Q2 : Hid _ := q2
    have Q3 : Hid _ := q3
    have Q4 : Hid _ := q4
    have Q5 : Hid _ := q5
    clear q1 q2 q3 q4 q5
    obtain ⟨X, HX⟩ : ∃ X, Hid (X = strOfNums (nplain x1)) := ⟨_, rfl⟩
    rw [← HX.out] at hnil Q3 Q4 Q5
    have e2 : (X.toList == X.toList) = true := by simp
    by_cases hx : nplain x1 = []
    · rw [decide_eq_true hx] at hnil
      clear hback Q5 hx
      go_enter Tryz.func3, Tryz.ntmps3
      go_wp2_with fail
      refine (lawake_any _ hT).mono ?_
      rintro e w1 ⟨rfl, hbb1⟩
      have HB1 : Hid _ := hbb1
      clear hbb1
      go_wp2_with fail
      refine Calls.mono (Q3.out _ HB1.out) ?_
      rintro e w2 ⟨rfl, rfl⟩
      go_wp2_with fail
      refine Calls.mono (Q1.out _ HB1.out) ?_
      rintro e w2 ⟨rfl, rfl⟩
      go_wp2_with fail
      refine Calls.mono (Q2.out _) ?_
      rintro e w2 ⟨rfl, hb2⟩
      have HB2 : Hid (Below w.heap.size w w2) := HB1.out.trans (hb2.mono HB1.out.size)
      clear hb2
      go_wp2_with fail
      refine Calls.mono (Q4.out _) ?_
      rintro e w3 ⟨rfl, hb3⟩
      have HB3 : Hid (Below w.heap.size w w3) := HB2.out.trans (hb3.mono HB2.out.size)
      clear hb3
      go_wp2
      go_ret
      exact ⟨rfl, HB3.out⟩
    · rw [decide_eq_false hx] at hnil
      rw [hback hx] at Q5
      have e3 : (x1 == x1) = true := by simp
      clear hback hx
      go_enter Tryz.func3, Tryz.ntmps3
      go_wp2_with fail
      refine (lawake_any _ hT).mono ?_
      rintro e w1 ⟨rfl, hbb1⟩
      have HB1 : Hid _ := hbb1
      clear hbb1
      go_wp2_with fail
      refine Calls.mono (Q3.out _ HB1.out) ?_
      rintro e w2 ⟨rfl, rfl⟩
      go_wp2_with fail
      refine Calls.mono (Q1.out _ HB1.out) ?_
      rintro e w2 ⟨rfl, rfl⟩
      go_wp2_with fail
      refine Calls.mono (Q2.out _) ?_
      rintro e w2 ⟨rfl, hb2⟩
      have HB2 : Hid (Below w.heap.size w w2) := HB1.out.trans (hb2.mono HB1.out.size)
      clear hb2
      go_wp2_with fail
      refine Calls.mono (Q4.out _) ?_
      rintro e w3 ⟨rfl, hb3⟩
      have HB3 : Hid (Below w.heap.size w w3) := HB2.out.trans (hb3.mono HB2.out.size)
      clear hb3
      go_wp2_with fail
      refine Calls.mono (Q5.out _ HB3.out) ?_
      rintro e w4 ⟨rfl, rfl⟩
      go_wp2
      go_ret
      exact ⟨rfl, HB3.out⟩

set_option maxRecDepth 100000 in
theorem contract (H : Type) (enc : TypeId × Value → H) (W : World) (base : Nat) (args : Array Value) (ds gs : List (DataW H)) (before : List MemPlace)
    (hval0 : ∀ (j : Nat) t v, Tryz.f3.params[j]? = some t → args[j]? = some v → Value.okWide Tryz.prog W .any base t v)
    (hW : DataW.Whole enc Tryz.prog Tryz.f3.params.toList Rows.lowerTypesSpec.vars false W args.toList ds gs before) (hL : laidMetH Tryz.prog Rows.lowerTypesRow.laid W) (hsh : W.ShapedOpen Tryz.prog) :
    Calls Tryz.prog 3 args W fun e W' => ∃ v, e = .returned v ∧ Rows.lowerTypesSpec.post enc Tryz.prog Tryz.f3 false true false false W args v W' := by
  have hval : ∀ (j : Nat) t v, Tryz.f3.params[j]? = some t → args[j]? = some v → Value.okWide Tryz.prog W .any base t v := hval0
  have hW' := hW
  obtain ⟨p, q, hA0, hV, rfl, hfz, hnd⟩ := hW
  have hA : DataW.TrodAll enc Tryz.prog W 0 (fun _ => true) true Tryz.f3.params.toList args.toList ds p := hA0
  rw [Tryz.params3] at hA hval
  obtain ⟨v0, vs0, d0, ds0, p0, q0, hargs, rfl, rfl, h0, r0⟩ := trodAll_cons hA
  obtain ⟨v1, vs1, d1, ds1, p1, q1, rfl, rfl, rfl, h1, r1⟩ := trodAll_cons r0
  obtain ⟨rfl, rfl, rfl⟩ := trodAll_nil r1
  obtain rfl : args = #[v0, v1] := by cases args; simp_all
  obtain ⟨rfl, rfl⟩ := trodVars_none hV
  obtain ⟨s0, rfl, rfl, rfl, w0⟩ := open_string Tryz.underlying9 (hval 0 9 v0 rfl rfl) h0
  obtain ⟨z0, rfl, hz0⟩ := str_nums s0
  obtain ⟨x1, rfl, rfl, rfl, w1⟩ := open_int Tryz.underlying3 (hval 1 3 v1 rfl rfl) h1
  clear hA0 hval0
  refine (walk z0 x1 W (table hL hsh) hz0 (bounds_i64 w1)).mono fun e W' ⟨he, bel⟩ => ?_
  subst he
  exact ⟨_, rfl, _, _, _, [], _, [], hW', trodAll_mk1 (shut_bool Tryz.underlying4 _), (trodAll_cons_mk (shut_string Tryz.underlying9 w0) (trodAll_cons_mk (shut_int Tryz.underlying3 w1) trodAll_mk0)), rfl, bel.frame _, fun h => by cases h⟩

theorem laid_met (os : Os) : laidMet Tryz.prog Rows.lowerTypesRow.laid ((laidWorld os).forCall (fun _ _ => 0) ⟨#[], #[.string ByteArray.empty, .int .i64 0], []⟩).memory :=
  laidMet_of_run' 8 (by kernel_rfl) (by kernel_rfl)

theorem reads (os : Os) {H : Type} (enc : TypeId × Value → H) : ∃ places, DataW.whole enc Tryz.prog ((laidWorld os).forCall (fun _ _ => 0) ⟨#[], #[.string ByteArray.empty, .int .i64 0], []⟩).memory Tryz.f3.params.toList Rows.lowerTypesSpec.vars false (#[.string ByteArray.empty, .int .i64 0] : Array Value).toList 8 = some ([.lit (.string []), .lit (.int .i64 0)], [], places) :=
  ⟨[], by kernel_rfl⟩

set_option maxRecDepth 100000 in
theorem lifted (os : Os) (started : os.Started) (H : Type) (enc : TypeId × Value → H) (F : Stop.Interp) :
    ReturnsInHanded {} Tryz.checked os 3 .any ((OpenSpec.ofChange Rows.lowerTypesSpec).preRow enc Tryz.prog Tryz.f3 Rows.lowerTypesRow.domain false Rows.lowerTypesRow.laid) (((OpenSpec.ofChange Rows.lowerTypesSpec).at F).post enc Tryz.prog Tryz.f3 false true false false) := by
  obtain ⟨places, hx⟩ := reads os enc
  refine returnsInHanded_of_row (C := Tryz.checked) (s := OpenSpec.ofChange Rows.lowerTypesSpec) own started (by kernel_rfl) Tryz.func3
    (witness_row_at (enc := enc) (C := Tryz.checked) false (laidWorld os) #[.string ByteArray.empty, .int .i64 0] rfl (by kernel_rfl) (by kernel_rfl) (by kernel_rfl)
      (OpenSpec.preRow_of_cond 8 hx (by kernel_rfl) (fun k hk => by cases hk) (by kernel_rfl) (laid_met os))) ?_
  intro W base args ds gs before hval hW _ _ _ hL hsh _
  exact contract H enc W base args ds gs before hval hW hL hsh

theorem said : Rows.LowerTypesSaid :=
  OpenClaim.holds_of_cond 3 Tryz.f3 rfl rfl rfl rfl rfl rfl rfl ⟨rfl, rfl, rfl, rfl, rfl⟩ rfl rfl rfl rfl rfl (by kernel_rfl) Tryz.func3 (by kernel_rfl)
    (of_decide_eq_true (by kernel_rfl)) (by unfold Func.isWrapper; first | (rw [if_pos (by decide +kernel)]; kernel_rfl) | (rw [if_neg (by decide +kernel)]; exact ⟨rfl, rfl⟩))
    (fun os started H enc _ F => by rw [OpenClaim.pre_eq_preRow]; exact lifted os started H enc F)

/-- No parameter wants a stand-in; the program's own looks are off: what the card asks. -/
theorem plain (f : FuncId) (fn : Func) (hf : Tryz.pinned.checked.prog.funcNamed "glossary/glossarylaw13.LowerTypes" = some f) (hfn : Tryz.pinned.checked.prog.funcs[f]? = some fn) :
    true = Tryz.pinned.checked.prog.looks [] ∧ ∀ (j : Nat) t, fn.params[j]? = some t → Tryz.pinned.checked.prog.wantsStandIn t = false := by
  obtain rfl : f = 3 := Option.some.inj ((show Tryz.prog.funcNamed "glossary/glossarylaw13.LowerTypes" = some 3 by kernel_rfl).symm.trans hf) |>.symm
  obtain rfl : fn = Tryz.f3 := (Option.some.inj (Tryz.func3.symm.trans hfn)).symm
  refine ⟨by kernel_rfl, fun j t ht => ?_⟩
  rw [Tryz.params3] at ht
  have hm := Array.mem_of_getElem? ht
  simp only [List.mem_toArray, List.mem_cons, List.not_mem_nil, or_false] at hm
  rcases hm with rfl | rfl
  · exact (show Tryz.prog.wantsStandIn 9 = false by kernel_rfl)
  · exact (show Tryz.prog.wantsStandIn 3 = false by kernel_rfl)

end Go.Proofs.YtlekfcehmlepkaaGreatDoor.lowerTypes
namespace Go.Proofs.YtlekfcehmlepkaaGreatDoor
theorem lowerTypes_holds : Rows.LowerTypesCardSaid :=
  Claim7.holds_tied_plain_at .later [] _ _ _ _ lowerTypes.said (fun _ h => by cases h) (by kernel_rfl) (fun _ h => by cases h) lowerTypes_row_tie rfl ⟨rfl, rfl⟩ (by kernel_rfl) rfl lowerTypes.plain (by kernel_rfl)
#print axioms lowerTypes_holds
end Go.Proofs.YtlekfcehmlepkaaGreatDoor
