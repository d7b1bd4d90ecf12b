/- CheckDefaults, proved for every number and every text: Default answers as the document asks; no condition. -/
import Derived.Test.YtcnjjhdmnagkgaaGreatDoorCards
import Derived.Test.YtcnjjhdmnagkgaaGreatDoorTie
import Derived.Deep.RegionWith
import Derived.Deep.RegionHeld3
import Derived.ProofKit
import Derived.OpenShut
import Derived.ShutString
import Derived.ChangeOld
import Derived.Below
import Derived.Deep.DeepHandedRow
import Derived.Lib.LaidTab
import Derived.Stop.LaidErr
import Derived.Shelf.Vars
import Derived.Test.YtcnjjhdmnagkgaaGreatDoorBunC28
namespace Go.Proofs.YtcnjjhdmnagkgaaGreatDoor.checkDefaults
open Go.ChangeShapes Go.WideShapes Go.ChangeAt Go.RowKit
open Go.ChangeMaps (open_string shut_string)
set_option linter.unusedVariables false

theorem own : ownKnob Tryz.prog.godebug = none := by kernel_rfl
theorem laidOut : laidOutB Tryz.prog = true := by kernel_rfl

theorem gPw : Tryz.prog.globalNamed "internal/strconv.uint64pow10" = some 1 := by kernel_rfl
theorem gPwT : (Tryz.prog.globals[1]?).map (·.type) = some 351 := by kernel_rfl

theorem gWd : Tryz.prog.globalNamed "glossary/lower.plainWords" = some 0 := by kernel_rfl
theorem gWdT : (Tryz.prog.globals[0]?).map (·.type) = some 327 := by kernel_rfl
def pwU : List (List UInt8) := [[], [100, 111, 117, 98, 108, 101], [102, 108, 111, 97, 116], [105, 110, 116, 54, 52], [117, 105, 110, 116, 54, 52], [105, 110, 116, 51, 50], [102, 105, 120, 101, 100, 54, 52], [102, 105, 120, 101, 100, 51, 50], [98, 111, 111, 108], [115, 116, 114, 105, 110, 103], [], [], [98, 121, 116, 101, 115], [117, 105, 110, 116, 51, 50], [], [115, 102, 105, 120, 101, 100, 51, 50], [115, 102, 105, 120, 101, 100, 54, 52], [115, 105, 110, 116, 51, 50], [115, 105, 110, 116, 54, 52]]

/-- WHAT THE ROW's LIST AND THE WORLD's SHAPE GIVE: the tables hold what they are laid as; internal/bytealg.MaxLen holds some number. -/
theorem table {W : World} (h : laidMetH Tryz.prog Rows.checkDefaultsRow.laid W) (hs : W.ShapedOpen Tryz.prog) : LoTab W := by
  have h0 : laidMet Tryz.prog [("math/bits.deBruijn32tab", Rows.laid_math_bits_deBruijn32tab), ("math/bits.deBruijn64tab", Rows.laid_math_bits_deBruijn64tab), ("internal/strconv.uint64pow10", Rows.laid_internal_strconv_uint64pow10), ("glossary/lower.plainWords", Rows.laid_glossary_lower_plainWords)] W := h
  have h3 : Lib.TabIs Tryz.prog W "internal/strconv.uint64pow10" .u64 Lib.pow10Tab := Lib.tabIs_of_head gPw gPwT Tryz.underlying351 Tryz.underlying77 (by kernel_rfl) (by kernel_rfl) h0.tail.tail
  have h4 := strs_of_head (zs := pwU) (rest := []) gWd gWdT Tryz.underlying327 Tryz.underlying9 (by kernel_rfl) (by kernel_rfl) h0.tail.tail.tail
  rw [show (pwU.map fun z => Value.string ⟨z.toArray⟩).toArray = pwVal from by kernel_rfl] at h4
  exact ⟨⟨h3, cell_of_shapedOpen_int (zero := #[.int .i64 0]) (t := 3) hs (of_decide_eq_true (by kernel_rfl)) (by kernel_rfl) rfl (by kernel_rfl) (by kernel_rfl) Tryz.underlying3⟩, h4⟩

/-- A WORLD FOR THE WITNESS: the settled one, the tables holding what their initialisers lay. -/
def layCells (xs : Array Value) : Obj → Obj
  | .cells _ t frozen => .cells xs t frozen
  | o => o
def db32 : List Int := [0, 1, 28, 2, 29, 14, 24, 3, 30, 22, 20, 15, 25, 17, 4, 8, 31, 27, 13, 23, 21, 19, 16, 7, 26, 12, 18, 6, 11, 5, 10, 9]
def db64 : List Int := [0, 1, 56, 2, 57, 49, 28, 3, 61, 58, 42, 50, 38, 29, 17, 4, 62, 47, 59, 36, 45, 43, 51, 22, 53, 39, 33, 30, 24, 18, 12, 5, 63, 55, 48, 27, 60, 41, 37, 16, 46, 35, 44, 21, 52, 32, 23, 11, 54, 26, 40, 15, 34, 20, 31, 10, 25, 14, 19, 9, 13, 8, 7, 6]
def pw10 : List Int := [1, 10, 100, 1000, 10000, 100000, 1000000, 10000000, 100000000, 1000000000, 10000000000, 100000000000, 1000000000000, 10000000000000, 100000000000000, 1000000000000000, 10000000000000000, 100000000000000000, 1000000000000000000, 10000000000000000000]
noncomputable def laidWorld (os : Os) : World :=
  { World.holding Tryz.prog os ⟨#[], #[], []⟩ with heap := ((((World.holding Tryz.prog os ⟨#[], #[], []⟩).heap.modify 3 (layCells (db32.map fun z => Value.int .u8 z).toArray)).modify 4 (layCells (db64.map fun z => Value.int .u8 z).toArray)).modify 1 (layCells (pw10.map fun z => Value.int .u64 z).toArray)).modify 0 (layCells (pwU.map fun z => Value.string ⟨z.toArray⟩).toArray) }
set_option maxRecDepth 10000 in
set_option maxHeartbeats 4000000 in
theorem walk (x0 : Int) (z1 : List Int) (w : World) (hT : Hid (LoTab w)) (b0 : -9223372036854775808 ≤ x0 ∧ x0 ≤ 9223372036854775807) (hz1 : Hid (∀ i, 0 ≤ z1.getD i 0 ∧ z1.getD i 0 ≤ 255)) :
    Calls Tryz.prog 4 #[.int .i64 x0, .string (strOfNums z1)] w fun e w' => e = .returned (.bool true) ∧ Below w.heap.size w w' := by
  have hsz := strOfNums_size z1
  by_cases hbig : 500 < z1.length
  · have hbig' : (500 : Int) < (z1.length : Int) := by omega
    generalize strOfNums z1 = S at hsz ⊢
    go_enter Tryz.func4, Tryz.ntmps4
    go_wp2_with fail
    refine (ckawake _ hT).mono ?_
    rintro e w1 ⟨rfl, hbb1⟩
    have HB1 : Hid _ := hbb1
    clear hbb1
    go_wp2
    go_ret
    exact ⟨rfl, HB1.out⟩
  · have hbig' : ¬ (500 : Int) < (z1.length : Int) := by omega
    have hlen : (z1.length : Int) ≤ 1000000 := by omega
    have q1 := fun V (hB : Below w.heap.size w V) => pckdef_any x0 z1 V hz1 hlen (show Hid _ from hT.out.below hB (Nat.le_refl _))
    have q2 := fun V => rckdef_any x0 z1 V hz1 hlen
    rw [dck_eq] at q1
    generalize rck x0 z1 = B at q1 q2
    have eB : (B == B) = true := by simp
    have Q1 : Hid _ := q1
    have Q2 : Hid _ := q2
    clear q1 q2 hlen
    generalize strOfNums z1 = S at hsz Q1 Q2 ⊢
    go_enter Tryz.func4, Tryz.ntmps4
    go_wp2_with fail
    refine (ckawake _ hT).mono ?_
    rintro e w1 ⟨rfl, hbb1⟩
    have HB1 : Hid _ := hbb1
    clear hbb1
    go_wp2_with fail
    refine Calls.mono (Q1.out _ HB1.out) ?_
    rintro e w2 ⟨rfl, hb2⟩
    have HB2 : Hid (Below w.heap.size w w2) := HB1.out.trans (hb2.mono HB1.out.size)
    clear hb2
    go_wp2_with fail
    refine Calls.mono (Q2.out _) ?_
    rintro e w3 ⟨rfl, hb3⟩
    have HB3 : Hid (Below w.heap.size w w3) := HB2.out.trans (hb3.mono HB2.out.size)
    clear hb3
    go_wp2
    go_ret
    exact ⟨rfl, HB3.out⟩

set_option maxRecDepth 100000 in
theorem contract (H : Type) (enc : TypeId × Value → H) (W : World) (base : Nat) (args : Array Value) (ds gs : List (DataW H)) (before : List MemPlace)
    (hval0 : ∀ (j : Nat) t v, Tryz.f4.params[j]? = some t → args[j]? = some v → Value.okWide Tryz.prog W .any base t v)
    (hW : DataW.Whole enc Tryz.prog Tryz.f4.params.toList Rows.checkDefaultsSpec.vars false W args.toList ds gs before) (hL : laidMetH Tryz.prog Rows.checkDefaultsRow.laid W) (hsh : W.ShapedOpen Tryz.prog) :
    Calls Tryz.prog 4 args W fun e W' => ∃ v, e = .returned v ∧ Rows.checkDefaultsSpec.post enc Tryz.prog Tryz.f4 false true false false W args v W' := by
  have hval : ∀ (j : Nat) t v, Tryz.f4.params[j]? = some t → args[j]? = some v → Value.okWide Tryz.prog W .any base t v := hval0
  have hW' := hW
  obtain ⟨p, q, hA0, hV, rfl, hfz, hnd⟩ := hW
  have hA : DataW.TrodAll enc Tryz.prog W 0 (fun _ => true) true Tryz.f4.params.toList args.toList ds p := hA0
  rw [Tryz.params4] at hA hval
  obtain ⟨v0, vs0, d0, ds0, p0, q0, hargs, rfl, rfl, h0, r0⟩ := trodAll_cons hA
  obtain ⟨v1, vs1, d1, ds1, p1, q1, rfl, rfl, rfl, h1, r1⟩ := trodAll_cons r0
  obtain ⟨rfl, rfl, rfl⟩ := trodAll_nil r1
  obtain rfl : args = #[v0, v1] := by cases args; simp_all
  obtain ⟨rfl, rfl⟩ := trodVars_none hV
  obtain ⟨x0, rfl, rfl, rfl, w0⟩ := open_int Tryz.underlying3 (hval 0 3 v0 rfl rfl) h0
  obtain ⟨s1, rfl, rfl, rfl, w1⟩ := open_string Tryz.underlying9 (hval 1 9 v1 rfl rfl) h1
  obtain ⟨z1, rfl, hz1⟩ := str_nums s1
  clear hA0 hval0
  refine (walk x0 z1 W (table hL hsh) (bounds_i64 w0) hz1).mono fun e W' ⟨he, bel⟩ => ?_
  subst he
  exact ⟨_, rfl, _, _, _, [], _, [], hW', trodAll_mk1 (shut_bool Tryz.underlying4 _), (trodAll_cons_mk (shut_int Tryz.underlying3 w0) (trodAll_cons_mk (shut_string Tryz.underlying9 w1) trodAll_mk0)), rfl, bel.frame _, fun h => by cases h⟩

theorem laid_met (os : Os) : laidMet Tryz.prog Rows.checkDefaultsRow.laid ((laidWorld os).forCall (fun _ _ => 0) ⟨#[], #[.int .i64 0, .string ByteArray.empty], []⟩).memory :=
  laidMet_of_run' 8 (by kernel_rfl) (by kernel_rfl)

theorem reads (os : Os) {H : Type} (enc : TypeId × Value → H) : ∃ places, DataW.whole enc Tryz.prog ((laidWorld os).forCall (fun _ _ => 0) ⟨#[], #[.int .i64 0, .string ByteArray.empty], []⟩).memory Tryz.f4.params.toList Rows.checkDefaultsSpec.vars false (#[.int .i64 0, .string ByteArray.empty] : Array Value).toList 8 = some ([.lit (.int .i64 0), .lit (.string [])], [], places) :=
  ⟨[], by kernel_rfl⟩

set_option maxRecDepth 100000 in
theorem lifted (os : Os) (started : os.Started) (H : Type) (enc : TypeId × Value → H) (F : Stop.Interp) :
    ReturnsInHanded {} Tryz.checked os 4 .any ((OpenSpec.ofChange Rows.checkDefaultsSpec).preRow enc Tryz.prog Tryz.f4 Rows.checkDefaultsRow.domain false Rows.checkDefaultsRow.laid) (((OpenSpec.ofChange Rows.checkDefaultsSpec).at F).post enc Tryz.prog Tryz.f4 false true false false) := by
  obtain ⟨places, hx⟩ := reads os enc
  refine returnsInHanded_of_row (C := Tryz.checked) (s := OpenSpec.ofChange Rows.checkDefaultsSpec) own started (by kernel_rfl) Tryz.func4
    (witness_row_at (enc := enc) (C := Tryz.checked) false (laidWorld os) #[.int .i64 0, .string ByteArray.empty] rfl (by kernel_rfl) (by kernel_rfl) (by kernel_rfl)
      (OpenSpec.preRow_of_cond 8 hx (by kernel_rfl) (fun k hk => by cases hk) (by kernel_rfl) (laid_met os))) ?_
  intro W base args ds gs before hval hW _ _ _ hL hsh _
  exact contract H enc W base args ds gs before hval hW hL hsh

theorem said : Rows.CheckDefaultsSaid :=
  OpenClaim.holds_of_cond 4 Tryz.f4 rfl rfl rfl rfl rfl rfl rfl ⟨rfl, rfl, rfl, rfl, rfl⟩ rfl rfl rfl rfl rfl (by kernel_rfl) Tryz.func4 (by kernel_rfl)
    (of_decide_eq_true (by kernel_rfl)) (by unfold Func.isWrapper; first | (rw [if_pos (by decide +kernel)]; kernel_rfl) | (rw [if_neg (by decide +kernel)]; exact ⟨rfl, rfl⟩))
    (fun os started H enc _ F => by rw [OpenClaim.pre_eq_preRow]; exact lifted os started H enc F)

/-- No parameter wants a stand-in; the program's own looks are off: what the card asks. -/
theorem plain (f : FuncId) (fn : Func) (hf : Tryz.pinned.checked.prog.funcNamed "glossary/glossarylaw16.CheckDefaults" = some f) (hfn : Tryz.pinned.checked.prog.funcs[f]? = some fn) :
    true = Tryz.pinned.checked.prog.looks [] ∧ ∀ (j : Nat) t, fn.params[j]? = some t → Tryz.pinned.checked.prog.wantsStandIn t = false := by
  obtain rfl : f = 4 := Option.some.inj ((show Tryz.prog.funcNamed "glossary/glossarylaw16.CheckDefaults" = some 4 by kernel_rfl).symm.trans hf) |>.symm
  obtain rfl : fn = Tryz.f4 := (Option.some.inj (Tryz.func4.symm.trans hfn)).symm
  refine ⟨by kernel_rfl, fun j t ht => ?_⟩
  rw [Tryz.params4] at ht
  have hm := Array.mem_of_getElem? ht
  simp only [List.mem_toArray, List.mem_cons, List.not_mem_nil, or_false] at hm
  rcases hm with rfl | rfl
  · exact (show Tryz.prog.wantsStandIn 3 = false by kernel_rfl)
  · exact (show Tryz.prog.wantsStandIn 9 = false by kernel_rfl)

end Go.Proofs.YtcnjjhdmnagkgaaGreatDoor.checkDefaults
namespace Go.Proofs.YtcnjjhdmnagkgaaGreatDoor
theorem checkDefaults_holds : Rows.CheckDefaultsCardSaid :=
  Claim7.holds_tied_plain_at .later [] _ _ _ _ checkDefaults.said (fun _ h => by cases h) (by kernel_rfl) (fun _ h => by cases h) checkDefaults_row_tie rfl ⟨rfl, rfl⟩ (by kernel_rfl) rfl checkDefaults.plain (by kernel_rfl)
#print axioms checkDefaults_holds
end Go.Proofs.YtcnjjhdmnagkgaaGreatDoor
