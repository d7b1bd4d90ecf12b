/- NodeChecks, proved for every tree: Check answers as the document asks; no condition. -/
import Derived.Test.YtgkablmglkagfaaGreatDoorCards
import Derived.Test.YtgkablmglkagfaaGreatDoorTie
import Derived.Deep.RegionWith
import Derived.Deep.RegionHeld3
import Derived.ProofKit
import Derived.OpenShut
import Derived.ShutString
import Derived.ChangeOld
import Derived.Below
import Derived.Deep.DeepHandedRow
import Derived.Lib.LaidTab
import Derived.Stop.LaidErr
import Derived.Shelf.Vars
import Derived.Test.YtgkablmglkagfaaGreatDoorBunC15
import Derived.Test.YtgkablmglkagfaaGreatDoorBunC22
namespace Go.Proofs.YtgkablmglkagfaaGreatDoor.nodeChecks
open Go.ChangeShapes Go.WideShapes Go.ChangeAt Go.RowKit
open Go.ChangeMaps (open_string shut_string)
set_option linter.unusedVariables false

theorem own : ownKnob Tryz.prog.godebug = none := by kernel_rfl
theorem laidOut : laidOutB Tryz.prog = true := by kernel_rfl

theorem gPw : Tryz.prog.globalNamed "internal/strconv.uint64pow10" = some 1 := by kernel_rfl
theorem gPwT : (Tryz.prog.globals[1]?).map (·.type) = some 85 := by kernel_rfl

/-- WHAT THE ROW's LIST AND THE WORLD's SHAPE GIVE: the table of powers holds its numbers; internal/bytealg.MaxLen holds some number. -/
theorem table {W : World} (h : laidMetH Tryz.prog Rows.nodeChecksRow.laid W) (hs : W.ShapedOpen Tryz.prog) : TTab W := by
  have h0 : laidMet Tryz.prog [("math/bits.deBruijn32tab", Rows.laid_math_bits_deBruijn32tab), ("math/bits.deBruijn64tab", Rows.laid_math_bits_deBruijn64tab), ("internal/strconv.uint64pow10", Rows.laid_internal_strconv_uint64pow10)] W := h
  have h3 : Lib.TabIs Tryz.prog W "internal/strconv.uint64pow10" .u64 Lib.pow10Tab := Lib.tabIs_of_head (rest := []) gPw gPwT Tryz.underlying85 Tryz.underlying39 (by kernel_rfl) (by kernel_rfl) h0.tail.tail
  exact ⟨h3, cell_of_shapedOpen_int (zero := #[.int .i64 0]) (t := 3) hs (of_decide_eq_true (by kernel_rfl)) (by kernel_rfl) rfl (by kernel_rfl) (by kernel_rfl) Tryz.underlying3⟩

/-- A WORLD FOR THE WITNESS: the settled one, the tables holding what their initialisers lay. -/
def layCells (xs : Array Value) : Obj → Obj
  | .cells _ t frozen => .cells xs t frozen
  | o => o
def db32 : List Int := [0, 1, 28, 2, 29, 14, 24, 3, 30, 22, 20, 15, 25, 17, 4, 8, 31, 27, 13, 23, 21, 19, 16, 7, 26, 12, 18, 6, 11, 5, 10, 9]
def db64 : List Int := [0, 1, 56, 2, 57, 49, 28, 3, 61, 58, 42, 50, 38, 29, 17, 4, 62, 47, 59, 36, 45, 43, 51, 22, 53, 39, 33, 30, 24, 18, 12, 5, 63, 55, 48, 27, 60, 41, 37, 16, 46, 35, 44, 21, 52, 32, 23, 11, 54, 26, 40, 15, 34, 20, 31, 10, 25, 14, 19, 9, 13, 8, 7, 6]
def pw10 : List Int := [1, 10, 100, 1000, 10000, 100000, 1000000, 10000000, 100000000, 1000000000, 10000000000, 100000000000, 1000000000000, 10000000000000, 100000000000000, 1000000000000000, 10000000000000000, 100000000000000000, 1000000000000000000, 10000000000000000000]
noncomputable def laidWorld (os : Os) : World :=
  { World.holding Tryz.prog os ⟨#[], #[], []⟩ with heap := (((World.holding Tryz.prog os ⟨#[], #[], []⟩).heap.modify 2 (layCells (db32.map fun z => Value.int .u8 z).toArray)).modify 3 (layCells (db64.map fun z => Value.int .u8 z).toArray)).modify 1 (layCells (pw10.map fun z => Value.int .u64 z).toArray) }

theorem own_step {w V w2 : World} {cs : Array Value} {ty : TypeId} (h : Below (w.alloc (.cells cs ty)).heap.size (w.alloc (.cells cs ty)) V) (hb : Below V.heap.size V w2) : Below (w.alloc (.cells cs ty)).heap.size (w.alloc (.cells cs ty)) w2 := h.trans (hb.mono h.size)

set_option maxRecDepth 10000 in
set_option maxHeartbeats 8000000 in
theorem walk (t0 : Tn) (w : World) (hT : Hid (TTab w)) (hn0 : Hid (TnOk w t0)) :
    Calls Tryz.prog 3 #[t0.val] w fun e w' => e = .returned (.bool true) ∧ Below w.heap.size w w' := by
  have qf := fun V hV => rfew_any hn0.out V hV
  by_cases hf : tfew t0 = true
  · have q1 := fun V (hV : Below w.heap.size w V) => pcheck_any hn0.out hf V (hT.out.below hV (Nat.le_refl _)) hV
    have q2 := fun V hV => rcheck_any hn0.out (tfew_short hf) V hV
    rw [hf] at qf
    generalize tcheck t0 = R at q1 q2
    obtain ⟨kind, text, n, m, a, pos, doc, ad, cap, kids⟩ := t0
    show Calls Tryz.prog 3 #[.agg #[.int .i64 kind, .string (strOfNums text), .int .i64 n, .int .i64 m, .int .i64 a, .int .i64 pos, .string (strOfNums doc), .slice ad kids.length cap]] w _
    change ∀ V, Below w.heap.size w V → Calls Tryz.prog 5 #[.agg #[.int .i64 kind, .string (strOfNums text), .int .i64 n, .int .i64 m, .int .i64 a, .int .i64 pos, .string (strOfNums doc), .slice ad kids.length cap]] V (fun e W' => e = .returned (.bool true) ∧ Below V.heap.size V W') at qf
    change ∀ V, Below w.heap.size w V → Calls Tryz.prog 6 #[.agg #[.int .i64 kind, .string (strOfNums text), .int .i64 n, .int .i64 m, .int .i64 a, .int .i64 pos, .string (strOfNums doc), .slice ad kids.length cap]] V (fun e W' => e = .returned (.bool R) ∧ Below V.heap.size V W') at q1
    change ∀ V, Below w.heap.size w V → Calls Tryz.prog 7 #[.agg #[.int .i64 kind, .string (strOfNums text), .int .i64 n, .int .i64 m, .int .i64 a, .int .i64 pos, .string (strOfNums doc), .slice ad kids.length cap]] V (fun e W' => e = .returned (.bool R) ∧ Below V.heap.size V W') at q2
    generalize strOfNums text = T1 at q1 q2 qf ⊢
    generalize strOfNums doc = T2 at q1 q2 qf ⊢
    have HBA : Hid (Below w.heap.size w (w.alloc (.cells #[.int .i64 kind, .string T1, .int .i64 n, .int .i64 m, .int .i64 a, .int .i64 pos, .string T2, .slice ad kids.length cap] 24))) := (Below.refl _ _).alloc (Nat.le_refl _) _
    have QF : Hid _ := qf
    have Q1 : Hid _ := q1
    have Q2 : Hid _ := q2
    have eR : (R == R) = true := by simp
    clear qf q1 q2 hn0 hf
    go_enter Tryz.func3, Tryz.ntmps3
    go_wp2_with fail
    refine (tawake_any _ (hT.out.below HBA.out (Nat.le_refl _))).mono ?_
    rintro e w1 ⟨rfl, hb1⟩
    have x0 := own_cells hb1 0 _ rfl
    have x1 := own_cells hb1 1 _ rfl
    have x2 := own_cells hb1 2 _ rfl
    have x3 := own_cells hb1 3 _ rfl
    have x4 := own_cells hb1 4 _ rfl
    have x5 := own_cells hb1 5 _ rfl
    have x6 := own_cells hb1 6 _ rfl
    have x7 := own_cells hb1 7 _ rfl
    have hb1d := hb1.drew
    have hb1w := (HBA.out.trans (hb1.mono HBA.out.size)).drew
    clear hb1
    go_wp2_with fail
    go_region_with (first
    | (go_at_call 5; refine Calls.mono (QF.out _ (by assumption)) ?_; rintro e w2 ⟨rfl, hb2⟩; have hb2o := own_step (w := w) (cs := #[.int .i64 kind, .string T1, .int .i64 n, .int .i64 m, .int .i64 a, .int .i64 pos, .string T2, .slice ad kids.length cap]) (ty := 24) (by assumption) hb2; have y0 := own_cells hb2o 0 _ rfl; have y1 := own_cells hb2o 1 _ rfl; have y2 := own_cells hb2o 2 _ rfl; have y3 := own_cells hb2o 3 _ rfl; have y4 := own_cells hb2o 4 _ rfl; have y5 := own_cells hb2o 5 _ rfl; have y6 := own_cells hb2o 6 _ rfl; have y7 := own_cells hb2o 7 _ rfl; have hb2w := HBA.out.trans (hb2o.mono HBA.out.size); clear hb2)
    | (go_at_call 6; refine Calls.mono (Q1.out _ (by assumption)) ?_; rintro e w3 ⟨rfl, hb3⟩; have hb3o := own_step (w := w) (cs := #[.int .i64 kind, .string T1, .int .i64 n, .int .i64 m, .int .i64 a, .int .i64 pos, .string T2, .slice ad kids.length cap]) (ty := 24) (by assumption) hb3; have z0 := own_cells hb3o 0 _ rfl; have z1 := own_cells hb3o 1 _ rfl; have z2 := own_cells hb3o 2 _ rfl; have z3 := own_cells hb3o 3 _ rfl; have z4 := own_cells hb3o 4 _ rfl; have z5 := own_cells hb3o 5 _ rfl; have z6 := own_cells hb3o 6 _ rfl; have z7 := own_cells hb3o 7 _ rfl; have hb3w := HBA.out.trans (hb3o.mono HBA.out.size); clear hb3)
    | (go_at_call 7; refine Calls.mono (Q2.out _ (by assumption)) ?_; rintro e w4 ⟨rfl, hb4⟩; have hb4o := own_step (w := w) (cs := #[.int .i64 kind, .string T1, .int .i64 n, .int .i64 m, .int .i64 a, .int .i64 pos, .string T2, .slice ad kids.length cap]) (ty := 24) (by assumption) hb4; have v0 := own_cells hb4o 0 _ rfl; have v1 := own_cells hb4o 1 _ rfl; have v2 := own_cells hb4o 2 _ rfl; have v3 := own_cells hb4o 3 _ rfl; have v4 := own_cells hb4o 4 _ rfl; have v5 := own_cells hb4o 5 _ rfl; have v6 := own_cells hb4o 6 _ rfl; have v7 := own_cells hb4o 7 _ rfl; have hb4w := HBA.out.trans (hb4o.mono HBA.out.size); clear hb4)
    )
    all_goals
      go_wp2
      go_ret
      exact ⟨by first | rfl | simp, by assumption⟩
  · have hf' : tfew t0 = false := by simpa using hf
    rw [hf'] at qf
    obtain ⟨kind, text, n, m, a, pos, doc, ad, cap, kids⟩ := t0
    show Calls Tryz.prog 3 #[.agg #[.int .i64 kind, .string (strOfNums text), .int .i64 n, .int .i64 m, .int .i64 a, .int .i64 pos, .string (strOfNums doc), .slice ad kids.length cap]] w _
    change ∀ V, Below w.heap.size w V → Calls Tryz.prog 5 #[.agg #[.int .i64 kind, .string (strOfNums text), .int .i64 n, .int .i64 m, .int .i64 a, .int .i64 pos, .string (strOfNums doc), .slice ad kids.length cap]] V (fun e W' => e = .returned (.bool false) ∧ Below V.heap.size V W') at qf
    generalize strOfNums text = T1 at qf ⊢
    generalize strOfNums doc = T2 at qf ⊢
    have HBA : Hid (Below w.heap.size w (w.alloc (.cells #[.int .i64 kind, .string T1, .int .i64 n, .int .i64 m, .int .i64 a, .int .i64 pos, .string T2, .slice ad kids.length cap] 24))) := (Below.refl _ _).alloc (Nat.le_refl _) _
    have QF : Hid _ := qf
    clear qf hn0 hf hf'
    go_enter Tryz.func3, Tryz.ntmps3
    go_wp2_with fail
    refine (tawake_any _ (hT.out.below HBA.out (Nat.le_refl _))).mono ?_
    rintro e w1 ⟨rfl, hb1⟩
    have x0 := own_cells hb1 0 _ rfl
    have x1 := own_cells hb1 1 _ rfl
    have x2 := own_cells hb1 2 _ rfl
    have x3 := own_cells hb1 3 _ rfl
    have x4 := own_cells hb1 4 _ rfl
    have x5 := own_cells hb1 5 _ rfl
    have x6 := own_cells hb1 6 _ rfl
    have x7 := own_cells hb1 7 _ rfl
    have hb1d := hb1.drew
    have hb1w := (HBA.out.trans (hb1.mono HBA.out.size)).drew
    clear hb1
    go_wp2_with fail
    go_region_with (first
    | (go_at_call 5; refine Calls.mono (QF.out _ (by assumption)) ?_; rintro e w2 ⟨rfl, hb2⟩; have hb2o := own_step (w := w) (cs := #[.int .i64 kind, .string T1, .int .i64 n, .int .i64 m, .int .i64 a, .int .i64 pos, .string T2, .slice ad kids.length cap]) (ty := 24) (by assumption) hb2; have y0 := own_cells hb2o 0 _ rfl; have y1 := own_cells hb2o 1 _ rfl; have y2 := own_cells hb2o 2 _ rfl; have y3 := own_cells hb2o 3 _ rfl; have y4 := own_cells hb2o 4 _ rfl; have y5 := own_cells hb2o 5 _ rfl; have y6 := own_cells hb2o 6 _ rfl; have y7 := own_cells hb2o 7 _ rfl; have hb2w := HBA.out.trans (hb2o.mono HBA.out.size); clear hb2)
    )
    all_goals
      go_wp2
      go_ret
      exact ⟨by first | rfl | simp, by assumption⟩

theorem contract (H : Type) (enc : TypeId × Value → H) (W : World) (base : Nat) (args : Array Value) (ds gs : List (DataW H)) (before : List MemPlace)
    (hval0 : ∀ (j : Nat) t v, Tryz.f3.params[j]? = some t → args[j]? = some v → Value.okWide Tryz.prog W .any base t v)
    (hW : DataW.Whole enc Tryz.prog Tryz.f3.params.toList Rows.nodeChecksSpec.vars false W args.toList ds gs before) (hL : laidMetH Tryz.prog Rows.nodeChecksRow.laid W) (hsh : W.ShapedOpen Tryz.prog) :
    Calls Tryz.prog 3 args W fun e W' => ∃ v, e = .returned v ∧ Rows.nodeChecksSpec.post enc Tryz.prog Tryz.f3 false true false false W args v W' := by
  have hval : ∀ (j : Nat) t v, Tryz.f3.params[j]? = some t → args[j]? = some v → Value.okWide Tryz.prog W .any base t v := hval0
  have hW' := hW
  obtain ⟨p, q, hA0, hV, rfl, hfz, hnd⟩ := hW
  have hA : DataW.TrodAll enc Tryz.prog W 0 (fun _ => true) true Tryz.f3.params.toList args.toList ds p := hA0
  rw [Tryz.params3] at hA hval
  obtain ⟨v0, vs0, d0, ds0, p0, q0, hargs, rfl, rfl, h0, r0⟩ := trodAll_cons hA
  obtain ⟨rfl, rfl, rfl⟩ := trodAll_nil r0
  obtain rfl : args = #[v0] := by cases args; simp_all
  obtain ⟨rfl, rfl⟩ := trodVars_none hV
  have lt0 : ∀ x ∈ p0, x.block < W.heap.size := by obtain ⟨m, hm⟩ := h0; exact DataW.trod_lt m _ _ _ hm
  obtain ⟨t0, rfl, w0⟩ := node_arg (hval 0 24 v0 rfl rfl) h0
  clear hA0 hval0
  refine (walk t0 W (table hL hsh) w0).mono fun e W' ⟨he, bel⟩ => ?_
  subst he
  exact ⟨_, rfl, _, _, _, [], _, [], hW', trodAll_mk1 (shut_bool Tryz.underlying4 _), (trodAll_cons_mk (Below.trod laidOut (by kernel_rfl) (of_decide_eq_true (by kernel_rfl)) h0 bel lt0) trodAll_mk0), rfl, bel.frame _, fun h => by cases h⟩

theorem laid_met (os : Os) : laidMet Tryz.prog Rows.nodeChecksRow.laid ((laidWorld os).forCall (fun _ _ => 0) ⟨#[], #[.agg #[.int .i64 0, .string ByteArray.empty, .int .i64 0, .int .i64 0, .int .i64 0, .int .i64 0, .string ByteArray.empty, .slice none 0 0]], []⟩).memory :=
  laidMet_of_run' 8 (by kernel_rfl) (by kernel_rfl)

theorem reads (os : Os) {H : Type} (enc : TypeId × Value → H) : ∃ places, DataW.whole enc Tryz.prog ((laidWorld os).forCall (fun _ _ => 0) ⟨#[], #[.agg #[.int .i64 0, .string ByteArray.empty, .int .i64 0, .int .i64 0, .int .i64 0, .int .i64 0, .string ByteArray.empty, .slice none 0 0]], []⟩).memory Tryz.f3.params.toList Rows.nodeChecksSpec.vars false (#[.agg #[.int .i64 0, .string ByteArray.empty, .int .i64 0, .int .i64 0, .int .i64 0, .int .i64 0, .string ByteArray.empty, .slice none 0 0]] : Array Value).toList 8 = some ([.agg [.lit (.int .i64 0), .lit (.string []), .lit (.int .i64 0), .lit (.int .i64 0), .lit (.int .i64 0), .lit (.int .i64 0), .lit (.string []), .nil]], [], places) :=
  ⟨[], by kernel_rfl⟩

set_option maxRecDepth 100000 in
theorem lifted (os : Os) (started : os.Started) (H : Type) (enc : TypeId × Value → H) (F : Stop.Interp) :
    ReturnsInHanded {} Tryz.checked os 3 .any ((OpenSpec.ofChange Rows.nodeChecksSpec).preRow enc Tryz.prog Tryz.f3 Rows.nodeChecksRow.domain false Rows.nodeChecksRow.laid) (((OpenSpec.ofChange Rows.nodeChecksSpec).at F).post enc Tryz.prog Tryz.f3 false true false false) := by
  obtain ⟨places, hx⟩ := reads os enc
  refine returnsInHanded_of_row (C := Tryz.checked) (s := OpenSpec.ofChange Rows.nodeChecksSpec) own started (by kernel_rfl) Tryz.func3
    (witness_row_at (enc := enc) (C := Tryz.checked) false (laidWorld os) #[.agg #[.int .i64 0, .string ByteArray.empty, .int .i64 0, .int .i64 0, .int .i64 0, .int .i64 0, .string ByteArray.empty, .slice none 0 0]] rfl (by kernel_rfl) (by kernel_rfl) (by kernel_rfl)
      (OpenSpec.preRow_of_cond 8 hx (by kernel_rfl) (fun k hk => by cases hk) (by kernel_rfl) (laid_met os))) ?_
  intro W base args ds gs before hval hW _ _ _ hL hsh _
  exact contract H enc W base args ds gs before hval hW hL hsh

theorem said : Rows.NodeChecksSaid :=
  OpenClaim.holds_of_cond 3 Tryz.f3 rfl rfl rfl rfl rfl rfl rfl ⟨rfl, rfl, rfl, rfl, rfl⟩ rfl rfl rfl rfl rfl (by kernel_rfl) Tryz.func3 (by kernel_rfl)
    (of_decide_eq_true (by kernel_rfl)) (by unfold Func.isWrapper; first | (rw [if_pos (by decide +kernel)]; kernel_rfl) | (rw [if_neg (by decide +kernel)]; exact ⟨rfl, rfl⟩))
    (fun os started H enc _ F => by rw [OpenClaim.pre_eq_preRow]; exact lifted os started H enc F)

/-- No parameter wants a stand-in; the program's own looks are off: what the card asks. -/
theorem plain (f : FuncId) (fn : Func) (hf : Tryz.pinned.checked.prog.funcNamed "glossary/glossarylaw07.NodeChecks" = some f) (hfn : Tryz.pinned.checked.prog.funcs[f]? = some fn) :
    false = Tryz.pinned.checked.prog.looks [] ∧ ∀ (j : Nat) t, fn.params[j]? = some t → Tryz.pinned.checked.prog.wantsStandIn t = false := by
  obtain rfl : f = 3 := Option.some.inj ((show Tryz.prog.funcNamed "glossary/glossarylaw07.NodeChecks" = some 3 by kernel_rfl).symm.trans hf) |>.symm
  obtain rfl : fn = Tryz.f3 := (Option.some.inj (Tryz.func3.symm.trans hfn)).symm
  refine ⟨by kernel_rfl, fun j t ht => ?_⟩
  rw [Tryz.params3] at ht
  have hm := Array.mem_of_getElem? ht
  simp only [List.mem_toArray, List.mem_cons, List.not_mem_nil, or_false] at hm
  subst hm
  exact (show Tryz.prog.wantsStandIn 24 = false by kernel_rfl)

end Go.Proofs.YtgkablmglkagfaaGreatDoor.nodeChecks
namespace Go.Proofs.YtgkablmglkagfaaGreatDoor
theorem nodeChecks_holds : Rows.NodeChecksCardSaid :=
  Claim7.holds_tied_plain_at .later [] _ _ _ _ nodeChecks.said (fun _ h => by cases h) (by kernel_rfl) (fun _ h => by cases h) nodeChecks_row_tie rfl ⟨rfl, rfl⟩ (by kernel_rfl) rfl nodeChecks.plain (by kernel_rfl)
#print axioms nodeChecks_holds
end Go.Proofs.YtgkablmglkagfaaGreatDoor
