/- NodeCounts, proved for every tree: Count and Deep answer as the document asks; no condition. -/
import Derived.Test.YtgkablmglkagfaaDoorCards
import Derived.Test.YtgkablmglkagfaaDoorTie
import Derived.Deep.RegionWith
import Derived.Deep.RegionHeld3
import Derived.ProofKit
import Derived.OpenShut
import Derived.ShutString
import Derived.ChangeOld
import Derived.Below
import Derived.Deep.DeepHandedRow
import Derived.Lib.LaidTab
import Derived.Stop.LaidErr
import Derived.Shelf.Vars
import Derived.Test.YtgkablmglkagfaaDoorBunA6
import Derived.Test.YtgkablmglkagfaaDoorBunA12
namespace Go.Proofs.YtgkablmglkagfaaDoor.nodeCounts
open Go.ChangeShapes Go.WideShapes Go.ChangeAt Go.RowKit
open Go.ChangeMaps (open_string shut_string)
set_option linter.unusedVariables false

theorem own : ownKnob Tryd.prog.godebug = none := by kernel_rfl
theorem laidOut : laidOutB Tryd.prog = true := by kernel_rfl

theorem gPw : Tryd.prog.globalNamed "internal/strconv.uint64pow10" = some 0 := by kernel_rfl
theorem gPwT : (Tryd.prog.globals[0]?).map (·.type) = some 84 := by kernel_rfl

/-- WHAT THE ROW's LIST AND THE WORLD's SHAPE GIVE: the table of powers holds its numbers; internal/bytealg.MaxLen holds some number. -/
theorem table {W : World} (h : laidMetH Tryd.prog Rows.nodeCountsRow.laid W) (hs : W.ShapedOpen Tryd.prog) : TTab W := by
  have h0 : laidMet Tryd.prog [("math/bits.deBruijn32tab", Rows.laid_math_bits_deBruijn32tab), ("math/bits.deBruijn64tab", Rows.laid_math_bits_deBruijn64tab), ("internal/strconv.uint64pow10", Rows.laid_internal_strconv_uint64pow10)] W := h
  have h3 : Lib.TabIs Tryd.prog W "internal/strconv.uint64pow10" .u64 Lib.pow10Tab := Lib.tabIs_of_head (rest := []) gPw gPwT Tryd.underlying84 Tryd.underlying31 (by kernel_rfl) (by kernel_rfl) h0.tail.tail
  exact ⟨h3, cell_of_shapedOpen_int (zero := #[.int .i64 0]) (t := 3) hs (of_decide_eq_true (by kernel_rfl)) (by kernel_rfl) rfl (by kernel_rfl) (by kernel_rfl) Tryd.underlying3⟩

/-- A WORLD FOR THE WITNESS: the settled one, the tables holding what their initialisers lay. -/
def layCells (xs : Array Value) : Obj → Obj
  | .cells _ t frozen => .cells xs t frozen
  | o => o
def db32 : List Int := [0, 1, 28, 2, 29, 14, 24, 3, 30, 22, 20, 15, 25, 17, 4, 8, 31, 27, 13, 23, 21, 19, 16, 7, 26, 12, 18, 6, 11, 5, 10, 9]
def db64 : List Int := [0, 1, 56, 2, 57, 49, 28, 3, 61, 58, 42, 50, 38, 29, 17, 4, 62, 47, 59, 36, 45, 43, 51, 22, 53, 39, 33, 30, 24, 18, 12, 5, 63, 55, 48, 27, 60, 41, 37, 16, 46, 35, 44, 21, 52, 32, 23, 11, 54, 26, 40, 15, 34, 20, 31, 10, 25, 14, 19, 9, 13, 8, 7, 6]
def pw10 : List Int := [1, 10, 100, 1000, 10000, 100000, 1000000, 10000000, 100000000, 1000000000, 10000000000, 100000000000, 1000000000000, 10000000000000, 100000000000000, 1000000000000000, 10000000000000000, 100000000000000000, 1000000000000000000, 10000000000000000000]
noncomputable def laidWorld (os : Os) : World :=
  { World.holding Tryd.prog os ⟨#[], #[], []⟩ with heap := (((World.holding Tryd.prog os ⟨#[], #[], []⟩).heap.modify 2 (layCells (db32.map fun z => Value.int .u8 z).toArray)).modify 3 (layCells (db64.map fun z => Value.int .u8 z).toArray)).modify 0 (layCells (pw10.map fun z => Value.int .u64 z).toArray) }

theorem own_step {w V w2 : World} {cs : Array Value} {ty : TypeId} (h : Below (w.alloc (.cells cs ty)).heap.size (w.alloc (.cells cs ty)) V) (hb : Below V.heap.size V w2) : Below (w.alloc (.cells cs ty)).heap.size (w.alloc (.cells cs ty)) w2 := h.trans (hb.mono h.size)

set_option maxRecDepth 10000 in
set_option maxHeartbeats 8000000 in
theorem walk (t0 : Tn) (w : World) (hT : Hid (TTab w)) (hn0 : Hid (TnOk w t0)) :
    Calls Tryd.prog 3 #[t0.val] w fun e w' => e = .returned (.bool true) ∧ Below w.heap.size w w' := by
  have qf := fun V hV => rfew_any hn0.out V hV
  by_cases hf : tfew t0 = true
  · have q1 := fun V (hV : Below w.heap.size w V) => pcount_any hn0.out hf V (hT.out.below hV (Nat.le_refl _)) hV
    have q2 := fun V hV => rcount_any hn0.out V hV
    have q3 := fun V (hV : Below w.heap.size w V) => pdeep_any hn0.out hf V (hT.out.below hV (Nat.le_refl _)) hV
    have q4 := fun V hV => rdeep_any hn0.out V hV
    rw [hf] at qf
    generalize tcount t0 = R at q1 q2
    generalize tdeep t0 = X at q3 q4
    obtain ⟨kind, text, n, m, a, pos, doc, ad, cap, kids⟩ := t0
    show Calls Tryd.prog 3 #[.agg #[.int .i64 kind, .string (strOfNums text), .int .i64 n, .int .i64 m, .int .i64 a, .int .i64 pos, .string (strOfNums doc), .slice ad kids.length cap]] w _
    change ∀ V, Below w.heap.size w V → Calls Tryd.prog 8 #[.agg #[.int .i64 kind, .string (strOfNums text), .int .i64 n, .int .i64 m, .int .i64 a, .int .i64 pos, .string (strOfNums doc), .slice ad kids.length cap]] V (fun e W' => e = .returned (.bool true) ∧ Below V.heap.size V W') at qf
    change ∀ V, Below w.heap.size w V → Calls Tryd.prog 9 #[.agg #[.int .i64 kind, .string (strOfNums text), .int .i64 n, .int .i64 m, .int .i64 a, .int .i64 pos, .string (strOfNums doc), .slice ad kids.length cap]] V (fun e W' => e = .returned (.int .i64 R) ∧ Below V.heap.size V W') at q1
    change ∀ V, Below w.heap.size w V → Calls Tryd.prog 10 #[.agg #[.int .i64 kind, .string (strOfNums text), .int .i64 n, .int .i64 m, .int .i64 a, .int .i64 pos, .string (strOfNums doc), .slice ad kids.length cap]] V (fun e W' => e = .returned (.int .i64 R) ∧ Below V.heap.size V W') at q2
    change ∀ V, Below w.heap.size w V → Calls Tryd.prog 11 #[.agg #[.int .i64 kind, .string (strOfNums text), .int .i64 n, .int .i64 m, .int .i64 a, .int .i64 pos, .string (strOfNums doc), .slice ad kids.length cap]] V (fun e W' => e = .returned (.int .i64 X) ∧ Below V.heap.size V W') at q3
    change ∀ V, Below w.heap.size w V → Calls Tryd.prog 12 #[.agg #[.int .i64 kind, .string (strOfNums text), .int .i64 n, .int .i64 m, .int .i64 a, .int .i64 pos, .string (strOfNums doc), .slice ad kids.length cap]] V (fun e W' => e = .returned (.int .i64 X) ∧ Below V.heap.size V W') at q4
    generalize strOfNums text = T1 at q1 q2 q3 q4 qf ⊢
    generalize strOfNums doc = T2 at q1 q2 q3 q4 qf ⊢
    have HBA : Hid (Below w.heap.size w (w.alloc (.cells #[.int .i64 kind, .string T1, .int .i64 n, .int .i64 m, .int .i64 a, .int .i64 pos, .string T2, .slice ad kids.length cap] 24))) := (Below.refl _ _).alloc (Nat.le_refl _) _
    have QF : Hid _ := qf
    have Q1 : Hid _ := q1
    have Q2 : Hid _ := q2
    have Q3 : Hid _ := q3
    have Q4 : Hid _ := q4
    have eR : (R == R) = true := by simp
    have eX : (X == X) = true := by simp
    clear qf q1 q2 q3 q4 hn0 hf
    go_enter Tryd.func3, Tryd.ntmps3
    go_wp2_with fail
    refine (tawake_any _ (hT.out.below HBA.out (Nat.le_refl _))).mono ?_
    rintro e w1 ⟨rfl, hb1⟩
    have x0 := own_cells hb1 0 _ rfl
    have x1 := own_cells hb1 1 _ rfl
    have x2 := own_cells hb1 2 _ rfl
    have x3 := own_cells hb1 3 _ rfl
    have x4 := own_cells hb1 4 _ rfl
    have x5 := own_cells hb1 5 _ rfl
    have x6 := own_cells hb1 6 _ rfl
    have x7 := own_cells hb1 7 _ rfl
    have hb1d := hb1.drew
    have hb1w := (HBA.out.trans (hb1.mono HBA.out.size)).drew
    clear hb1
    go_wp2_with fail
    go_region_held3 (fun W => W.cell? ⟨w.heap.size, 0, none⟩ = some (.int .i64 kind) ∧ W.cell? ⟨w.heap.size, 1, none⟩ = some (.string T1) ∧ W.cell? ⟨w.heap.size, 2, none⟩ = some (.int .i64 n) ∧ W.cell? ⟨w.heap.size, 3, none⟩ = some (.int .i64 m) ∧ W.cell? ⟨w.heap.size, 4, none⟩ = some (.int .i64 a) ∧ W.cell? ⟨w.heap.size, 5, none⟩ = some (.int .i64 pos) ∧ W.cell? ⟨w.heap.size, 6, none⟩ = some (.string T2) ∧ W.cell? ⟨w.heap.size, 7, none⟩ = some (.slice ad kids.length cap)) (first | assumption | (refine ⟨?_, ?_, ?_, ?_, ?_, ?_, ?_, ?_⟩ <;> assumption) | go_keep) (first
    | (go_at_call 8; refine Calls.mono (QF.out _ (by assumption)) ?_; rintro e w2 ⟨rfl, hb2⟩; have hb2o := own_step (w := w) (cs := #[.int .i64 kind, .string T1, .int .i64 n, .int .i64 m, .int .i64 a, .int .i64 pos, .string T2, .slice ad kids.length cap]) (ty := 24) (by assumption) hb2; have y0 := own_cells hb2o 0 _ rfl; have y1 := own_cells hb2o 1 _ rfl; have y2 := own_cells hb2o 2 _ rfl; have y3 := own_cells hb2o 3 _ rfl; have y4 := own_cells hb2o 4 _ rfl; have y5 := own_cells hb2o 5 _ rfl; have y6 := own_cells hb2o 6 _ rfl; have y7 := own_cells hb2o 7 _ rfl; have hb2w := HBA.out.trans (hb2o.mono HBA.out.size); clear hb2)
    | (go_at_call 9; refine Calls.mono (Q1.out _ (by assumption)) ?_; rintro e w3 ⟨rfl, hb3⟩; have hb3o := own_step (w := w) (cs := #[.int .i64 kind, .string T1, .int .i64 n, .int .i64 m, .int .i64 a, .int .i64 pos, .string T2, .slice ad kids.length cap]) (ty := 24) (by assumption) hb3; have z0 := own_cells hb3o 0 _ rfl; have z1 := own_cells hb3o 1 _ rfl; have z2 := own_cells hb3o 2 _ rfl; have z3 := own_cells hb3o 3 _ rfl; have z4 := own_cells hb3o 4 _ rfl; have z5 := own_cells hb3o 5 _ rfl; have z6 := own_cells hb3o 6 _ rfl; have z7 := own_cells hb3o 7 _ rfl; have hb3w := HBA.out.trans (hb3o.mono HBA.out.size); clear hb3)
    | (go_at_call 10; refine Calls.mono (Q2.out _ (by assumption)) ?_; rintro e w4 ⟨rfl, hb4⟩; have hb4o := own_step (w := w) (cs := #[.int .i64 kind, .string T1, .int .i64 n, .int .i64 m, .int .i64 a, .int .i64 pos, .string T2, .slice ad kids.length cap]) (ty := 24) (by assumption) hb4; have v0 := own_cells hb4o 0 _ rfl; have v1 := own_cells hb4o 1 _ rfl; have v2 := own_cells hb4o 2 _ rfl; have v3 := own_cells hb4o 3 _ rfl; have v4 := own_cells hb4o 4 _ rfl; have v5 := own_cells hb4o 5 _ rfl; have v6 := own_cells hb4o 6 _ rfl; have v7 := own_cells hb4o 7 _ rfl; have hb4w := HBA.out.trans (hb4o.mono HBA.out.size); clear hb4)
    | (go_at_call 11; refine Calls.mono (Q3.out _ (by assumption)) ?_; rintro e w5 ⟨rfl, hb5⟩; have hb5o := own_step (w := w) (cs := #[.int .i64 kind, .string T1, .int .i64 n, .int .i64 m, .int .i64 a, .int .i64 pos, .string T2, .slice ad kids.length cap]) (ty := 24) (by assumption) hb5; have s0 := own_cells hb5o 0 _ rfl; have s1 := own_cells hb5o 1 _ rfl; have s2 := own_cells hb5o 2 _ rfl; have s3 := own_cells hb5o 3 _ rfl; have s4 := own_cells hb5o 4 _ rfl; have s5 := own_cells hb5o 5 _ rfl; have s6 := own_cells hb5o 6 _ rfl; have s7 := own_cells hb5o 7 _ rfl; have hb5w := HBA.out.trans (hb5o.mono HBA.out.size); clear hb5)
    | (go_at_call 12; refine Calls.mono (Q4.out _ (by assumption)) ?_; rintro e w6 ⟨rfl, hb6⟩; have hb6o := own_step (w := w) (cs := #[.int .i64 kind, .string T1, .int .i64 n, .int .i64 m, .int .i64 a, .int .i64 pos, .string T2, .slice ad kids.length cap]) (ty := 24) (by assumption) hb6; have r0 := own_cells hb6o 0 _ rfl; have r1 := own_cells hb6o 1 _ rfl; have r2 := own_cells hb6o 2 _ rfl; have r3 := own_cells hb6o 3 _ rfl; have r4 := own_cells hb6o 4 _ rfl; have r5 := own_cells hb6o 5 _ rfl; have r6 := own_cells hb6o 6 _ rfl; have r7 := own_cells hb6o 7 _ rfl; have hb6w := HBA.out.trans (hb6o.mono HBA.out.size); clear hb6)
    )
    all_goals
      go_wp2
      go_ret
      exact ⟨by first | rfl | simp, by assumption⟩
  · have hf' : tfew t0 = false := by simpa using hf
    rw [hf'] at qf
    obtain ⟨kind, text, n, m, a, pos, doc, ad, cap, kids⟩ := t0
    show Calls Tryd.prog 3 #[.agg #[.int .i64 kind, .string (strOfNums text), .int .i64 n, .int .i64 m, .int .i64 a, .int .i64 pos, .string (strOfNums doc), .slice ad kids.length cap]] w _
    change ∀ V, Below w.heap.size w V → Calls Tryd.prog 8 #[.agg #[.int .i64 kind, .string (strOfNums text), .int .i64 n, .int .i64 m, .int .i64 a, .int .i64 pos, .string (strOfNums doc), .slice ad kids.length cap]] V (fun e W' => e = .returned (.bool false) ∧ Below V.heap.size V W') at qf
    generalize strOfNums text = T1 at qf ⊢
    generalize strOfNums doc = T2 at qf ⊢
    have HBA : Hid (Below w.heap.size w (w.alloc (.cells #[.int .i64 kind, .string T1, .int .i64 n, .int .i64 m, .int .i64 a, .int .i64 pos, .string T2, .slice ad kids.length cap] 24))) := (Below.refl _ _).alloc (Nat.le_refl _) _
    have QF : Hid _ := qf
    clear qf hn0 hf hf'
    go_enter Tryd.func3, Tryd.ntmps3
    go_wp2_with fail
    refine (tawake_any _ (hT.out.below HBA.out (Nat.le_refl _))).mono ?_
    rintro e w1 ⟨rfl, hb1⟩
    go_wp2_with fail
    have g0 := fun x : Ext (w.alloc (.cells #[.int .i64 kind, .string T1, .int .i64 n, .int .i64 m, .int .i64 a, .int .i64 pos, .string T2, .slice ad kids.length cap] 24)) => own_cells x.ok 0 _ rfl
    have g1 := fun x : Ext (w.alloc (.cells #[.int .i64 kind, .string T1, .int .i64 n, .int .i64 m, .int .i64 a, .int .i64 pos, .string T2, .slice ad kids.length cap] 24)) => own_cells x.ok 1 _ rfl
    have g2 := fun x : Ext (w.alloc (.cells #[.int .i64 kind, .string T1, .int .i64 n, .int .i64 m, .int .i64 a, .int .i64 pos, .string T2, .slice ad kids.length cap] 24)) => own_cells x.ok 2 _ rfl
    have g3 := fun x : Ext (w.alloc (.cells #[.int .i64 kind, .string T1, .int .i64 n, .int .i64 m, .int .i64 a, .int .i64 pos, .string T2, .slice ad kids.length cap] 24)) => own_cells x.ok 3 _ rfl
    have g4 := fun x : Ext (w.alloc (.cells #[.int .i64 kind, .string T1, .int .i64 n, .int .i64 m, .int .i64 a, .int .i64 pos, .string T2, .slice ad kids.length cap] 24)) => own_cells x.ok 4 _ rfl
    have g5 := fun x : Ext (w.alloc (.cells #[.int .i64 kind, .string T1, .int .i64 n, .int .i64 m, .int .i64 a, .int .i64 pos, .string T2, .slice ad kids.length cap] 24)) => own_cells x.ok 5 _ rfl
    have g6 := fun x : Ext (w.alloc (.cells #[.int .i64 kind, .string T1, .int .i64 n, .int .i64 m, .int .i64 a, .int .i64 pos, .string T2, .slice ad kids.length cap] 24)) => own_cells x.ok 6 _ rfl
    have g7 := fun x : Ext (w.alloc (.cells #[.int .i64 kind, .string T1, .int .i64 n, .int .i64 m, .int .i64 a, .int .i64 pos, .string T2, .slice ad kids.length cap] 24)) => own_cells x.ok 7 _ rfl
    refine wp_region_ext (w.alloc (.cells #[.int .i64 kind, .string T1, .int .i64 n, .int .i64 m, .int .i64 a, .int .i64 pos, .string T2, .slice ad kids.length cap] 24)) hb1 (by kernel_rfl) (by kernel_rfl) ?_
    repeat (go_big_quiet_step (first
    | (go_at_call 8; exact Ext.call (fun V hV => QF.out V (HBA.out.trans (hV.mono HBA.out.size))) _)
    ))
    refine wpQuiet_nil ?_
    rintro w5 ⟨⟨_, hb5⟩, rfl⟩
    have HB5 : Hid (Below w.heap.size w w5) := HBA.out.trans (hb5.mono HBA.out.size)
    clear hb5
    go_wp2
    go_ret
    exact ⟨by first | rfl | simp, HB5.out⟩

theorem contract (H : Type) (enc : TypeId × Value → H) (W : World) (base : Nat) (args : Array Value) (ds gs : List (DataW H)) (before : List MemPlace)
    (hval0 : ∀ (j : Nat) t v, Tryd.f3.params[j]? = some t → args[j]? = some v → Value.okWide Tryd.prog W .any base t v)
    (hW : DataW.Whole enc Tryd.prog Tryd.f3.params.toList Rows.nodeCountsSpec.vars false W args.toList ds gs before) (hL : laidMetH Tryd.prog Rows.nodeCountsRow.laid W) (hsh : W.ShapedOpen Tryd.prog) :
    Calls Tryd.prog 3 args W fun e W' => ∃ v, e = .returned v ∧ Rows.nodeCountsSpec.post enc Tryd.prog Tryd.f3 false true false false W args v W' := by
  have hval : ∀ (j : Nat) t v, Tryd.f3.params[j]? = some t → args[j]? = some v → Value.okWide Tryd.prog W .any base t v := hval0
  have hW' := hW
  obtain ⟨p, q, hA0, hV, rfl, hfz, hnd⟩ := hW
  have hA : DataW.TrodAll enc Tryd.prog W 0 (fun _ => true) true Tryd.f3.params.toList args.toList ds p := hA0
  rw [Tryd.params3] at hA hval
  obtain ⟨v0, vs0, d0, ds0, p0, q0, hargs, rfl, rfl, h0, r0⟩ := trodAll_cons hA
  obtain ⟨rfl, rfl, rfl⟩ := trodAll_nil r0
  obtain rfl : args = #[v0] := by cases args; simp_all
  obtain ⟨rfl, rfl⟩ := trodVars_none hV
  have lt0 : ∀ x ∈ p0, x.block < W.heap.size := by obtain ⟨m, hm⟩ := h0; exact DataW.trod_lt m _ _ _ hm
  obtain ⟨t0, rfl, w0⟩ := node_arg (hval 0 24 v0 rfl rfl) h0
  clear hA0 hval0
  refine (walk t0 W (table hL hsh) w0).mono fun e W' ⟨he, bel⟩ => ?_
  subst he
  exact ⟨_, rfl, _, _, _, [], _, [], hW', trodAll_mk1 (shut_bool Tryd.underlying4 _), (trodAll_cons_mk (Below.trod laidOut (by kernel_rfl) (of_decide_eq_true (by kernel_rfl)) h0 bel lt0) trodAll_mk0), rfl, bel.frame _, fun h => by cases h⟩

theorem laid_met (os : Os) : laidMet Tryd.prog Rows.nodeCountsRow.laid ((laidWorld os).forCall (fun _ _ => 0) ⟨#[], #[.agg #[.int .i64 0, .string ByteArray.empty, .int .i64 0, .int .i64 0, .int .i64 0, .int .i64 0, .string ByteArray.empty, .slice none 0 0]], []⟩).memory :=
  laidMet_of_run' 8 (by kernel_rfl) (by kernel_rfl)

theorem reads (os : Os) {H : Type} (enc : TypeId × Value → H) : ∃ places, DataW.whole enc Tryd.prog ((laidWorld os).forCall (fun _ _ => 0) ⟨#[], #[.agg #[.int .i64 0, .string ByteArray.empty, .int .i64 0, .int .i64 0, .int .i64 0, .int .i64 0, .string ByteArray.empty, .slice none 0 0]], []⟩).memory Tryd.f3.params.toList Rows.nodeCountsSpec.vars false (#[.agg #[.int .i64 0, .string ByteArray.empty, .int .i64 0, .int .i64 0, .int .i64 0, .int .i64 0, .string ByteArray.empty, .slice none 0 0]] : Array Value).toList 8 = some ([.agg [.lit (.int .i64 0), .lit (.string []), .lit (.int .i64 0), .lit (.int .i64 0), .lit (.int .i64 0), .lit (.int .i64 0), .lit (.string []), .nil]], [], places) :=
  ⟨[], by kernel_rfl⟩

set_option maxRecDepth 100000 in
theorem lifted (os : Os) (started : os.Started) (H : Type) (enc : TypeId × Value → H) (F : Stop.Interp) :
    ReturnsInHanded {} Tryd.checked os 3 .any ((OpenSpec.ofChange Rows.nodeCountsSpec).preRow enc Tryd.prog Tryd.f3 Rows.nodeCountsRow.domain false Rows.nodeCountsRow.laid) (((OpenSpec.ofChange Rows.nodeCountsSpec).at F).post enc Tryd.prog Tryd.f3 false true false false) := by
  obtain ⟨places, hx⟩ := reads os enc
  refine returnsInHanded_of_row (C := Tryd.checked) (s := OpenSpec.ofChange Rows.nodeCountsSpec) own started (by kernel_rfl) Tryd.func3
    (witness_row_at (enc := enc) (C := Tryd.checked) false (laidWorld os) #[.agg #[.int .i64 0, .string ByteArray.empty, .int .i64 0, .int .i64 0, .int .i64 0, .int .i64 0, .string ByteArray.empty, .slice none 0 0]] rfl (by kernel_rfl) (by kernel_rfl) (by kernel_rfl)
      (OpenSpec.preRow_of_cond 8 hx (by kernel_rfl) (fun k hk => by cases hk) (by kernel_rfl) (laid_met os))) ?_
  intro W base args ds gs before hval hW _ _ _ hL hsh _
  exact contract H enc W base args ds gs before hval hW hL hsh

theorem said : Rows.NodeCountsSaid :=
  OpenClaim.holds_of_cond 3 Tryd.f3 rfl rfl rfl rfl rfl rfl rfl ⟨rfl, rfl, rfl, rfl, rfl⟩ rfl rfl rfl rfl rfl (by kernel_rfl) Tryd.func3 (by kernel_rfl)
    (of_decide_eq_true (by kernel_rfl)) (by unfold Func.isWrapper; first | (rw [if_pos (by decide +kernel)]; kernel_rfl) | (rw [if_neg (by decide +kernel)]; exact ⟨rfl, rfl⟩))
    (fun os started H enc _ F => by rw [OpenClaim.pre_eq_preRow]; exact lifted os started H enc F)

/-- No parameter wants a stand-in; the program's own looks are off: what the card asks. -/
theorem plain (f : FuncId) (fn : Func) (hf : Tryd.pinned.checked.prog.funcNamed "glossary/glossarylaw07.NodeCounts" = some f) (hfn : Tryd.pinned.checked.prog.funcs[f]? = some fn) :
    false = Tryd.pinned.checked.prog.looks [] ∧ ∀ (j : Nat) t, fn.params[j]? = some t → Tryd.pinned.checked.prog.wantsStandIn t = false := by
  obtain rfl : f = 3 := Option.some.inj ((show Tryd.prog.funcNamed "glossary/glossarylaw07.NodeCounts" = some 3 by kernel_rfl).symm.trans hf) |>.symm
  obtain rfl : fn = Tryd.f3 := (Option.some.inj (Tryd.func3.symm.trans hfn)).symm
  refine ⟨by kernel_rfl, fun j t ht => ?_⟩
  rw [Tryd.params3] at ht
  have hm := Array.mem_of_getElem? ht
  simp only [List.mem_toArray, List.mem_cons, List.not_mem_nil, or_false] at hm
  subst hm
  exact (show Tryd.prog.wantsStandIn 24 = false by kernel_rfl)

end Go.Proofs.YtgkablmglkagfaaDoor.nodeCounts
namespace Go.Proofs.YtgkablmglkagfaaDoor
theorem nodeCounts_holds : Rows.NodeCountsCardSaid :=
  Claim7.holds_tied_plain_at .later [] _ _ _ _ nodeCounts.said (fun _ h => by cases h) (by kernel_rfl) (fun _ h => by cases h) nodeCounts_row_tie rfl ⟨rfl, rfl⟩ (by kernel_rfl) rfl nodeCounts.plain (by kernel_rfl)
#print axioms nodeCounts_holds
end Go.Proofs.YtgkablmglkagfaaDoor
