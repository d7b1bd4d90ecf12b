/- NodeSame, proved for every two trees: Same answers as the document asks; no condition. -/
import Derived.Test.YtgkablmglkagfaaDoorCards
import Derived.Test.YtgkablmglkagfaaDoorTie
import Derived.Deep.RegionWith
import Derived.Deep.RegionHeld3
import Derived.ProofKit
import Derived.OpenShut
import Derived.ShutString
import Derived.ChangeOld
import Derived.Below
import Derived.Deep.DeepHandedRow
import Derived.Lib.LaidTab
import Derived.Stop.LaidErr
import Derived.Shelf.Vars
import Derived.Test.YtgkablmglkagfaaDoorBunA6
import Derived.Test.YtgkablmglkagfaaDoorBunA12
namespace Go.Proofs.YtgkablmglkagfaaDoor.nodeSame
open Go.ChangeShapes Go.WideShapes Go.ChangeAt Go.RowKit
open Go.ChangeMaps (open_string shut_string)
set_option linter.unusedVariables false

theorem own : ownKnob Tryd.prog.godebug = none := by kernel_rfl
theorem laidOut : laidOutB Tryd.prog = true := by kernel_rfl

theorem gPw : Tryd.prog.globalNamed "internal/strconv.uint64pow10" = some 0 := by kernel_rfl
theorem gPwT : (Tryd.prog.globals[0]?).map (·.type) = some 84 := by kernel_rfl

/-- WHAT THE ROW's LIST AND THE WORLD's SHAPE GIVE: the table of powers holds its numbers; internal/bytealg.MaxLen holds some number. -/
theorem table {W : World} (h : laidMetH Tryd.prog Rows.nodeSameRow.laid W) (hs : W.ShapedOpen Tryd.prog) : TTab W := by
  have h0 : laidMet Tryd.prog [("math/bits.deBruijn32tab", Rows.laid_math_bits_deBruijn32tab), ("math/bits.deBruijn64tab", Rows.laid_math_bits_deBruijn64tab), ("internal/strconv.uint64pow10", Rows.laid_internal_strconv_uint64pow10)] W := h
  have h3 : Lib.TabIs Tryd.prog W "internal/strconv.uint64pow10" .u64 Lib.pow10Tab := Lib.tabIs_of_head (rest := []) gPw gPwT Tryd.underlying84 Tryd.underlying31 (by kernel_rfl) (by kernel_rfl) h0.tail.tail
  exact ⟨h3, cell_of_shapedOpen_int (zero := #[.int .i64 0]) (t := 3) hs (of_decide_eq_true (by kernel_rfl)) (by kernel_rfl) rfl (by kernel_rfl) (by kernel_rfl) Tryd.underlying3⟩

/-- A WORLD FOR THE WITNESS: the settled one, the tables holding what their initialisers lay. -/
def layCells (xs : Array Value) : Obj → Obj
  | .cells _ t frozen => .cells xs t frozen
  | o => o
def db32 : List Int := [0, 1, 28, 2, 29, 14, 24, 3, 30, 22, 20, 15, 25, 17, 4, 8, 31, 27, 13, 23, 21, 19, 16, 7, 26, 12, 18, 6, 11, 5, 10, 9]
def db64 : List Int := [0, 1, 56, 2, 57, 49, 28, 3, 61, 58, 42, 50, 38, 29, 17, 4, 62, 47, 59, 36, 45, 43, 51, 22, 53, 39, 33, 30, 24, 18, 12, 5, 63, 55, 48, 27, 60, 41, 37, 16, 46, 35, 44, 21, 52, 32, 23, 11, 54, 26, 40, 15, 34, 20, 31, 10, 25, 14, 19, 9, 13, 8, 7, 6]
def pw10 : List Int := [1, 10, 100, 1000, 10000, 100000, 1000000, 10000000, 100000000, 1000000000, 10000000000, 100000000000, 1000000000000, 10000000000000, 100000000000000, 1000000000000000, 10000000000000000, 100000000000000000, 1000000000000000000, 10000000000000000000]
noncomputable def laidWorld (os : Os) : World :=
  { World.holding Tryd.prog os ⟨#[], #[], []⟩ with heap := (((World.holding Tryd.prog os ⟨#[], #[], []⟩).heap.modify 2 (layCells (db32.map fun z => Value.int .u8 z).toArray)).modify 3 (layCells (db64.map fun z => Value.int .u8 z).toArray)).modify 0 (layCells (pw10.map fun z => Value.int .u64 z).toArray) }

theorem two_step {w V w2 : World} {c1 c2 : Array Value} {ty : TypeId} (h : Below ((w.alloc (.cells c1 ty)).alloc (.cells c2 ty)).heap.size ((w.alloc (.cells c1 ty)).alloc (.cells c2 ty)) V) (hb : Below V.heap.size V w2) : Below ((w.alloc (.cells c1 ty)).alloc (.cells c2 ty)).heap.size ((w.alloc (.cells c1 ty)).alloc (.cells c2 ty)) w2 := h.trans (hb.mono h.size)

theorem two_cells {w V : World} {c1 c2 : Array Value} {ty : TypeId} (h : Below ((w.alloc (.cells c1 ty)).alloc (.cells c2 ty)).heap.size ((w.alloc (.cells c1 ty)).alloc (.cells c2 ty)) V) : (∀ (i : Nat) (u : Value), c1[i]? = some u → V.cell? ⟨w.heap.size, i, none⟩ = some u) ∧ (∀ (i : Nat) (u : Value), c2[i]? = some u → V.cell? ⟨w.heap.size + 1, i, none⟩ = some u) := by
  have hsz : (w.alloc (.cells c1 ty)).heap.size = w.heap.size + 1 := by simp
  refine ⟨fun i u hu => ?_, fun i u hu => ?_⟩
  · have h1 : Below (w.alloc (.cells c1 ty)).heap.size (w.alloc (.cells c1 ty)) V := ((Below.refl _ _).alloc (Nat.le_refl _) _).trans (h.mono (by simp))
    exact own_cells h1 i u hu
  · have := own_cells h i u hu
    rw [hsz] at this
    exact this

set_option maxRecDepth 10000 in
set_option maxHeartbeats 8000000 in
theorem walk (t0 : Tn) (t1 : Tn) (w : World) (hT : Hid (TTab w)) (hn0 : Hid (TnOk w t0)) (hn1 : Hid (TnOk w t1)) :
    Calls Tryd.prog 4 #[t0.val, t1.val] w fun e w' => e = .returned (.bool true) ∧ Below w.heap.size w w' := by
  have qf := fun V hV => rfew_any hn0.out V hV
  have qg := fun V hV => rfew_any hn1.out V hV
  have HN0 : Hid _ := hn0
  have HN1 : Hid _ := hn1
  have qs := fun (hf : tfew t0 = true) (hg : tfew t1 = true) V (hV : Below w.heap.size w V) => psame_any hn0.out hn1.out hf hg V (hT.out.below hV (Nat.le_refl _)) hV
  have qr := fun V hV => rSame_any hn0.out hn1.out V hV
  generalize tSame t0 t1 = R at qs qr
  generalize hF : tfew t0 = F at qf qs
  generalize hG : tfew t1 = G at qg qs
  clear hn0 hn1 HN0 HN1 hF hG
  obtain ⟨k1, tx1, n1, m1, a1, p1, dc1, ad1, cap1, ks1⟩ := t0
  obtain ⟨k2, tx2, n2, m2, a2, p2, dc2, ad2, cap2, ks2⟩ := t1
  show Calls Tryd.prog 4 #[.agg #[.int .i64 k1, .string (strOfNums tx1), .int .i64 n1, .int .i64 m1, .int .i64 a1, .int .i64 p1, .string (strOfNums dc1), .slice ad1 ks1.length cap1], .agg #[.int .i64 k2, .string (strOfNums tx2), .int .i64 n2, .int .i64 m2, .int .i64 a2, .int .i64 p2, .string (strOfNums dc2), .slice ad2 ks2.length cap2]] w _
  change ∀ V, Below w.heap.size w V → Calls Tryd.prog 8 #[.agg #[.int .i64 k1, .string (strOfNums tx1), .int .i64 n1, .int .i64 m1, .int .i64 a1, .int .i64 p1, .string (strOfNums dc1), .slice ad1 ks1.length cap1]] V (fun e W' => e = .returned (.bool F) ∧ Below V.heap.size V W') at qf
  change ∀ V, Below w.heap.size w V → Calls Tryd.prog 8 #[.agg #[.int .i64 k2, .string (strOfNums tx2), .int .i64 n2, .int .i64 m2, .int .i64 a2, .int .i64 p2, .string (strOfNums dc2), .slice ad2 ks2.length cap2]] V (fun e W' => e = .returned (.bool G) ∧ Below V.heap.size V W') at qg
  change ∀ V, Below w.heap.size w V → Calls Tryd.prog 14 #[.agg #[.int .i64 k1, .string (strOfNums tx1), .int .i64 n1, .int .i64 m1, .int .i64 a1, .int .i64 p1, .string (strOfNums dc1), .slice ad1 ks1.length cap1], .agg #[.int .i64 k2, .string (strOfNums tx2), .int .i64 n2, .int .i64 m2, .int .i64 a2, .int .i64 p2, .string (strOfNums dc2), .slice ad2 ks2.length cap2]] V (fun e W' => e = .returned (.bool R) ∧ Below V.heap.size V W') at qr
  change F = true → G = true → ∀ V, Below w.heap.size w V → Calls Tryd.prog 13 #[.agg #[.int .i64 k1, .string (strOfNums tx1), .int .i64 n1, .int .i64 m1, .int .i64 a1, .int .i64 p1, .string (strOfNums dc1), .slice ad1 ks1.length cap1], .agg #[.int .i64 k2, .string (strOfNums tx2), .int .i64 n2, .int .i64 m2, .int .i64 a2, .int .i64 p2, .string (strOfNums dc2), .slice ad2 ks2.length cap2]] V (fun e W' => e = .returned (.bool R) ∧ Below V.heap.size V W') at qs
  generalize strOfNums tx1 = X1 at qf qr qs ⊢
  generalize strOfNums dc1 = D1 at qf qr qs ⊢
  generalize strOfNums tx2 = X2 at qg qr qs ⊢
  generalize strOfNums dc2 = D2 at qg qr qs ⊢
  have HBA : Hid (Below w.heap.size w ((w.alloc (.cells #[.int .i64 k1, .string X1, .int .i64 n1, .int .i64 m1, .int .i64 a1, .int .i64 p1, .string D1, .slice ad1 ks1.length cap1] 24)).alloc (.cells #[.int .i64 k2, .string X2, .int .i64 n2, .int .i64 m2, .int .i64 a2, .int .i64 p2, .string D2, .slice ad2 ks2.length cap2] 24))) := ((Below.refl _ _).alloc (Nat.le_refl _) _).alloc (by simp) _
  have QF : Hid _ := qf
  have QG : Hid _ := qg
  have QR : Hid _ := qr
  have QS : Hid _ := qs
  have eR : (R == R) = true := by simp
  clear qf qg qr qs
  cases F with
  | false =>
    clear QG QR QS
    go_enter Tryd.func4, Tryd.ntmps4
    go_wp2_with fail
    refine (tawake_any _ (hT.out.below HBA.out (Nat.le_refl _))).mono ?_
    rintro e w1 ⟨rfl, hb1⟩
    go_wp2_with fail
    have g0 := fun x : Ext ((w.alloc (.cells #[.int .i64 k1, .string X1, .int .i64 n1, .int .i64 m1, .int .i64 a1, .int .i64 p1, .string D1, .slice ad1 ks1.length cap1] 24)).alloc (.cells #[.int .i64 k2, .string X2, .int .i64 n2, .int .i64 m2, .int .i64 a2, .int .i64 p2, .string D2, .slice ad2 ks2.length cap2] 24)) => (two_cells x.ok).1 0 _ rfl
    have g1 := fun x : Ext ((w.alloc (.cells #[.int .i64 k1, .string X1, .int .i64 n1, .int .i64 m1, .int .i64 a1, .int .i64 p1, .string D1, .slice ad1 ks1.length cap1] 24)).alloc (.cells #[.int .i64 k2, .string X2, .int .i64 n2, .int .i64 m2, .int .i64 a2, .int .i64 p2, .string D2, .slice ad2 ks2.length cap2] 24)) => (two_cells x.ok).1 1 _ rfl
    have g2 := fun x : Ext ((w.alloc (.cells #[.int .i64 k1, .string X1, .int .i64 n1, .int .i64 m1, .int .i64 a1, .int .i64 p1, .string D1, .slice ad1 ks1.length cap1] 24)).alloc (.cells #[.int .i64 k2, .string X2, .int .i64 n2, .int .i64 m2, .int .i64 a2, .int .i64 p2, .string D2, .slice ad2 ks2.length cap2] 24)) => (two_cells x.ok).1 2 _ rfl
    have g3 := fun x : Ext ((w.alloc (.cells #[.int .i64 k1, .string X1, .int .i64 n1, .int .i64 m1, .int .i64 a1, .int .i64 p1, .string D1, .slice ad1 ks1.length cap1] 24)).alloc (.cells #[.int .i64 k2, .string X2, .int .i64 n2, .int .i64 m2, .int .i64 a2, .int .i64 p2, .string D2, .slice ad2 ks2.length cap2] 24)) => (two_cells x.ok).1 3 _ rfl
    have g4 := fun x : Ext ((w.alloc (.cells #[.int .i64 k1, .string X1, .int .i64 n1, .int .i64 m1, .int .i64 a1, .int .i64 p1, .string D1, .slice ad1 ks1.length cap1] 24)).alloc (.cells #[.int .i64 k2, .string X2, .int .i64 n2, .int .i64 m2, .int .i64 a2, .int .i64 p2, .string D2, .slice ad2 ks2.length cap2] 24)) => (two_cells x.ok).1 4 _ rfl
    have g5 := fun x : Ext ((w.alloc (.cells #[.int .i64 k1, .string X1, .int .i64 n1, .int .i64 m1, .int .i64 a1, .int .i64 p1, .string D1, .slice ad1 ks1.length cap1] 24)).alloc (.cells #[.int .i64 k2, .string X2, .int .i64 n2, .int .i64 m2, .int .i64 a2, .int .i64 p2, .string D2, .slice ad2 ks2.length cap2] 24)) => (two_cells x.ok).1 5 _ rfl
    have g6 := fun x : Ext ((w.alloc (.cells #[.int .i64 k1, .string X1, .int .i64 n1, .int .i64 m1, .int .i64 a1, .int .i64 p1, .string D1, .slice ad1 ks1.length cap1] 24)).alloc (.cells #[.int .i64 k2, .string X2, .int .i64 n2, .int .i64 m2, .int .i64 a2, .int .i64 p2, .string D2, .slice ad2 ks2.length cap2] 24)) => (two_cells x.ok).1 6 _ rfl
    have g7 := fun x : Ext ((w.alloc (.cells #[.int .i64 k1, .string X1, .int .i64 n1, .int .i64 m1, .int .i64 a1, .int .i64 p1, .string D1, .slice ad1 ks1.length cap1] 24)).alloc (.cells #[.int .i64 k2, .string X2, .int .i64 n2, .int .i64 m2, .int .i64 a2, .int .i64 p2, .string D2, .slice ad2 ks2.length cap2] 24)) => (two_cells x.ok).1 7 _ rfl
    have h0 := fun x : Ext ((w.alloc (.cells #[.int .i64 k1, .string X1, .int .i64 n1, .int .i64 m1, .int .i64 a1, .int .i64 p1, .string D1, .slice ad1 ks1.length cap1] 24)).alloc (.cells #[.int .i64 k2, .string X2, .int .i64 n2, .int .i64 m2, .int .i64 a2, .int .i64 p2, .string D2, .slice ad2 ks2.length cap2] 24)) => (two_cells x.ok).2 0 _ rfl
    have h1 := fun x : Ext ((w.alloc (.cells #[.int .i64 k1, .string X1, .int .i64 n1, .int .i64 m1, .int .i64 a1, .int .i64 p1, .string D1, .slice ad1 ks1.length cap1] 24)).alloc (.cells #[.int .i64 k2, .string X2, .int .i64 n2, .int .i64 m2, .int .i64 a2, .int .i64 p2, .string D2, .slice ad2 ks2.length cap2] 24)) => (two_cells x.ok).2 1 _ rfl
    have h2 := fun x : Ext ((w.alloc (.cells #[.int .i64 k1, .string X1, .int .i64 n1, .int .i64 m1, .int .i64 a1, .int .i64 p1, .string D1, .slice ad1 ks1.length cap1] 24)).alloc (.cells #[.int .i64 k2, .string X2, .int .i64 n2, .int .i64 m2, .int .i64 a2, .int .i64 p2, .string D2, .slice ad2 ks2.length cap2] 24)) => (two_cells x.ok).2 2 _ rfl
    have h3 := fun x : Ext ((w.alloc (.cells #[.int .i64 k1, .string X1, .int .i64 n1, .int .i64 m1, .int .i64 a1, .int .i64 p1, .string D1, .slice ad1 ks1.length cap1] 24)).alloc (.cells #[.int .i64 k2, .string X2, .int .i64 n2, .int .i64 m2, .int .i64 a2, .int .i64 p2, .string D2, .slice ad2 ks2.length cap2] 24)) => (two_cells x.ok).2 3 _ rfl
    have h4 := fun x : Ext ((w.alloc (.cells #[.int .i64 k1, .string X1, .int .i64 n1, .int .i64 m1, .int .i64 a1, .int .i64 p1, .string D1, .slice ad1 ks1.length cap1] 24)).alloc (.cells #[.int .i64 k2, .string X2, .int .i64 n2, .int .i64 m2, .int .i64 a2, .int .i64 p2, .string D2, .slice ad2 ks2.length cap2] 24)) => (two_cells x.ok).2 4 _ rfl
    have h5 := fun x : Ext ((w.alloc (.cells #[.int .i64 k1, .string X1, .int .i64 n1, .int .i64 m1, .int .i64 a1, .int .i64 p1, .string D1, .slice ad1 ks1.length cap1] 24)).alloc (.cells #[.int .i64 k2, .string X2, .int .i64 n2, .int .i64 m2, .int .i64 a2, .int .i64 p2, .string D2, .slice ad2 ks2.length cap2] 24)) => (two_cells x.ok).2 5 _ rfl
    have h6 := fun x : Ext ((w.alloc (.cells #[.int .i64 k1, .string X1, .int .i64 n1, .int .i64 m1, .int .i64 a1, .int .i64 p1, .string D1, .slice ad1 ks1.length cap1] 24)).alloc (.cells #[.int .i64 k2, .string X2, .int .i64 n2, .int .i64 m2, .int .i64 a2, .int .i64 p2, .string D2, .slice ad2 ks2.length cap2] 24)) => (two_cells x.ok).2 6 _ rfl
    have h7 := fun x : Ext ((w.alloc (.cells #[.int .i64 k1, .string X1, .int .i64 n1, .int .i64 m1, .int .i64 a1, .int .i64 p1, .string D1, .slice ad1 ks1.length cap1] 24)).alloc (.cells #[.int .i64 k2, .string X2, .int .i64 n2, .int .i64 m2, .int .i64 a2, .int .i64 p2, .string D2, .slice ad2 ks2.length cap2] 24)) => (two_cells x.ok).2 7 _ rfl
    refine wp_region_ext ((w.alloc (.cells #[.int .i64 k1, .string X1, .int .i64 n1, .int .i64 m1, .int .i64 a1, .int .i64 p1, .string D1, .slice ad1 ks1.length cap1] 24)).alloc (.cells #[.int .i64 k2, .string X2, .int .i64 n2, .int .i64 m2, .int .i64 a2, .int .i64 p2, .string D2, .slice ad2 ks2.length cap2] 24)) hb1 (by kernel_rfl) (by kernel_rfl) ?_
    repeat (go_big_quiet_step (first
      | (go_at_call_of 8 (Value.string X1); exact Ext.call (fun V hV => QF.out V (HBA.out.trans (hV.mono HBA.out.size))) _)
    ))
    refine wpQuiet_nil ?_
    rintro w5 ⟨⟨_, hb5⟩, rfl⟩
    have HB5 : Hid (Below w.heap.size w w5) := HBA.out.trans (hb5.mono HBA.out.size)
    clear hb5
    go_wp2
    go_ret
    exact ⟨by first | rfl | simp, HB5.out⟩
  | true =>
    cases G with
    | false =>
      clear QR QS
      go_enter Tryd.func4, Tryd.ntmps4
      go_wp2_with fail
      refine (tawake_any _ (hT.out.below HBA.out (Nat.le_refl _))).mono ?_
      rintro e w1 ⟨rfl, hb1⟩
      go_wp2_with fail
      have g0 := fun x : Ext ((w.alloc (.cells #[.int .i64 k1, .string X1, .int .i64 n1, .int .i64 m1, .int .i64 a1, .int .i64 p1, .string D1, .slice ad1 ks1.length cap1] 24)).alloc (.cells #[.int .i64 k2, .string X2, .int .i64 n2, .int .i64 m2, .int .i64 a2, .int .i64 p2, .string D2, .slice ad2 ks2.length cap2] 24)) => (two_cells x.ok).1 0 _ rfl
      have g1 := fun x : Ext ((w.alloc (.cells #[.int .i64 k1, .string X1, .int .i64 n1, .int .i64 m1, .int .i64 a1, .int .i64 p1, .string D1, .slice ad1 ks1.length cap1] 24)).alloc (.cells #[.int .i64 k2, .string X2, .int .i64 n2, .int .i64 m2, .int .i64 a2, .int .i64 p2, .string D2, .slice ad2 ks2.length cap2] 24)) => (two_cells x.ok).1 1 _ rfl
      have g2 := fun x : Ext ((w.alloc (.cells #[.int .i64 k1, .string X1, .int .i64 n1, .int .i64 m1, .int .i64 a1, .int .i64 p1, .string D1, .slice ad1 ks1.length cap1] 24)).alloc (.cells #[.int .i64 k2, .string X2, .int .i64 n2, .int .i64 m2, .int .i64 a2, .int .i64 p2, .string D2, .slice ad2 ks2.length cap2] 24)) => (two_cells x.ok).1 2 _ rfl
      have g3 := fun x : Ext ((w.alloc (.cells #[.int .i64 k1, .string X1, .int .i64 n1, .int .i64 m1, .int .i64 a1, .int .i64 p1, .string D1, .slice ad1 ks1.length cap1] 24)).alloc (.cells #[.int .i64 k2, .string X2, .int .i64 n2, .int .i64 m2, .int .i64 a2, .int .i64 p2, .string D2, .slice ad2 ks2.length cap2] 24)) => (two_cells x.ok).1 3 _ rfl
      have g4 := fun x : Ext ((w.alloc (.cells #[.int .i64 k1, .string X1, .int .i64 n1, .int .i64 m1, .int .i64 a1, .int .i64 p1, .string D1, .slice ad1 ks1.length cap1] 24)).alloc (.cells #[.int .i64 k2, .string X2, .int .i64 n2, .int .i64 m2, .int .i64 a2, .int .i64 p2, .string D2, .slice ad2 ks2.length cap2] 24)) => (two_cells x.ok).1 4 _ rfl
      have g5 := fun x : Ext ((w.alloc (.cells #[.int .i64 k1, .string X1, .int .i64 n1, .int .i64 m1, .int .i64 a1, .int .i64 p1, .string D1, .slice ad1 ks1.length cap1] 24)).alloc (.cells #[.int .i64 k2, .string X2, .int .i64 n2, .int .i64 m2, .int .i64 a2, .int .i64 p2, .string D2, .slice ad2 ks2.length cap2] 24)) => (two_cells x.ok).1 5 _ rfl
      have g6 := fun x : Ext ((w.alloc (.cells #[.int .i64 k1, .string X1, .int .i64 n1, .int .i64 m1, .int .i64 a1, .int .i64 p1, .string D1, .slice ad1 ks1.length cap1] 24)).alloc (.cells #[.int .i64 k2, .string X2, .int .i64 n2, .int .i64 m2, .int .i64 a2, .int .i64 p2, .string D2, .slice ad2 ks2.length cap2] 24)) => (two_cells x.ok).1 6 _ rfl
      have g7 := fun x : Ext ((w.alloc (.cells #[.int .i64 k1, .string X1, .int .i64 n1, .int .i64 m1, .int .i64 a1, .int .i64 p1, .string D1, .slice ad1 ks1.length cap1] 24)).alloc (.cells #[.int .i64 k2, .string X2, .int .i64 n2, .int .i64 m2, .int .i64 a2, .int .i64 p2, .string D2, .slice ad2 ks2.length cap2] 24)) => (two_cells x.ok).1 7 _ rfl
      have h0 := fun x : Ext ((w.alloc (.cells #[.int .i64 k1, .string X1, .int .i64 n1, .int .i64 m1, .int .i64 a1, .int .i64 p1, .string D1, .slice ad1 ks1.length cap1] 24)).alloc (.cells #[.int .i64 k2, .string X2, .int .i64 n2, .int .i64 m2, .int .i64 a2, .int .i64 p2, .string D2, .slice ad2 ks2.length cap2] 24)) => (two_cells x.ok).2 0 _ rfl
      have h1 := fun x : Ext ((w.alloc (.cells #[.int .i64 k1, .string X1, .int .i64 n1, .int .i64 m1, .int .i64 a1, .int .i64 p1, .string D1, .slice ad1 ks1.length cap1] 24)).alloc (.cells #[.int .i64 k2, .string X2, .int .i64 n2, .int .i64 m2, .int .i64 a2, .int .i64 p2, .string D2, .slice ad2 ks2.length cap2] 24)) => (two_cells x.ok).2 1 _ rfl
      have h2 := fun x : Ext ((w.alloc (.cells #[.int .i64 k1, .string X1, .int .i64 n1, .int .i64 m1, .int .i64 a1, .int .i64 p1, .string D1, .slice ad1 ks1.length cap1] 24)).alloc (.cells #[.int .i64 k2, .string X2, .int .i64 n2, .int .i64 m2, .int .i64 a2, .int .i64 p2, .string D2, .slice ad2 ks2.length cap2] 24)) => (two_cells x.ok).2 2 _ rfl
      have h3 := fun x : Ext ((w.alloc (.cells #[.int .i64 k1, .string X1, .int .i64 n1, .int .i64 m1, .int .i64 a1, .int .i64 p1, .string D1, .slice ad1 ks1.length cap1] 24)).alloc (.cells #[.int .i64 k2, .string X2, .int .i64 n2, .int .i64 m2, .int .i64 a2, .int .i64 p2, .string D2, .slice ad2 ks2.length cap2] 24)) => (two_cells x.ok).2 3 _ rfl
      have h4 := fun x : Ext ((w.alloc (.cells #[.int .i64 k1, .string X1, .int .i64 n1, .int .i64 m1, .int .i64 a1, .int .i64 p1, .string D1, .slice ad1 ks1.length cap1] 24)).alloc (.cells #[.int .i64 k2, .string X2, .int .i64 n2, .int .i64 m2, .int .i64 a2, .int .i64 p2, .string D2, .slice ad2 ks2.length cap2] 24)) => (two_cells x.ok).2 4 _ rfl
      have h5 := fun x : Ext ((w.alloc (.cells #[.int .i64 k1, .string X1, .int .i64 n1, .int .i64 m1, .int .i64 a1, .int .i64 p1, .string D1, .slice ad1 ks1.length cap1] 24)).alloc (.cells #[.int .i64 k2, .string X2, .int .i64 n2, .int .i64 m2, .int .i64 a2, .int .i64 p2, .string D2, .slice ad2 ks2.length cap2] 24)) => (two_cells x.ok).2 5 _ rfl
      have h6 := fun x : Ext ((w.alloc (.cells #[.int .i64 k1, .string X1, .int .i64 n1, .int .i64 m1, .int .i64 a1, .int .i64 p1, .string D1, .slice ad1 ks1.length cap1] 24)).alloc (.cells #[.int .i64 k2, .string X2, .int .i64 n2, .int .i64 m2, .int .i64 a2, .int .i64 p2, .string D2, .slice ad2 ks2.length cap2] 24)) => (two_cells x.ok).2 6 _ rfl
      have h7 := fun x : Ext ((w.alloc (.cells #[.int .i64 k1, .string X1, .int .i64 n1, .int .i64 m1, .int .i64 a1, .int .i64 p1, .string D1, .slice ad1 ks1.length cap1] 24)).alloc (.cells #[.int .i64 k2, .string X2, .int .i64 n2, .int .i64 m2, .int .i64 a2, .int .i64 p2, .string D2, .slice ad2 ks2.length cap2] 24)) => (two_cells x.ok).2 7 _ rfl
      refine wp_region_ext ((w.alloc (.cells #[.int .i64 k1, .string X1, .int .i64 n1, .int .i64 m1, .int .i64 a1, .int .i64 p1, .string D1, .slice ad1 ks1.length cap1] 24)).alloc (.cells #[.int .i64 k2, .string X2, .int .i64 n2, .int .i64 m2, .int .i64 a2, .int .i64 p2, .string D2, .slice ad2 ks2.length cap2] 24)) hb1 (by kernel_rfl) (by kernel_rfl) ?_
      repeat (go_big_quiet_step (first
      | (go_at_call_of 8 (Value.string X1); exact Ext.call (fun V hV => QF.out V (HBA.out.trans (hV.mono HBA.out.size))) _)
      | (go_at_call_of 8 (Value.string X2); exact Ext.call (fun V hV => QG.out V (HBA.out.trans (hV.mono HBA.out.size))) _)
      ))
      refine wpQuiet_nil ?_
      rintro w5 ⟨⟨_, hb5⟩, rfl⟩
      have HB5 : Hid (Below w.heap.size w w5) := HBA.out.trans (hb5.mono HBA.out.size)
      clear hb5
      go_wp2
      go_ret
      exact ⟨by first | rfl | simp, HB5.out⟩
    | true =>
      have QT : Hid _ := QS.out rfl rfl
      clear QS
      go_enter Tryd.func4, Tryd.ntmps4
      go_wp2_with fail
      refine (tawake_any _ (hT.out.below HBA.out (Nat.le_refl _))).mono ?_
      rintro e w1 ⟨rfl, hb1⟩
      go_wp2_with fail
      have g0 := fun x : Ext ((w.alloc (.cells #[.int .i64 k1, .string X1, .int .i64 n1, .int .i64 m1, .int .i64 a1, .int .i64 p1, .string D1, .slice ad1 ks1.length cap1] 24)).alloc (.cells #[.int .i64 k2, .string X2, .int .i64 n2, .int .i64 m2, .int .i64 a2, .int .i64 p2, .string D2, .slice ad2 ks2.length cap2] 24)) => (two_cells x.ok).1 0 _ rfl
      have g1 := fun x : Ext ((w.alloc (.cells #[.int .i64 k1, .string X1, .int .i64 n1, .int .i64 m1, .int .i64 a1, .int .i64 p1, .string D1, .slice ad1 ks1.length cap1] 24)).alloc (.cells #[.int .i64 k2, .string X2, .int .i64 n2, .int .i64 m2, .int .i64 a2, .int .i64 p2, .string D2, .slice ad2 ks2.length cap2] 24)) => (two_cells x.ok).1 1 _ rfl
      have g2 := fun x : Ext ((w.alloc (.cells #[.int .i64 k1, .string X1, .int .i64 n1, .int .i64 m1, .int .i64 a1, .int .i64 p1, .string D1, .slice ad1 ks1.length cap1] 24)).alloc (.cells #[.int .i64 k2, .string X2, .int .i64 n2, .int .i64 m2, .int .i64 a2, .int .i64 p2, .string D2, .slice ad2 ks2.length cap2] 24)) => (two_cells x.ok).1 2 _ rfl
      have g3 := fun x : Ext ((w.alloc (.cells #[.int .i64 k1, .string X1, .int .i64 n1, .int .i64 m1, .int .i64 a1, .int .i64 p1, .string D1, .slice ad1 ks1.length cap1] 24)).alloc (.cells #[.int .i64 k2, .string X2, .int .i64 n2, .int .i64 m2, .int .i64 a2, .int .i64 p2, .string D2, .slice ad2 ks2.length cap2] 24)) => (two_cells x.ok).1 3 _ rfl
      have g4 := fun x : Ext ((w.alloc (.cells #[.int .i64 k1, .string X1, .int .i64 n1, .int .i64 m1, .int .i64 a1, .int .i64 p1, .string D1, .slice ad1 ks1.length cap1] 24)).alloc (.cells #[.int .i64 k2, .string X2, .int .i64 n2, .int .i64 m2, .int .i64 a2, .int .i64 p2, .string D2, .slice ad2 ks2.length cap2] 24)) => (two_cells x.ok).1 4 _ rfl
      have g5 := fun x : Ext ((w.alloc (.cells #[.int .i64 k1, .string X1, .int .i64 n1, .int .i64 m1, .int .i64 a1, .int .i64 p1, .string D1, .slice ad1 ks1.length cap1] 24)).alloc (.cells #[.int .i64 k2, .string X2, .int .i64 n2, .int .i64 m2, .int .i64 a2, .int .i64 p2, .string D2, .slice ad2 ks2.length cap2] 24)) => (two_cells x.ok).1 5 _ rfl
      have g6 := fun x : Ext ((w.alloc (.cells #[.int .i64 k1, .string X1, .int .i64 n1, .int .i64 m1, .int .i64 a1, .int .i64 p1, .string D1, .slice ad1 ks1.length cap1] 24)).alloc (.cells #[.int .i64 k2, .string X2, .int .i64 n2, .int .i64 m2, .int .i64 a2, .int .i64 p2, .string D2, .slice ad2 ks2.length cap2] 24)) => (two_cells x.ok).1 6 _ rfl
      have g7 := fun x : Ext ((w.alloc (.cells #[.int .i64 k1, .string X1, .int .i64 n1, .int .i64 m1, .int .i64 a1, .int .i64 p1, .string D1, .slice ad1 ks1.length cap1] 24)).alloc (.cells #[.int .i64 k2, .string X2, .int .i64 n2, .int .i64 m2, .int .i64 a2, .int .i64 p2, .string D2, .slice ad2 ks2.length cap2] 24)) => (two_cells x.ok).1 7 _ rfl
      have h0 := fun x : Ext ((w.alloc (.cells #[.int .i64 k1, .string X1, .int .i64 n1, .int .i64 m1, .int .i64 a1, .int .i64 p1, .string D1, .slice ad1 ks1.length cap1] 24)).alloc (.cells #[.int .i64 k2, .string X2, .int .i64 n2, .int .i64 m2, .int .i64 a2, .int .i64 p2, .string D2, .slice ad2 ks2.length cap2] 24)) => (two_cells x.ok).2 0 _ rfl
      have h1 := fun x : Ext ((w.alloc (.cells #[.int .i64 k1, .string X1, .int .i64 n1, .int .i64 m1, .int .i64 a1, .int .i64 p1, .string D1, .slice ad1 ks1.length cap1] 24)).alloc (.cells #[.int .i64 k2, .string X2, .int .i64 n2, .int .i64 m2, .int .i64 a2, .int .i64 p2, .string D2, .slice ad2 ks2.length cap2] 24)) => (two_cells x.ok).2 1 _ rfl
      have h2 := fun x : Ext ((w.alloc (.cells #[.int .i64 k1, .string X1, .int .i64 n1, .int .i64 m1, .int .i64 a1, .int .i64 p1, .string D1, .slice ad1 ks1.length cap1] 24)).alloc (.cells #[.int .i64 k2, .string X2, .int .i64 n2, .int .i64 m2, .int .i64 a2, .int .i64 p2, .string D2, .slice ad2 ks2.length cap2] 24)) => (two_cells x.ok).2 2 _ rfl
      have h3 := fun x : Ext ((w.alloc (.cells #[.int .i64 k1, .string X1, .int .i64 n1, .int .i64 m1, .int .i64 a1, .int .i64 p1, .string D1, .slice ad1 ks1.length cap1] 24)).alloc (.cells #[.int .i64 k2, .string X2, .int .i64 n2, .int .i64 m2, .int .i64 a2, .int .i64 p2, .string D2, .slice ad2 ks2.length cap2] 24)) => (two_cells x.ok).2 3 _ rfl
      have h4 := fun x : Ext ((w.alloc (.cells #[.int .i64 k1, .string X1, .int .i64 n1, .int .i64 m1, .int .i64 a1, .int .i64 p1, .string D1, .slice ad1 ks1.length cap1] 24)).alloc (.cells #[.int .i64 k2, .string X2, .int .i64 n2, .int .i64 m2, .int .i64 a2, .int .i64 p2, .string D2, .slice ad2 ks2.length cap2] 24)) => (two_cells x.ok).2 4 _ rfl
      have h5 := fun x : Ext ((w.alloc (.cells #[.int .i64 k1, .string X1, .int .i64 n1, .int .i64 m1, .int .i64 a1, .int .i64 p1, .string D1, .slice ad1 ks1.length cap1] 24)).alloc (.cells #[.int .i64 k2, .string X2, .int .i64 n2, .int .i64 m2, .int .i64 a2, .int .i64 p2, .string D2, .slice ad2 ks2.length cap2] 24)) => (two_cells x.ok).2 5 _ rfl
      have h6 := fun x : Ext ((w.alloc (.cells #[.int .i64 k1, .string X1, .int .i64 n1, .int .i64 m1, .int .i64 a1, .int .i64 p1, .string D1, .slice ad1 ks1.length cap1] 24)).alloc (.cells #[.int .i64 k2, .string X2, .int .i64 n2, .int .i64 m2, .int .i64 a2, .int .i64 p2, .string D2, .slice ad2 ks2.length cap2] 24)) => (two_cells x.ok).2 6 _ rfl
      have h7 := fun x : Ext ((w.alloc (.cells #[.int .i64 k1, .string X1, .int .i64 n1, .int .i64 m1, .int .i64 a1, .int .i64 p1, .string D1, .slice ad1 ks1.length cap1] 24)).alloc (.cells #[.int .i64 k2, .string X2, .int .i64 n2, .int .i64 m2, .int .i64 a2, .int .i64 p2, .string D2, .slice ad2 ks2.length cap2] 24)) => (two_cells x.ok).2 7 _ rfl
      refine wp_region_ext ((w.alloc (.cells #[.int .i64 k1, .string X1, .int .i64 n1, .int .i64 m1, .int .i64 a1, .int .i64 p1, .string D1, .slice ad1 ks1.length cap1] 24)).alloc (.cells #[.int .i64 k2, .string X2, .int .i64 n2, .int .i64 m2, .int .i64 a2, .int .i64 p2, .string D2, .slice ad2 ks2.length cap2] 24)) hb1 (by kernel_rfl) (by kernel_rfl) ?_
      repeat (go_big_quiet_step (first
      | (go_at_call_of 8 (Value.string X1); exact Ext.call (fun V hV => QF.out V (HBA.out.trans (hV.mono HBA.out.size))) _)
      | (go_at_call_of 8 (Value.string X2); exact Ext.call (fun V hV => QG.out V (HBA.out.trans (hV.mono HBA.out.size))) _)
      | (go_at_call 13; exact Ext.call (fun V hV => QT.out V (HBA.out.trans (hV.mono HBA.out.size))) _)
      | (go_at_call 14; exact Ext.call (fun V hV => QR.out V (HBA.out.trans (hV.mono HBA.out.size))) _)
      ))
      refine wpQuiet_nil ?_
      rintro w5 ⟨⟨_, hb5⟩, rfl⟩
      have HB5 : Hid (Below w.heap.size w w5) := HBA.out.trans (hb5.mono HBA.out.size)
      clear hb5
      go_wp2
      go_ret
      exact ⟨by first | rfl | simp, HB5.out⟩

theorem contract (H : Type) (enc : TypeId × Value → H) (W : World) (base : Nat) (args : Array Value) (ds gs : List (DataW H)) (before : List MemPlace)
    (hval0 : ∀ (j : Nat) t v, Tryd.f4.params[j]? = some t → args[j]? = some v → Value.okWide Tryd.prog W .any base t v)
    (hW : DataW.Whole enc Tryd.prog Tryd.f4.params.toList Rows.nodeSameSpec.vars false W args.toList ds gs before) (hL : laidMetH Tryd.prog Rows.nodeSameRow.laid W) (hsh : W.ShapedOpen Tryd.prog) :
    Calls Tryd.prog 4 args W fun e W' => ∃ v, e = .returned v ∧ Rows.nodeSameSpec.post enc Tryd.prog Tryd.f4 false true false false W args v W' := by
  have hval : ∀ (j : Nat) t v, Tryd.f4.params[j]? = some t → args[j]? = some v → Value.okWide Tryd.prog W .any base t v := hval0
  have hW' := hW
  obtain ⟨p, q, hA0, hV, rfl, hfz, hnd⟩ := hW
  have hA : DataW.TrodAll enc Tryd.prog W 0 (fun _ => true) true Tryd.f4.params.toList args.toList ds p := hA0
  rw [Tryd.params4] at hA hval
  obtain ⟨v0, vs0, d0, ds0, p0, q0, hargs, rfl, rfl, h0, r0⟩ := trodAll_cons hA
  obtain ⟨v1, vs1, d1, ds1, p1, q1, rfl, rfl, rfl, h1, r1⟩ := trodAll_cons r0
  obtain ⟨rfl, rfl, rfl⟩ := trodAll_nil r1
  obtain rfl : args = #[v0, v1] := by cases args; simp_all
  obtain ⟨rfl, rfl⟩ := trodVars_none hV
  have lt0 : ∀ x ∈ p0, x.block < W.heap.size := by obtain ⟨m, hm⟩ := h0; exact DataW.trod_lt m _ _ _ hm
  obtain ⟨t0, rfl, w0⟩ := node_arg (hval 0 24 v0 rfl rfl) h0
  have lt1 : ∀ x ∈ p1, x.block < W.heap.size := by obtain ⟨m, hm⟩ := h1; exact DataW.trod_lt m _ _ _ hm
  obtain ⟨t1, rfl, w1⟩ := node_arg (hval 1 24 v1 rfl rfl) h1
  clear hA0 hval0
  refine (walk t0 t1 W (table hL hsh) w0 w1).mono fun e W' ⟨he, bel⟩ => ?_
  subst he
  exact ⟨_, rfl, _, _, _, [], _, [], hW', trodAll_mk1 (shut_bool Tryd.underlying4 _), (trodAll_cons_mk (Below.trod laidOut (by kernel_rfl) (of_decide_eq_true (by kernel_rfl)) h0 bel lt0) (trodAll_cons_mk (Below.trod laidOut (by kernel_rfl) (of_decide_eq_true (by kernel_rfl)) h1 bel lt1) trodAll_mk0)), rfl, bel.frame _, fun h => by cases h⟩

theorem laid_met (os : Os) : laidMet Tryd.prog Rows.nodeSameRow.laid ((laidWorld os).forCall (fun _ _ => 0) ⟨#[], #[.agg #[.int .i64 0, .string ByteArray.empty, .int .i64 0, .int .i64 0, .int .i64 0, .int .i64 0, .string ByteArray.empty, .slice none 0 0], .agg #[.int .i64 0, .string ByteArray.empty, .int .i64 0, .int .i64 0, .int .i64 0, .int .i64 0, .string ByteArray.empty, .slice none 0 0]], []⟩).memory :=
  laidMet_of_run' 8 (by kernel_rfl) (by kernel_rfl)

theorem reads (os : Os) {H : Type} (enc : TypeId × Value → H) : ∃ places, DataW.whole enc Tryd.prog ((laidWorld os).forCall (fun _ _ => 0) ⟨#[], #[.agg #[.int .i64 0, .string ByteArray.empty, .int .i64 0, .int .i64 0, .int .i64 0, .int .i64 0, .string ByteArray.empty, .slice none 0 0], .agg #[.int .i64 0, .string ByteArray.empty, .int .i64 0, .int .i64 0, .int .i64 0, .int .i64 0, .string ByteArray.empty, .slice none 0 0]], []⟩).memory Tryd.f4.params.toList Rows.nodeSameSpec.vars false (#[.agg #[.int .i64 0, .string ByteArray.empty, .int .i64 0, .int .i64 0, .int .i64 0, .int .i64 0, .string ByteArray.empty, .slice none 0 0], .agg #[.int .i64 0, .string ByteArray.empty, .int .i64 0, .int .i64 0, .int .i64 0, .int .i64 0, .string ByteArray.empty, .slice none 0 0]] : Array Value).toList 8 = some ([.agg [.lit (.int .i64 0), .lit (.string []), .lit (.int .i64 0), .lit (.int .i64 0), .lit (.int .i64 0), .lit (.int .i64 0), .lit (.string []), .nil], .agg [.lit (.int .i64 0), .lit (.string []), .lit (.int .i64 0), .lit (.int .i64 0), .lit (.int .i64 0), .lit (.int .i64 0), .lit (.string []), .nil]], [], places) :=
  ⟨[], by kernel_rfl⟩

set_option maxRecDepth 100000 in
theorem lifted (os : Os) (started : os.Started) (H : Type) (enc : TypeId × Value → H) (F : Stop.Interp) :
    ReturnsInHanded {} Tryd.checked os 4 .any ((OpenSpec.ofChange Rows.nodeSameSpec).preRow enc Tryd.prog Tryd.f4 Rows.nodeSameRow.domain false Rows.nodeSameRow.laid) (((OpenSpec.ofChange Rows.nodeSameSpec).at F).post enc Tryd.prog Tryd.f4 false true false false) := by
  obtain ⟨places, hx⟩ := reads os enc
  refine returnsInHanded_of_row (C := Tryd.checked) (s := OpenSpec.ofChange Rows.nodeSameSpec) own started (by kernel_rfl) Tryd.func4
    (witness_row_at (enc := enc) (C := Tryd.checked) false (laidWorld os) #[.agg #[.int .i64 0, .string ByteArray.empty, .int .i64 0, .int .i64 0, .int .i64 0, .int .i64 0, .string ByteArray.empty, .slice none 0 0], .agg #[.int .i64 0, .string ByteArray.empty, .int .i64 0, .int .i64 0, .int .i64 0, .int .i64 0, .string ByteArray.empty, .slice none 0 0]] rfl (by kernel_rfl) (by kernel_rfl) (by kernel_rfl)
      (OpenSpec.preRow_of_cond 8 hx (by kernel_rfl) (fun k hk => by cases hk) (by kernel_rfl) (laid_met os))) ?_
  intro W base args ds gs before hval hW _ _ _ hL hsh _
  exact contract H enc W base args ds gs before hval hW hL hsh

theorem said : Rows.NodeSameSaid :=
  OpenClaim.holds_of_cond 4 Tryd.f4 rfl rfl rfl rfl rfl rfl rfl ⟨rfl, rfl, rfl, rfl, rfl⟩ rfl rfl rfl rfl rfl (by kernel_rfl) Tryd.func4 (by kernel_rfl)
    (of_decide_eq_true (by kernel_rfl)) (by unfold Func.isWrapper; first | (rw [if_pos (by decide +kernel)]; kernel_rfl) | (rw [if_neg (by decide +kernel)]; exact ⟨rfl, rfl⟩))
    (fun os started H enc _ F => by rw [OpenClaim.pre_eq_preRow]; exact lifted os started H enc F)

/-- No parameter wants a stand-in; the program's own looks are off: what the card asks. -/
theorem plain (f : FuncId) (fn : Func) (hf : Tryd.pinned.checked.prog.funcNamed "glossary/glossarylaw07.NodeSame" = some f) (hfn : Tryd.pinned.checked.prog.funcs[f]? = some fn) :
    false = Tryd.pinned.checked.prog.looks [] ∧ ∀ (j : Nat) t, fn.params[j]? = some t → Tryd.pinned.checked.prog.wantsStandIn t = false := by
  obtain rfl : f = 4 := Option.some.inj ((show Tryd.prog.funcNamed "glossary/glossarylaw07.NodeSame" = some 4 by kernel_rfl).symm.trans hf) |>.symm
  obtain rfl : fn = Tryd.f4 := (Option.some.inj (Tryd.func4.symm.trans hfn)).symm
  refine ⟨by kernel_rfl, fun j t ht => ?_⟩
  rw [Tryd.params4] at ht
  have hm := Array.mem_of_getElem? ht
  simp only [List.mem_toArray, List.mem_cons, List.not_mem_nil, or_false] at hm
  rcases hm with rfl | rfl
  · exact (show Tryd.prog.wantsStandIn 24 = false by kernel_rfl)
  · exact (show Tryd.prog.wantsStandIn 24 = false by kernel_rfl)

end Go.Proofs.YtgkablmglkagfaaDoor.nodeSame
namespace Go.Proofs.YtgkablmglkagfaaDoor
theorem nodeSame_holds : Rows.NodeSameCardSaid :=
  Claim7.holds_tied_plain_at .later [] _ _ _ _ nodeSame.said (fun _ h => by cases h) (by kernel_rfl) (fun _ h => by cases h) nodeSame_row_tie rfl ⟨rfl, rfl⟩ (by kernel_rfl) rfl nodeSame.plain (by kernel_rfl)
#print axioms nodeSame_holds
end Go.Proofs.YtgkablmglkagfaaDoor
