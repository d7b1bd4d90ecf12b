/- NodeOf, proved for every tree and kind: Of answers as the document asks; no condition. -/
import Derived.Test.YtmoeibhenihhfaaGreatDoorCards
import Derived.Test.YtmoeibhenihhfaaGreatDoorTie
import Derived.Deep.RegionWith
import Derived.Deep.RegionHeld3
import Derived.ProofKit
import Derived.OpenShut
import Derived.ShutString
import Derived.ChangeOld
import Derived.Below
import Derived.Deep.DeepHandedRow
import Derived.Lib.LaidTab
import Derived.Stop.LaidErr
import Derived.Shelf.Vars
import Derived.Test.YtmoeibhenihhfaaGreatDoorBunA4
import Derived.Test.YtmoeibhenihhfaaGreatDoorBunA7
import Derived.Test.YtmoeibhenihhfaaGreatDoorBunA13
namespace Go.Proofs.YtmoeibhenihhfaaGreatDoor.nodeOf
open Go.ChangeShapes Go.WideShapes Go.ChangeAt Go.RowKit
open Go.ChangeMaps (open_string shut_string)
set_option linter.unusedVariables false

theorem own : ownKnob Tryz.prog.godebug = none := by kernel_rfl
theorem laidOut : laidOutB Tryz.prog = true := by kernel_rfl

theorem gPw : Tryz.prog.globalNamed "internal/strconv.uint64pow10" = some 1 := by kernel_rfl
theorem gPwT : (Tryz.prog.globals[1]?).map (·.type) = some 83 := by kernel_rfl

/-- WHAT THE ROW's LIST AND THE WORLD's SHAPE GIVE: the table of powers holds its numbers; internal/bytealg.MaxLen holds some number. -/
theorem table {W : World} (h : laidMetH Tryz.prog Rows.nodeOfRow.laid W) (hs : W.ShapedOpen Tryz.prog) : TTab W := by
  have h0 : laidMet Tryz.prog [("math/bits.deBruijn32tab", Rows.laid_math_bits_deBruijn32tab), ("math/bits.deBruijn64tab", Rows.laid_math_bits_deBruijn64tab), ("internal/strconv.uint64pow10", Rows.laid_internal_strconv_uint64pow10)] W := h
  have h3 : Lib.TabIs Tryz.prog W "internal/strconv.uint64pow10" .u64 Lib.pow10Tab := Lib.tabIs_of_head (rest := []) gPw gPwT Tryz.underlying83 Tryz.underlying45 (by kernel_rfl) (by kernel_rfl) h0.tail.tail
  exact ⟨h3, cell_of_shapedOpen_int (zero := #[.int .i64 0]) (t := 3) hs (of_decide_eq_true (by kernel_rfl)) (by kernel_rfl) rfl (by kernel_rfl) (by kernel_rfl) Tryz.underlying3⟩

/-- A WORLD FOR THE WITNESS: the settled one, the tables holding what their initialisers lay. -/
def layCells (xs : Array Value) : Obj → Obj
  | .cells _ t frozen => .cells xs t frozen
  | o => o
def db32 : List Int := [0, 1, 28, 2, 29, 14, 24, 3, 30, 22, 20, 15, 25, 17, 4, 8, 31, 27, 13, 23, 21, 19, 16, 7, 26, 12, 18, 6, 11, 5, 10, 9]
def db64 : List Int := [0, 1, 56, 2, 57, 49, 28, 3, 61, 58, 42, 50, 38, 29, 17, 4, 62, 47, 59, 36, 45, 43, 51, 22, 53, 39, 33, 30, 24, 18, 12, 5, 63, 55, 48, 27, 60, 41, 37, 16, 46, 35, 44, 21, 52, 32, 23, 11, 54, 26, 40, 15, 34, 20, 31, 10, 25, 14, 19, 9, 13, 8, 7, 6]
def pw10 : List Int := [1, 10, 100, 1000, 10000, 100000, 1000000, 10000000, 100000000, 1000000000, 10000000000, 100000000000, 1000000000000, 10000000000000, 100000000000000, 1000000000000000, 10000000000000000, 100000000000000000, 1000000000000000000, 10000000000000000000]
noncomputable def laidWorld (os : Os) : World :=
  { World.holding Tryz.prog os ⟨#[], #[], []⟩ with heap := (((World.holding Tryz.prog os ⟨#[], #[], []⟩).heap.modify 2 (layCells (db32.map fun z => Value.int .u8 z).toArray)).modify 3 (layCells (db64.map fun z => Value.int .u8 z).toArray)).modify 1 (layCells (pw10.map fun z => Value.int .u64 z).toArray) }

theorem own_step {w V w2 : World} {cs : Array Value} {ty : TypeId} (h : Below (w.alloc (.cells cs ty)).heap.size (w.alloc (.cells cs ty)) V) (hb : Below V.heap.size V w2) : Below (w.alloc (.cells cs ty)).heap.size (w.alloc (.cells cs ty)) w2 := h.trans (hb.mono h.size)

theorem filter_at {p : Tn → Bool} : ∀ (l : List Tn) (k : Nat) (t : Tn), l[k]? = some t → p t = true → (l.filter p)[((l.take k).filter p).length]? = some t
  | [], k, t, h, _ => by simp at h
  | x :: l, 0, t, h, hp => by
    simp at h
    subst h
    simp [hp]
  | x :: l, k + 1, t, h, hp => by
    have ih := filter_at l k t (by simpa using h) hp
    simp only [List.take_succ_cons, List.filter_cons]
    cases p x <;> simp [ih]

theorem filter_more {p : Tn → Bool} (l : List Tn) (k : Nat) (t : Tn) (h : l[k]? = some t) : ((l.take (k + 1)).filter p).length = ((l.take k).filter p).length + (if p t = true then 1 else 0) := by
  rw [List.take_add_one, h, List.filter_append, List.length_append]
  cases hp : p t <;> simp [hp]

theorem tlikes_len : ∀ (a b : List Tn), tlikes a b → a.length = b.length
  | [], [], _ => rfl
  | [], _ :: _, h => by simp [tlikes] at h
  | _ :: _, [], h => by simp [tlikes] at h
  | a :: l, b :: r, h => by
    simp only [tlikes] at h
    simp [tlikes_len l r h.2.2]

theorem tlikes_at : ∀ (a b : List Tn) (i : Nat) (t : Tn), tlikes a b → b[i]? = some t → ∃ u, a[i]? = some u ∧ tSame u t = true ∧ u.pos = t.pos
  | [], [], i, t, _, h => by simp at h
  | [], _ :: _, i, t, h, _ => by simp [tlikes] at h
  | _ :: _, [], i, t, h, _ => by simp [tlikes] at h
  | a :: l, b :: r, 0, t, h, hb => by
    simp only [tlikes] at h
    simp at hb
    subst hb
    exact ⟨a, rfl, h.1, h.2.1⟩
  | a :: l, b :: r, i + 1, t, h, hb => by
    simp only [tlikes] at h
    obtain ⟨u, h1, h2⟩ := tlikes_at l r i t h.2.2 (by simpa using hb)
    exact ⟨u, by simpa using h1, h2⟩

theorem flat8 : ∀ (ts : List Tn) (i : Nat) (t : Tn), ts[i]? = some t → ∀ (j : Nat) (u : Value), t.cells[j]? = some u → (ts.flatMap Tn.cells)[i * 8 + j]? = some u
  | [], i, t, h, _, _, _ => by simp at h
  | x :: ts, 0, t, h, j, u, hj => by
    simp at h
    subst h
    rw [List.flatMap_cons, List.getElem?_append_left (by simpa using (List.getElem?_eq_some_iff.1 hj).1)]
    simpa using hj
  | x :: ts, i + 1, t, h, j, u, hj => by
    have ih := flat8 ts i t (by simpa using h) j u hj
    have h8 : x.cells.length = 8 := by obtain ⟨_, _, _, _, _, _, _, _, _, _⟩ := x; rfl
    rw [List.flatMap_cons, List.getElem?_append_right (by omega), h8, show (i + 1) * 8 + j - 8 = i * 8 + j by omega]
    exact ih

theorem Nos.cells {w V : World} {base : Nat} {v : Value} {ts : List Tn} (h : Nos w base v ts) (hB : Below w.heap.size w V) (hp : 0 < ts.length) : ∃ g c, v = .slice (some ⟨g, 0, none⟩) ts.length c ∧ g < w.heap.size ∧ base ≤ g ∧ ∀ (i : Nat) (t : Tn), ts[i]? = some t → ∀ (j : Nat) (u : Value), t.cells[j]? = some u → V.cell? ⟨g, i * 8 + j, none⟩ = some u := by
  rcases h.2 with ⟨_, hn⟩ | ⟨g, c, cur, he, hg, hh, h1, h2, h3, h4⟩
  · omega
  · subst he
    have hgl := (h.lt g rfl).2
    refine ⟨g, c, rfl, hgl, hg, fun i t hi j u hj => ?_⟩
    have hf := flat8 ts i t hi j u hj
    rw [hB.cell hgl]
    have hlt : i * 8 + j < (ts.flatMap Tn.cells).length := (List.getElem?_eq_some_iff.1 hf).1
    have hl := h.1
    have := h.cellAt (i * 8 + j) (by omega)
    rw [this]
    exact hf

set_option maxRecDepth 10000 in
set_option maxHeartbeats 8000000 in
theorem walk (t0 : Tn) (x1 : Int) (w : World) (hT : Hid (TTab w)) (hn0 : Hid (TnOk w t0)) (b1 : -9223372036854775808 ≤ x1 ∧ x1 ≤ 9223372036854775807) :
    Calls Tryz.prog 3 #[t0.val, .int .i64 x1] w fun e w' => e = .returned (.bool true) ∧ Below w.heap.size w w' := by
  have qf := fun V hV => rfew_any hn0.out V hV
  by_cases hf : tfew t0 = true
  · have qd := fun V hV => rdeep_any hn0.out V hV
    have hd1 : 1 ≤ tdeep t0 ∧ tdeep t0 ≤ 100 := by have := tdp_bd t0 1 (by omega); unfold tdeep; split <;> omega
    have qo := fun (hd : tdeep t0 ≤ 64) V (hV : Below w.heap.size w V) => pof_any hn0.out hf hd x1 b1 V (hT.out.below hV (Nat.le_refl _)) hV
    rw [hf] at qf
    have HN : Hid (TnOk w t0) := hn0.out
    clear hn0
    generalize tdeep t0 = D at qd qo hd1
    obtain ⟨kind, text, n, m, a, pos, doc, ad, cap, kids⟩ := t0
    have HMK : Hid ((0 < kids.length → ∃ b off, ad = some ⟨b, off, none⟩ ∧ b < w.heap.size ∧ ∀ (i : Nat) (t : Tn), kids[i]? = some t → ∀ (j : Nat) (u : Value), t.cells[j]? = some u → w.cell? ⟨b, off + i * 8 + j, none⟩ = some u) ∧ (∀ (i : Nat) (t : Tn), kids[i]? = some t → TnOk w t) ∧ (kids.length : Int) ≤ 9223372036854775807) := by
      cases HN.out with
      | mk hkind htext htl hn hm ha hpos hdoc hdl hkl hcap hnone hmem hkids => exact ⟨hmem, hkids, hkl⟩
    show Calls Tryz.prog 3 #[.agg #[.int .i64 kind, .string (strOfNums text), .int .i64 n, .int .i64 m, .int .i64 a, .int .i64 pos, .string (strOfNums doc), .slice ad kids.length cap], .int .i64 x1] w _
    change ∀ V, Below w.heap.size w V → Calls Tryz.prog 5 #[.agg #[.int .i64 kind, .string (strOfNums text), .int .i64 n, .int .i64 m, .int .i64 a, .int .i64 pos, .string (strOfNums doc), .slice ad kids.length cap]] V (fun e W' => e = .returned (.bool true) ∧ Below V.heap.size V W') at qf
    change ∀ V, Below w.heap.size w V → Calls Tryz.prog 6 #[.agg #[.int .i64 kind, .string (strOfNums text), .int .i64 n, .int .i64 m, .int .i64 a, .int .i64 pos, .string (strOfNums doc), .slice ad kids.length cap]] V (fun e W' => e = .returned (.int .i64 D) ∧ Below V.heap.size V W') at qd
    change D ≤ 64 → ∀ V, Below w.heap.size w V → Calls Tryz.prog 7 #[.agg #[.int .i64 kind, .string (strOfNums text), .int .i64 n, .int .i64 m, .int .i64 a, .int .i64 pos, .string (strOfNums doc), .slice ad kids.length cap], .int .i64 x1] V (fun e W' => ∃ v us, e = .returned v ∧ Nos W' V.heap.size v us ∧ (∀ u ∈ us, TnOk W' u) ∧ tlikes us (kids.filter fun k => k.kind == x1) ∧ Below V.heap.size V W') at qo
    generalize strOfNums text = T1 at qf qd qo ⊢
    generalize strOfNums doc = T2 at qf qd qo ⊢
    have HBA : Hid (Below w.heap.size w (w.alloc (.cells #[.int .i64 kind, .string T1, .int .i64 n, .int .i64 m, .int .i64 a, .int .i64 pos, .string T2, .slice ad kids.length cap] 24))) := (Below.refl _ _).alloc (Nat.le_refl _) _
    have QF : Hid _ := qf
    have QD : Hid _ := qd
    have QO : Hid _ := qo
    obtain ⟨hd0, hd1⟩ := hd1
    clear qf qd qo hf HN
    by_cases hD : 64 < D
    · clear QO HMK
      go_enter Tryz.func3, Tryz.ntmps3
      go_wp2_with fail
      refine (tawake_any _ (hT.out.below HBA.out (Nat.le_refl _))).mono ?_
      rintro e w1 ⟨rfl, hb1⟩
      have x0 := own_cells hb1 0 _ rfl
      have x1 := own_cells hb1 1 _ rfl
      have x2 := own_cells hb1 2 _ rfl
      have x3 := own_cells hb1 3 _ rfl
      have x4 := own_cells hb1 4 _ rfl
      have x5 := own_cells hb1 5 _ rfl
      have x6 := own_cells hb1 6 _ rfl
      have x7 := own_cells hb1 7 _ rfl
      have HB1 : Hid (Below w.heap.size w w1) := HBA.out.trans (hb1.mono HBA.out.size)
      have HC1 : Hid (Below (w.alloc (.cells #[.int .i64 kind, .string T1, .int .i64 n, .int .i64 m, .int .i64 a, .int .i64 pos, .string T2, .slice ad kids.length cap] 24)).heap.size (w.alloc (.cells #[.int .i64 kind, .string T1, .int .i64 n, .int .i64 m, .int .i64 a, .int .i64 pos, .string T2, .slice ad kids.length cap] 24)) w1) := hb1
      clear hb1
      go_wp2_with fail
      refine Calls.mono (QF.out _ HB1.out) ?_
      rintro e w2 ⟨rfl, hb2⟩
      have HB2 : Hid (Below w.heap.size w w2) := HB1.out.trans (hb2.mono HB1.out.size)
      have HC2 : Hid (Below (w.alloc (.cells #[.int .i64 kind, .string T1, .int .i64 n, .int .i64 m, .int .i64 a, .int .i64 pos, .string T2, .slice ad kids.length cap] 24)).heap.size (w.alloc (.cells #[.int .i64 kind, .string T1, .int .i64 n, .int .i64 m, .int .i64 a, .int .i64 pos, .string T2, .slice ad kids.length cap] 24)) w2) := HC1.out.trans (hb2.mono HC1.out.size)
      clear hb2 x0 x1 x2 x3 x4 x5 x6 x7
      have y0 := own_cells HC2.out 0 _ rfl
      have y1 := own_cells HC2.out 1 _ rfl
      have y2 := own_cells HC2.out 2 _ rfl
      have y3 := own_cells HC2.out 3 _ rfl
      have y4 := own_cells HC2.out 4 _ rfl
      have y5 := own_cells HC2.out 5 _ rfl
      have y6 := own_cells HC2.out 6 _ rfl
      have y7 := own_cells HC2.out 7 _ rfl
      go_wp2_with fail
      refine Calls.mono (QD.out _ HB2.out) ?_
      rintro e w3 ⟨rfl, hb3⟩
      have HB3 : Hid (Below w.heap.size w w3) := HB2.out.trans (hb3.mono HB2.out.size)
      go_wp2
      go_ret
      exact ⟨by first | rfl | simp, HB3.out⟩
    · have QO2 : Hid _ := QO.out (by omega)
      clear QO
      go_enter Tryz.func3, Tryz.ntmps3
      go_wp2_with fail
      refine (tawake_any _ (hT.out.below HBA.out (Nat.le_refl _))).mono ?_
      rintro e w1 ⟨rfl, hb1⟩
      have x0 := own_cells hb1 0 _ rfl
      have x1 := own_cells hb1 1 _ rfl
      have x2 := own_cells hb1 2 _ rfl
      have x3 := own_cells hb1 3 _ rfl
      have x4 := own_cells hb1 4 _ rfl
      have x5 := own_cells hb1 5 _ rfl
      have x6 := own_cells hb1 6 _ rfl
      have x7 := own_cells hb1 7 _ rfl
      have HB1 : Hid (Below w.heap.size w w1) := HBA.out.trans (hb1.mono HBA.out.size)
      have HC1 : Hid (Below (w.alloc (.cells #[.int .i64 kind, .string T1, .int .i64 n, .int .i64 m, .int .i64 a, .int .i64 pos, .string T2, .slice ad kids.length cap] 24)).heap.size (w.alloc (.cells #[.int .i64 kind, .string T1, .int .i64 n, .int .i64 m, .int .i64 a, .int .i64 pos, .string T2, .slice ad kids.length cap] 24)) w1) := hb1
      clear hb1
      go_wp2_with fail
      refine Calls.mono (QF.out _ HB1.out) ?_
      rintro e w2 ⟨rfl, hb2⟩
      have HB2 : Hid (Below w.heap.size w w2) := HB1.out.trans (hb2.mono HB1.out.size)
      have HC2 : Hid (Below (w.alloc (.cells #[.int .i64 kind, .string T1, .int .i64 n, .int .i64 m, .int .i64 a, .int .i64 pos, .string T2, .slice ad kids.length cap] 24)).heap.size (w.alloc (.cells #[.int .i64 kind, .string T1, .int .i64 n, .int .i64 m, .int .i64 a, .int .i64 pos, .string T2, .slice ad kids.length cap] 24)) w2) := HC1.out.trans (hb2.mono HC1.out.size)
      clear hb2 x0 x1 x2 x3 x4 x5 x6 x7
      have y0 := own_cells HC2.out 0 _ rfl
      have y1 := own_cells HC2.out 1 _ rfl
      have y2 := own_cells HC2.out 2 _ rfl
      have y3 := own_cells HC2.out 3 _ rfl
      have y4 := own_cells HC2.out 4 _ rfl
      have y5 := own_cells HC2.out 5 _ rfl
      have y6 := own_cells HC2.out 6 _ rfl
      have y7 := own_cells HC2.out 7 _ rfl
      go_wp2_with fail
      refine Calls.mono (QD.out _ HB2.out) ?_
      rintro e w3 ⟨rfl, hb3⟩
      have HB3 : Hid (Below w.heap.size w w3) := HB2.out.trans (hb3.mono HB2.out.size)
      have HC3 : Hid (Below (w.alloc (.cells #[.int .i64 kind, .string T1, .int .i64 n, .int .i64 m, .int .i64 a, .int .i64 pos, .string T2, .slice ad kids.length cap] 24)).heap.size (w.alloc (.cells #[.int .i64 kind, .string T1, .int .i64 n, .int .i64 m, .int .i64 a, .int .i64 pos, .string T2, .slice ad kids.length cap] 24)) w3) := HC2.out.trans (hb3.mono HC2.out.size)
      clear hb3 y0 y1 y2 y3 y4 y5 y6 y7
      have z0 := own_cells HC3.out 0 _ rfl
      have z1 := own_cells HC3.out 1 _ rfl
      have z2 := own_cells HC3.out 2 _ rfl
      have z3 := own_cells HC3.out 3 _ rfl
      have z4 := own_cells HC3.out 4 _ rfl
      have z5 := own_cells HC3.out 5 _ rfl
      have z6 := own_cells HC3.out 6 _ rfl
      have z7 := own_cells HC3.out 7 _ rfl
      go_wp2_with fail
      refine Calls.mono (QO2.out _ HB3.out) ?_
      rintro e w4 ⟨v, us, rfl, hTo, hOk, hLk, hb4⟩
      have HB4 : Hid (Below w.heap.size w w4) := HB3.out.trans (hb4.mono HB3.out.size)
      have HC4 : Hid (Below (w.alloc (.cells #[.int .i64 kind, .string T1, .int .i64 n, .int .i64 m, .int .i64 a, .int .i64 pos, .string T2, .slice ad kids.length cap] 24)).heap.size (w.alloc (.cells #[.int .i64 kind, .string T1, .int .i64 n, .int .i64 m, .int .i64 a, .int .i64 pos, .string T2, .slice ad kids.length cap] 24)) w4) := HC3.out.trans (hb4.mono HC3.out.size)
      have HTo : Hid (Nos w4 w3.heap.size v us) := hTo
      have HOk : Hid (∀ u ∈ us, TnOk w4 u) := hOk
      have HLk : Hid (tlikes us (kids.filter fun k => k.kind == x1)) := hLk
      have HLn : Hid (us.length = (kids.filter fun k => k.kind == x1).length) := tlikes_len _ _ hLk
      have hul : us.length ≤ kids.length := by rw [tlikes_len _ _ hLk]; exact List.length_filter_le _ _
      obtain ⟨va, vc, hv⟩ := own_slice hTo
      clear hb4 z0 z1 z2 z3 z4 z5 z6 z7 hTo hOk hLk
      have s0 := own_cells HC4.out 0 _ rfl
      have s1 := own_cells HC4.out 1 _ rfl
      have s2 := own_cells HC4.out 2 _ rfl
      have s3 := own_cells HC4.out 3 _ rfl
      have s4 := own_cells HC4.out 4 _ rfl
      have s5 := own_cells HC4.out 5 _ rfl
      have s6 := own_cells HC4.out 6 _ rfl
      have s7 := own_cells HC4.out 7 _ rfl
      have hkl := HMK.out.2.2
      subst hv
      go_wp2
      go_loopw [6, 25] (fun iv v wr => ∃ k i : Nat, iv = .int .i64 (i : Int) ∧ v = .int .i64 (k : Int) ∧ k ≤ kids.length ∧ i ≤ k ∧ i ≤ us.length ∧ Hid (i = ((kids.take k).filter fun k => k.kind == x1).length) ∧ Hid (Below w4.heap.size w4 wr)) (fun _ v _ => kids.length - (intOf v).toNat)
      case atStart => exact ⟨0, 0, rfl, rfl, by omega, by omega, by omega, rfl, Below.refl _ _⟩
      case round =>
        obtain ⟨k, i, rfl, rfl, hk, hik, hiu, HI, HBw⟩ := hrel
        clear s0 s1 s2 s3 s4 s5 s6 s7
        by_cases hkl2 : k < kids.length
        · obtain ⟨b, off, rfl, hlt, hc⟩ := HMK.out.1 (by omega)
          obtain ⟨⟨kd4, tx4, n4, m4, a4, pp, dc4, ad4, cap4, ks4⟩, hkid⟩ : ∃ t, kids[k]? = some t := ⟨kids[k]'hkl2, List.getElem?_eq_getElem hkl2⟩
          have hBB : Below w.heap.size w wr := HB4.out.trans (HBw.out.mono HB4.out.size)
          obtain ⟨c0, c1, c2, c3, c4, c5, c6, c7⟩ := kid_cells hlt hBB hc hkid
          have hfm := filter_more (p := fun k => k.kind == x1) kids k _ hkid
          by_cases hkk : kd4 = x1
          · subst hkk
            have e1 : (kd4 == kd4) = true := by simp
            have HI2 : Hid (i + 1 = ((kids.take (k + 1)).filter fun k => k.kind == kd4).length) := by show _ = _; rw [hfm, if_pos (by simp [Tn.kind]), HI.out]
            have hfa := filter_at (p := fun k => k.kind == kd4) kids k _ hkid (by simp [Tn.kind])
            rw [← HI.out] at hfa
            obtain ⟨⟨kd3, tx3, n3, m3, a3, p3, dc3, ad3, cap3, ks3⟩, hu, hsm, hps⟩ := tlikes_at _ _ i _ HLk.out hfa
            obtain rfl : p3 = pp := hps
            have hil : i < us.length := (List.getElem?_eq_some_iff.1 hu).1
            obtain ⟨g, gc, hv, hgl, _, hg⟩ := Nos.cells HTo.out HBw.out (by omega)
            have hgw : g < wr.heap.size := Nat.lt_of_lt_of_le hgl HBw.out.size
            simp only [Value.slice.injEq, true_and] at hv
            obtain ⟨rfl, rfl⟩ := hv
            have qr := fun V hV => rSame_any (HOk.out _ (List.mem_of_getElem? hu)) ((HMK.out.2.1 k _ hkid).under HB4.out) V hV
            rw [hsm] at qr
            change ∀ V, Below w4.heap.size w4 V → Calls Tryz.prog 8 #[.agg #[.int .i64 kd3, .string (strOfNums tx3), .int .i64 n3, .int .i64 m3, .int .i64 a3, .int .i64 p3, .string (strOfNums dc3), .slice ad3 ks3.length cap3], .agg #[.int .i64 kd4, .string (strOfNums tx4), .int .i64 n4, .int .i64 m4, .int .i64 a4, .int .i64 p3, .string (strOfNums dc4), .slice ad4 ks4.length cap4]] V (fun e W' => e = .returned (.bool true) ∧ Below V.heap.size V W') at qr
            have HBn : Hid (Below w4.heap.size w4 (wr.alloc (.cells #[.int .i64 kd4, .string (strOfNums tx4), .int .i64 n4, .int .i64 m4, .int .i64 a4, .int .i64 p3, .string (strOfNums dc4), .slice ad4 ks4.length cap4] 24))) := HBw.out.alloc HBw.out.size _
            have hgA : ∀ V, Below (wr.alloc (.cells #[.int .i64 kd4, .string (strOfNums tx4), .int .i64 n4, .int .i64 m4, .int .i64 a4, .int .i64 p3, .string (strOfNums dc4), .slice ad4 ks4.length cap4] 24)).heap.size (wr.alloc (.cells #[.int .i64 kd4, .string (strOfNums tx4), .int .i64 n4, .int .i64 m4, .int .i64 a4, .int .i64 p3, .string (strOfNums dc4), .slice ad4 ks4.length cap4] 24)) V → ∀ (j : Nat) (u : Value), (Tn.mk kd3 tx3 n3 m3 a3 p3 dc3 ad3 cap3 ks3).cells[j]? = some u → V.cell? ⟨g, i * 8 + j, none⟩ = some u := fun V hV j u hj =>
              (hV.cell (show g < _ by simp; omega)).trans ((((Below.refl wr.heap.size wr).alloc (Nat.le_refl _) (.cells #[.int .i64 kd4, .string (strOfNums tx4), .int .i64 n4, .int .i64 m4, .int .i64 a4, .int .i64 p3, .string (strOfNums dc4), .slice ad4 ks4.length cap4] 24)).cell (p := ⟨g, i * 8 + j, none⟩) hgw).trans (hg i _ hu j u hj))
            change ∀ V, Below (wr.alloc (.cells #[.int .i64 kd4, .string (strOfNums tx4), .int .i64 n4, .int .i64 m4, .int .i64 a4, .int .i64 p3, .string (strOfNums dc4), .slice ad4 ks4.length cap4] 24)).heap.size (wr.alloc (.cells #[.int .i64 kd4, .string (strOfNums tx4), .int .i64 n4, .int .i64 m4, .int .i64 a4, .int .i64 p3, .string (strOfNums dc4), .slice ad4 ks4.length cap4] 24)) V → ∀ (j : Nat) (u : Value), [.int .i64 kd3, .string (strOfNums tx3), .int .i64 n3, .int .i64 m3, .int .i64 a3, .int .i64 p3, .string (strOfNums dc3), .slice ad3 ks3.length cap3][j]? = some u → V.cell? ⟨g, i * 8 + j, none⟩ = some u at hgA
            generalize strOfNums tx4 = U4 at c1 HBn qr hgA
            generalize strOfNums dc4 = V4 at c6 HBn qr hgA
            generalize strOfNums tx3 = U3 at qr hgA
            generalize strOfNums dc3 = V3 at qr hgA
            have HGA : Hid (∀ V, Below (wr.alloc (.cells #[.int .i64 kd4, .string U4, .int .i64 n4, .int .i64 m4, .int .i64 a4, .int .i64 p3, .string V4, .slice ad4 ks4.length cap4] 24)).heap.size (wr.alloc (.cells #[.int .i64 kd4, .string U4, .int .i64 n4, .int .i64 m4, .int .i64 a4, .int .i64 p3, .string V4, .slice ad4 ks4.length cap4] 24)) V → ∀ (j : Nat) (u : Value), [.int .i64 kd3, .string U3, .int .i64 n3, .int .i64 m3, .int .i64 a3, .int .i64 p3, .string V3, .slice ad3 ks3.length cap3][j]? = some u → V.cell? ⟨g, i * 8 + j, none⟩ = some u) := hgA
            have QR : Hid _ := qr
            have hA0 : Below (wr.alloc (.cells #[.int .i64 kd4, .string U4, .int .i64 n4, .int .i64 m4, .int .i64 a4, .int .i64 p3, .string V4, .slice ad4 ks4.length cap4] 24)).heap.size (wr.alloc (.cells #[.int .i64 kd4, .string U4, .int .i64 n4, .int .i64 m4, .int .i64 a4, .int .i64 p3, .string V4, .slice ad4 ks4.length cap4] 24)) (wr.alloc (.cells #[.int .i64 kd4, .string U4, .int .i64 n4, .int .i64 m4, .int .i64 a4, .int .i64 p3, .string V4, .slice ad4 ks4.length cap4] 24)) := Below.refl _ _
            have f0 := HGA.out _ hA0 0 _ rfl
            have f1 := HGA.out _ hA0 1 _ rfl
            have f2 := HGA.out _ hA0 2 _ rfl
            have f3 := HGA.out _ hA0 3 _ rfl
            have f4 := HGA.out _ hA0 4 _ rfl
            have f5 := HGA.out _ hA0 5 _ rfl
            have f6 := HGA.out _ hA0 6 _ rfl
            have f7 := HGA.out _ hA0 7 _ rfl
            have r0 := own_cells hA0 0 _ rfl
            have r1 := own_cells hA0 1 _ rfl
            have r2 := own_cells hA0 2 _ rfl
            have r3 := own_cells hA0 3 _ rfl
            have r4 := own_cells hA0 4 _ rfl
            have r5 := own_cells hA0 5 _ rfl
            have r6 := own_cells hA0 6 _ rfl
            have r7 := own_cells hA0 7 _ rfl
            have hAd := hA0.drew
            have hBd := HBn.out.drew
            have i1 : ¬ (us.length : Int) ≤ (i : Int) := by omega
            have i2 : (i : Int) < (us.length : Int) := by omega
            have i3 : decide ((us.length : Int) ≤ (i : Int)) = false := decide_eq_false i1
            have i4 : decide (us.length ≤ i) = false := decide_eq_false (by omega)
            have epp : (p3 != p3) = false := by simp
            clear hfm hfa hu hsm hg hc hkid qr hgA HI hA0
            go_wp2_with fail
            go_region_held3 (fun W => W.cell? ⟨g, i * 8, none⟩ = some (.int .i64 kd3) ∧ W.cell? ⟨g, i * 8 + 1, none⟩ = some (.string U3) ∧ W.cell? ⟨g, i * 8 + 2, none⟩ = some (.int .i64 n3) ∧ W.cell? ⟨g, i * 8 + 3, none⟩ = some (.int .i64 m3) ∧ W.cell? ⟨g, i * 8 + 4, none⟩ = some (.int .i64 a3) ∧ W.cell? ⟨g, i * 8 + 5, none⟩ = some (.int .i64 p3) ∧ W.cell? ⟨g, i * 8 + 6, none⟩ = some (.string V3) ∧ W.cell? ⟨g, i * 8 + 7, none⟩ = some (.slice ad3 ks3.length cap3) ∧ W.cell? ⟨wr.heap.size, 0, none⟩ = some (.int .i64 kd4) ∧ W.cell? ⟨wr.heap.size, 1, none⟩ = some (.string U4) ∧ W.cell? ⟨wr.heap.size, 2, none⟩ = some (.int .i64 n4) ∧ W.cell? ⟨wr.heap.size, 3, none⟩ = some (.int .i64 m4) ∧ W.cell? ⟨wr.heap.size, 4, none⟩ = some (.int .i64 a4) ∧ W.cell? ⟨wr.heap.size, 5, none⟩ = some (.int .i64 p3) ∧ W.cell? ⟨wr.heap.size, 6, none⟩ = some (.string V4) ∧ W.cell? ⟨wr.heap.size, 7, none⟩ = some (.slice ad4 ks4.length cap4)) (first | assumption | (refine ⟨?_, ?_, ?_, ?_, ?_, ?_, ?_, ?_, ?_, ?_, ?_, ?_, ?_, ?_, ?_, ?_⟩ <;> assumption) | go_keep) (first
              | (go_at_call 8; refine Calls.mono (QR.out _ (by assumption)) ?_; rintro e w5 ⟨rfl, hb5⟩; have hb5o := own_step (w := wr) (cs := #[.int .i64 kd4, .string U4, .int .i64 n4, .int .i64 m4, .int .i64 a4, .int .i64 p3, .string V4, .slice ad4 ks4.length cap4]) (ty := 24) (by assumption) hb5; have g0 := HGA.out _ hb5o 0 _ rfl; have g1 := HGA.out _ hb5o 1 _ rfl; have g2 := HGA.out _ hb5o 2 _ rfl; have g3 := HGA.out _ hb5o 3 _ rfl; have g4 := HGA.out _ hb5o 4 _ rfl; have g5 := HGA.out _ hb5o 5 _ rfl; have g6 := HGA.out _ hb5o 6 _ rfl; have g7 := HGA.out _ hb5o 7 _ rfl; have v0 := own_cells hb5o 0 _ rfl; have v1 := own_cells hb5o 1 _ rfl; have v2 := own_cells hb5o 2 _ rfl; have v3 := own_cells hb5o 3 _ rfl; have v4 := own_cells hb5o 4 _ rfl; have v5 := own_cells hb5o 5 _ rfl; have v6 := own_cells hb5o 6 _ rfl; have v7 := own_cells hb5o 7 _ rfl; have HB5 : Hid (Below w4.heap.size w4 w5) := HBn.out.trans (hb5o.mono HBn.out.size); clear hb5)
              )
            all_goals
              go_wp2
              go_roundw
              case rel => first | exact ⟨k + 1, i + 1, by go_num, by go_num, by omega, by omega, by omega, HI2, HB5⟩ | ((repeat apply Exists.intro); exact ⟨⟨k + 1, i + 1, by go_num, by go_num, by omega, by omega, by omega, HI2, HB5⟩, rfl⟩)
              case measure => simp [intOf]; omega
          · have e1 : (kd4 == x1) = false := by simpa using hkk
            have HI2 : Hid (i = ((kids.take (k + 1)).filter fun k => k.kind == x1).length) := by show _ = _; rw [hfm, if_neg (by simp [Tn.kind, e1])]; exact HI.out
            have HBn : Hid (Below w4.heap.size w4 (wr.alloc (.cells #[.int .i64 kd4, .string (strOfNums tx4), .int .i64 n4, .int .i64 m4, .int .i64 a4, .int .i64 pp, .string (strOfNums dc4), .slice ad4 ks4.length cap4] 24))) := HBw.out.alloc HBw.out.size _
            generalize strOfNums tx4 = U4 at c1 HBn
            generalize strOfNums dc4 = V4 at c6 HBn
            clear hkk hfm hkid hc HI
            go_wp2
            go_roundw
            case rel => first | exact ⟨k + 1, i, rfl, by go_num, by omega, by omega, by omega, HI2, HBn⟩ | ((repeat apply Exists.intro); exact ⟨⟨k + 1, i, rfl, by go_num, by omega, by omega, by omega, HI2, HBn⟩, rfl⟩)
            case measure => simp [intOf]; omega
        · obtain rfl : k = kids.length := by omega
          have hie : i = us.length := by rw [HI.out, HLn.out, List.take_length]
          subst hie
          have heq : ((us.length : Int) == (us.length : Int)) = true := by simp
          clear HI
          go_wp2
          go_ret
          exact ⟨by first | rfl | simp, HB4.out.trans (HBw.out.mono HB4.out.size)⟩
  · have hf' : tfew t0 = false := by simpa using hf
    rw [hf'] at qf
    obtain ⟨kind, text, n, m, a, pos, doc, ad, cap, kids⟩ := t0
    show Calls Tryz.prog 3 #[.agg #[.int .i64 kind, .string (strOfNums text), .int .i64 n, .int .i64 m, .int .i64 a, .int .i64 pos, .string (strOfNums doc), .slice ad kids.length cap], .int .i64 x1] w _
    change ∀ V, Below w.heap.size w V → Calls Tryz.prog 5 #[.agg #[.int .i64 kind, .string (strOfNums text), .int .i64 n, .int .i64 m, .int .i64 a, .int .i64 pos, .string (strOfNums doc), .slice ad kids.length cap]] V (fun e W' => e = .returned (.bool false) ∧ Below V.heap.size V W') at qf
    generalize strOfNums text = T1 at qf ⊢
    generalize strOfNums doc = T2 at qf ⊢
    have HBA : Hid (Below w.heap.size w (w.alloc (.cells #[.int .i64 kind, .string T1, .int .i64 n, .int .i64 m, .int .i64 a, .int .i64 pos, .string T2, .slice ad kids.length cap] 24))) := (Below.refl _ _).alloc (Nat.le_refl _) _
    have QF : Hid _ := qf
    clear qf hn0 hf hf'
    go_enter Tryz.func3, Tryz.ntmps3
    go_wp2_with fail
    refine (tawake_any _ (hT.out.below HBA.out (Nat.le_refl _))).mono ?_
    rintro e w1 ⟨rfl, hb1⟩
    have x0 := own_cells hb1 0 _ rfl
    have x1 := own_cells hb1 1 _ rfl
    have x2 := own_cells hb1 2 _ rfl
    have x3 := own_cells hb1 3 _ rfl
    have x4 := own_cells hb1 4 _ rfl
    have x5 := own_cells hb1 5 _ rfl
    have x6 := own_cells hb1 6 _ rfl
    have x7 := own_cells hb1 7 _ rfl
    have HB1 : Hid (Below w.heap.size w w1) := HBA.out.trans (hb1.mono HBA.out.size)
    have HC1 : Hid (Below (w.alloc (.cells #[.int .i64 kind, .string T1, .int .i64 n, .int .i64 m, .int .i64 a, .int .i64 pos, .string T2, .slice ad kids.length cap] 24)).heap.size (w.alloc (.cells #[.int .i64 kind, .string T1, .int .i64 n, .int .i64 m, .int .i64 a, .int .i64 pos, .string T2, .slice ad kids.length cap] 24)) w1) := hb1
    clear hb1
    go_wp2_with fail
    refine Calls.mono (QF.out _ HB1.out) ?_
    rintro e w2 ⟨rfl, hb2⟩
    have HB2 : Hid (Below w.heap.size w w2) := HB1.out.trans (hb2.mono HB1.out.size)
    have HC2 : Hid (Below (w.alloc (.cells #[.int .i64 kind, .string T1, .int .i64 n, .int .i64 m, .int .i64 a, .int .i64 pos, .string T2, .slice ad kids.length cap] 24)).heap.size (w.alloc (.cells #[.int .i64 kind, .string T1, .int .i64 n, .int .i64 m, .int .i64 a, .int .i64 pos, .string T2, .slice ad kids.length cap] 24)) w2) := HC1.out.trans (hb2.mono HC1.out.size)
    clear hb2 x0 x1 x2 x3 x4 x5 x6 x7
    go_wp2
    go_ret
    exact ⟨by first | rfl | simp, HB2.out⟩

theorem contract (H : Type) (enc : TypeId × Value → H) (W : World) (base : Nat) (args : Array Value) (ds gs : List (DataW H)) (before : List MemPlace)
    (hval0 : ∀ (j : Nat) t v, Tryz.f3.params[j]? = some t → args[j]? = some v → Value.okWide Tryz.prog W .any base t v)
    (hW : DataW.Whole enc Tryz.prog Tryz.f3.params.toList Rows.nodeOfSpec.vars false W args.toList ds gs before) (hL : laidMetH Tryz.prog Rows.nodeOfRow.laid W) (hsh : W.ShapedOpen Tryz.prog) :
    Calls Tryz.prog 3 args W fun e W' => ∃ v, e = .returned v ∧ Rows.nodeOfSpec.post enc Tryz.prog Tryz.f3 false true false false W args v W' := by
  have hval : ∀ (j : Nat) t v, Tryz.f3.params[j]? = some t → args[j]? = some v → Value.okWide Tryz.prog W .any base t v := hval0
  have hW' := hW
  obtain ⟨p, q, hA0, hV, rfl, hfz, hnd⟩ := hW
  have hA : DataW.TrodAll enc Tryz.prog W 0 (fun _ => true) true Tryz.f3.params.toList args.toList ds p := hA0
  rw [Tryz.params3] at hA hval
  obtain ⟨v0, vs0, d0, ds0, p0, q0, hargs, rfl, rfl, h0, r0⟩ := trodAll_cons hA
  obtain ⟨v1, vs1, d1, ds1, p1, q1, rfl, rfl, rfl, h1, r1⟩ := trodAll_cons r0
  obtain ⟨rfl, rfl, rfl⟩ := trodAll_nil r1
  obtain rfl : args = #[v0, v1] := by cases args; simp_all
  obtain ⟨rfl, rfl⟩ := trodVars_none hV
  have lt0 : ∀ x ∈ p0, x.block < W.heap.size := by obtain ⟨m, hm⟩ := h0; exact DataW.trod_lt m _ _ _ hm
  obtain ⟨t0, rfl, w0⟩ := node_arg (hval 0 24 v0 rfl rfl) h0
  obtain ⟨x1, rfl, rfl, rfl, w1⟩ := open_int Tryz.underlying3 (hval 1 3 v1 rfl rfl) h1
  clear hA0 hval0
  refine (walk t0 x1 W (table hL hsh) w0 (bounds_i64 w1)).mono fun e W' ⟨he, bel⟩ => ?_
  subst he
  exact ⟨_, rfl, _, _, _, [], _, [], hW', trodAll_mk1 (shut_bool Tryz.underlying4 _), (trodAll_cons_mk (Below.trod laidOut (by kernel_rfl) (of_decide_eq_true (by kernel_rfl)) h0 bel lt0) (trodAll_cons_mk (shut_int Tryz.underlying3 w1) trodAll_mk0)), rfl, bel.frame _, fun h => by cases h⟩

theorem laid_met (os : Os) : laidMet Tryz.prog Rows.nodeOfRow.laid ((laidWorld os).forCall (fun _ _ => 0) ⟨#[], #[.agg #[.int .i64 0, .string ByteArray.empty, .int .i64 0, .int .i64 0, .int .i64 0, .int .i64 0, .string ByteArray.empty, .slice none 0 0], .int .i64 0], []⟩).memory :=
  laidMet_of_run' 8 (by kernel_rfl) (by kernel_rfl)

theorem reads (os : Os) {H : Type} (enc : TypeId × Value → H) : ∃ places, DataW.whole enc Tryz.prog ((laidWorld os).forCall (fun _ _ => 0) ⟨#[], #[.agg #[.int .i64 0, .string ByteArray.empty, .int .i64 0, .int .i64 0, .int .i64 0, .int .i64 0, .string ByteArray.empty, .slice none 0 0], .int .i64 0], []⟩).memory Tryz.f3.params.toList Rows.nodeOfSpec.vars false (#[.agg #[.int .i64 0, .string ByteArray.empty, .int .i64 0, .int .i64 0, .int .i64 0, .int .i64 0, .string ByteArray.empty, .slice none 0 0], .int .i64 0] : Array Value).toList 8 = some ([.agg [.lit (.int .i64 0), .lit (.string []), .lit (.int .i64 0), .lit (.int .i64 0), .lit (.int .i64 0), .lit (.int .i64 0), .lit (.string []), .nil], .lit (.int .i64 0)], [], places) :=
  ⟨[], by kernel_rfl⟩

set_option maxRecDepth 100000 in
theorem lifted (os : Os) (started : os.Started) (H : Type) (enc : TypeId × Value → H) (F : Stop.Interp) :
    ReturnsInHanded {} Tryz.checked os 3 .any ((OpenSpec.ofChange Rows.nodeOfSpec).preRow enc Tryz.prog Tryz.f3 Rows.nodeOfRow.domain false Rows.nodeOfRow.laid) (((OpenSpec.ofChange Rows.nodeOfSpec).at F).post enc Tryz.prog Tryz.f3 false true false false) := by
  obtain ⟨places, hx⟩ := reads os enc
  refine returnsInHanded_of_row (C := Tryz.checked) (s := OpenSpec.ofChange Rows.nodeOfSpec) own started (by kernel_rfl) Tryz.func3
    (witness_row_at (enc := enc) (C := Tryz.checked) false (laidWorld os) #[.agg #[.int .i64 0, .string ByteArray.empty, .int .i64 0, .int .i64 0, .int .i64 0, .int .i64 0, .string ByteArray.empty, .slice none 0 0], .int .i64 0] rfl (by kernel_rfl) (by kernel_rfl) (by kernel_rfl)
      (OpenSpec.preRow_of_cond 8 hx (by kernel_rfl) (fun k hk => by cases hk) (by kernel_rfl) (laid_met os))) ?_
  intro W base args ds gs before hval hW _ _ _ hL hsh _
  exact contract H enc W base args ds gs before hval hW hL hsh

theorem said : Rows.NodeOfSaid :=
  OpenClaim.holds_of_cond 3 Tryz.f3 rfl rfl rfl rfl rfl rfl rfl ⟨rfl, rfl, rfl, rfl, rfl⟩ rfl rfl rfl rfl rfl (by kernel_rfl) Tryz.func3 (by kernel_rfl)
    (of_decide_eq_true (by kernel_rfl)) (by unfold Func.isWrapper; first | (rw [if_pos (by decide +kernel)]; kernel_rfl) | (rw [if_neg (by decide +kernel)]; exact ⟨rfl, rfl⟩))
    (fun os started H enc _ F => by rw [OpenClaim.pre_eq_preRow]; exact lifted os started H enc F)

/-- No parameter wants a stand-in; the program's own looks are off: what the card asks. -/
theorem plain (f : FuncId) (fn : Func) (hf : Tryz.pinned.checked.prog.funcNamed "glossary/glossarylaw07.NodeOf" = some f) (hfn : Tryz.pinned.checked.prog.funcs[f]? = some fn) :
    false = Tryz.pinned.checked.prog.looks [] ∧ ∀ (j : Nat) t, fn.params[j]? = some t → Tryz.pinned.checked.prog.wantsStandIn t = false := by
  obtain rfl : f = 3 := Option.some.inj ((show Tryz.prog.funcNamed "glossary/glossarylaw07.NodeOf" = some 3 by kernel_rfl).symm.trans hf) |>.symm
  obtain rfl : fn = Tryz.f3 := (Option.some.inj (Tryz.func3.symm.trans hfn)).symm
  refine ⟨by kernel_rfl, fun j t ht => ?_⟩
  rw [Tryz.params3] at ht
  have hm := Array.mem_of_getElem? ht
  simp only [List.mem_toArray, List.mem_cons, List.not_mem_nil, or_false] at hm
  rcases hm with rfl | rfl
  · exact (show Tryz.prog.wantsStandIn 24 = false by kernel_rfl)
  · exact (show Tryz.prog.wantsStandIn 3 = false by kernel_rfl)

end Go.Proofs.YtmoeibhenihhfaaGreatDoor.nodeOf
namespace Go.Proofs.YtmoeibhenihhfaaGreatDoor
theorem nodeOf_holds : Rows.NodeOfCardSaid :=
  Claim7.holds_tied_plain_at .later [] _ _ _ _ nodeOf.said (fun _ h => by cases h) (by kernel_rfl) (fun _ h => by cases h) nodeOf_row_tie rfl ⟨rfl, rfl⟩ (by kernel_rfl) rfl nodeOf.plain (by kernel_rfl)
#print axioms nodeOf_holds
end Go.Proofs.YtmoeibhenihhfaaGreatDoor
