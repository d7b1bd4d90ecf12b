/- Put together by a program out of these texts of mine: XFld, XFl2. -/
import Derived.Deep.RegionWith
import Derived.OrdersHeld
import Derived.Test.YtlekfcehmlepkaaGreatDoorBunL19
import Derived.Test.YtlekfcehmlepkaaGreatDoorBunL34

namespace Go.Proofs.YtlekfcehmlepkaaGreatDoor
open Go.RowKit
set_option linter.unusedVariables false
set_option linter.unusedSimpArgs false

def tT (ad : Option Addr) (c : Nat) : Tn := .mk 18 [105, 110, 116, 51, 50] 0 0 0 21 [] ad c []

def tF (ad : Option Addr) (c : Nat) (k : Tn) : Tn := .mk 9 [98] 1 0 1 12 [] ad c [k]

def tM (ad : Option Addr) (c : Nat) (k : Tn) : Tn := .mk 5 [65] 0 0 0 0 [] ad c [k]

def tA (ad : Option Addr) (c : Nat) (k : Tn) : Tn := .mk 1 [] 0 0 0 0 [] ad c [k]

set_option maxRecDepth 10000 in
set_option maxHeartbeats 1000000 in
theorem ptypeOf_a (ad : Option Addr) (c : Nat) (W : World) (hT : Hid (LoTab W)) :
    Calls Tryz.prog 167 #[(tT ad c).val] W fun e W' => e = .returned (.tuple #[.int .i64 5, .string ⟨#[]⟩]) ∧ Below W.heap.size W W' := by
  unfold tT Tn.val Tn.cells
  have HB : Hid (Below W.heap.size W (W.alloc (.cells #[.int .i64 18, .string (strOfNums [105, 110, 116, 51, 50]), .int .i64 0, .int .i64 0, .int .i64 0, .int .i64 21, .string (strOfNums []), .slice ad 0 c] 28))) := (Below.refl _ _).alloc (Nat.le_refl _) _
  have Q : Hid _ := ptype_any [105, 110, 116, 51, 50] (W.alloc (.cells #[.int .i64 18, .string (strOfNums [105, 110, 116, 51, 50]), .int .i64 0, .int .i64 0, .int .i64 0, .int .i64 21, .string (strOfNums []), .slice ad 0 c] 28)) (show Hid _ from hT.out.below HB.out (Nat.le_refl _)) (by show byts _; unfold byts; decide)
  rw [show (nword [105, 110, 116, 51, 50] : Int) = 5 from rfl] at Q
  simp only [List.length_nil] at *
  generalize strOfNums [105, 110, 116, 51, 50] = X at *
  generalize strOfNums [] = D at *
  go_enter Tryz.func167, Tryz.ntmps167
  go_wp2_with fail
  refine Calls.mono Q.out ?_
  rintro e w1 ⟨rfl, rfl⟩
  go_wp2
  go_ret2
  exact ⟨rfl, HB.out⟩

set_option maxRecDepth 10000 in
set_option maxHeartbeats 1000000 in
theorem plabel_a (p : Value) (ad : Option Addr) (c : Nat) (k : Tn) (W : World) (b : Bool) :
    Calls Tryz.prog 166 #[p, (tF ad c k).val, .bool b] W fun e W' => e = .returned (.int .i64 1) ∧ Below W.heap.size W W' := by
  unfold tF Tn.val Tn.cells
  simp only [List.length_cons, List.length_nil, Nat.zero_add]
  generalize strOfNums [98] = X
  generalize strOfNums [] = D
  have HB : Hid (Below W.heap.size W (W.alloc (.cells #[.int .i64 9, .string X, .int .i64 1, .int .i64 0, .int .i64 1, .int .i64 12, .string D, .slice ad 1 c] 28))) := (Below.refl _ _).alloc (Nat.le_refl _) _
  go_enter Tryz.func166, Tryz.ntmps166
  go_wp2
  go_ret
  exact ⟨rfl, HB.out⟩

theorem nos_nil {w : World} {base : Nat} {v : Value} (h : Nos w base v []) : ∃ a c, v = .slice a 0 c := by
  rcases h.2 with ⟨rfl, _⟩ | ⟨g, c, cur, rfl, _⟩
  · exact ⟨none, 0, rfl⟩
  · exact ⟨_, c, rfl⟩

theorem tlikes_nil : ∀ {us : List Tn}, tlikes us [] → us = []
  | [], _ => rfl
  | _ :: _, h => h.elim

theorem pof_none {w : World} {t : Tn} (h : TnOk w t) (hf : tfew t = true) (hd : tdeep t ≤ 64) (kind : Int) (hk : i64b kind) (hno : t.kids.filter (fun k => k.kind == kind) = []) (W : World) (hT : Hid (LoTab W)) (hB : Below w.heap.size w W) :
    Calls Tryz.prog 127 #[t.val, .int .i64 kind] W fun e W' => ∃ a c, e = .returned (.slice a 0 c) ∧ Below W.heap.size W W' := by
  refine Calls.mono (pof_any h hf hd kind hk W (show Hid _ from hT.out.1) hB) ?_
  rintro e W' ⟨v, us, rfl, h1, _, h2, h3⟩
  rw [hno] at h2
  obtain rfl := tlikes_nil h2
  obtain ⟨a, c, rfl⟩ := nos_nil h1
  exact ⟨a, c, rfl, h3⟩

def fA (type : Int) (json : ByteArray) : Array Value := #[.string (strOfNums [98]), .int .i64 1, .int .i64 1, .int .i64 type, .string ⟨#[]⟩, .string ⟨#[]⟩, .string ⟨#[]⟩, .bool false, .int .i64 0, .string json, .bool false, .slice none 0 0, .slice none 0 0]

structure Ob (w : World) (b : Nat) (c : Array Value) (T : TypeId) : Prop where
  eq : w.heap[b]? = some (.cells c T (0, 0))

theorem Ob.new (w : World) (c : Array Value) (T : TypeId) : Ob (w.alloc (.cells c T)) w.heap.size c T := ⟨heap_alloc_new w _⟩

theorem Ob.lt {w : World} {b : Nat} {c : Array Value} {T : TypeId} (h : Ob w b c T) : b < w.heap.size := (Array.getElem?_eq_some_iff.1 h.eq).1

theorem Ob.below {w w' : World} {b B : Nat} {c : Array Value} {T : TypeId} (h : Ob w b c T) (hb : Below B w w') (hB : b < B) : Ob w' b c T := ⟨(hb.block b hB).trans h.eq⟩

theorem Ob.alloc {w : World} {b : Nat} {c : Array Value} {T : TypeId} (h : Ob w b c T) (o : Obj) : Ob (w.alloc o) b c T := ⟨(Below.heap_alloc w o b h.lt).trans h.eq⟩

theorem Ob.set {w : World} {b : Nat} {c : Array Value} {T : TypeId} (h : Ob w b c T) (j : Nat) (v : Value) : Ob (w.setCell ⟨b, j, none⟩ v) b (c.setIfInBounds j v) T := by
  constructor
  rw [setCell_eq_setRow w b j c T (0, 0) v h.eq]
  exact setRow_heap w b c _ T _ h.eq

theorem Ob.other {w : World} {b : Nat} {c : Array Value} {T : TypeId} (h : Ob w b c T) {b' : Nat} (hne : b ≠ b') (j : Nat) (v : Value) : Ob (w.setCell ⟨b', j, none⟩ v) b c T := ⟨(heap_setCell_other _ _ _ _ (by simpa using hne)).trans h.eq⟩

theorem Ob.cell {w : World} {b : Nat} {c : Array Value} {T : TypeId} (h : Ob w b c T) (j : Nat) {v : Value} (hv : c[j]? = some v) : w.cell? ⟨b, j, none⟩ = some v := by
  simp [World.cell?, h.eq]
  simpa using hv

theorem Ob.frozen {w : World} {b : Nat} {c : Array Value} {T : TypeId} (h : Ob w b c T) (j : Nat) : w.frozen? ⟨b, j, none⟩ = false := by
  simp [World.frozen?, h.eq]

theorem ob8 {w : World} {b : Nat} {T : TypeId} {x0 x1 x2 x3 x4 x5 x6 x7 : Value} (h : Ob w b #[x0, x1, x2, x3, x4, x5, x6, x7] T) :
    (w.cell? ⟨b, 0, none⟩ = some x0 ∧ w.cell? ⟨b, 1, none⟩ = some x1 ∧ w.cell? ⟨b, 2, none⟩ = some x2 ∧ w.cell? ⟨b, 3, none⟩ = some x3 ∧ w.cell? ⟨b, 4, none⟩ = some x4 ∧ w.cell? ⟨b, 5, none⟩ = some x5 ∧ w.cell? ⟨b, 6, none⟩ = some x6 ∧ w.cell? ⟨b, 7, none⟩ = some x7) ∧ (w.frozen? ⟨b, 0, none⟩ = false ∧ w.frozen? ⟨b, 1, none⟩ = false ∧ w.frozen? ⟨b, 2, none⟩ = false ∧ w.frozen? ⟨b, 3, none⟩ = false ∧ w.frozen? ⟨b, 4, none⟩ = false ∧ w.frozen? ⟨b, 5, none⟩ = false ∧ w.frozen? ⟨b, 6, none⟩ = false ∧ w.frozen? ⟨b, 7, none⟩ = false) ∧ b < w.heap.size :=
  ⟨⟨h.cell 0 rfl, h.cell 1 rfl, h.cell 2 rfl, h.cell 3 rfl, h.cell 4 rfl, h.cell 5 rfl, h.cell 6 rfl, h.cell 7 rfl⟩, ⟨h.frozen 0, h.frozen 1, h.frozen 2, h.frozen 3, h.frozen 4, h.frozen 5, h.frozen 6, h.frozen 7⟩, h.lt⟩

theorem ob13 {w : World} {b : Nat} {T : TypeId} {x0 x1 x2 x3 x4 x5 x6 x7 x8 x9 x10 x11 x12 : Value} (h : Ob w b #[x0, x1, x2, x3, x4, x5, x6, x7, x8, x9, x10, x11, x12] T) :
    (w.cell? ⟨b, 0, none⟩ = some x0 ∧ w.cell? ⟨b, 1, none⟩ = some x1 ∧ w.cell? ⟨b, 2, none⟩ = some x2 ∧ w.cell? ⟨b, 3, none⟩ = some x3 ∧ w.cell? ⟨b, 4, none⟩ = some x4 ∧ w.cell? ⟨b, 5, none⟩ = some x5 ∧ w.cell? ⟨b, 6, none⟩ = some x6 ∧ w.cell? ⟨b, 7, none⟩ = some x7 ∧ w.cell? ⟨b, 8, none⟩ = some x8 ∧ w.cell? ⟨b, 9, none⟩ = some x9 ∧ w.cell? ⟨b, 10, none⟩ = some x10 ∧ w.cell? ⟨b, 11, none⟩ = some x11 ∧ w.cell? ⟨b, 12, none⟩ = some x12) ∧ (w.frozen? ⟨b, 0, none⟩ = false ∧ w.frozen? ⟨b, 1, none⟩ = false ∧ w.frozen? ⟨b, 2, none⟩ = false ∧ w.frozen? ⟨b, 3, none⟩ = false ∧ w.frozen? ⟨b, 4, none⟩ = false ∧ w.frozen? ⟨b, 5, none⟩ = false ∧ w.frozen? ⟨b, 6, none⟩ = false ∧ w.frozen? ⟨b, 7, none⟩ = false ∧ w.frozen? ⟨b, 8, none⟩ = false ∧ w.frozen? ⟨b, 9, none⟩ = false ∧ w.frozen? ⟨b, 10, none⟩ = false ∧ w.frozen? ⟨b, 11, none⟩ = false ∧ w.frozen? ⟨b, 12, none⟩ = false) ∧ b < w.heap.size :=
  ⟨⟨h.cell 0 rfl, h.cell 1 rfl, h.cell 2 rfl, h.cell 3 rfl, h.cell 4 rfl, h.cell 5 rfl, h.cell 6 rfl, h.cell 7 rfl, h.cell 8 rfl, h.cell 9 rfl, h.cell 10 rfl, h.cell 11 rfl, h.cell 12 rfl⟩, ⟨h.frozen 0, h.frozen 1, h.frozen 2, h.frozen 3, h.frozen 4, h.frozen 5, h.frozen 6, h.frozen 7, h.frozen 8, h.frozen 9, h.frozen 10, h.frozen 11, h.frozen 12⟩, h.lt⟩

theorem Tryz.sizeField2 : (Tryz.prog.info? 53).map (·.size) = some 13 := by kernel_rfl

theorem fld_ret {fn : Func} {R : Ending → World → Prop} {a : Act} {w : World} {p : Tmp} (h : fn.results = #[.cell p 53]) (gb : Nat) (cs : Array Value) (hs : cs.size = 13) (hp : a.tmps.getD p undef = .pointer (some ⟨gb, 0, none⟩)) (hg : Ob w gb cs 53) (hd : a.defers = []) (hR : R (.returned (.agg cs)) w) : bodyPost Tryz.prog fn R .ret a w := by
  refine bodyPost_ret (v := .agg cs) ?_ hd hR
  have hp' : a.tmps[p]?.getD undef = .pointer (some ⟨gb, 0, none⟩) := by simpa using hp
  have hl := run_loadVar_row (P := Tryz.prog) w gb 53 53 cs (0, 0) _ hg.eq Tryz.underlying53 rfl (Tryz.sizeField2.trans (by rw [hs]))
  simp [results, h, hp', asAddr, hl]

def f0 : Array Value := #[.string ⟨#[]⟩, .int .i64 0, .int .i64 0, .int .i64 0, .string ⟨#[]⟩, .string ⟨#[]⟩, .string ⟨#[]⟩, .bool false, .int .i64 0, .string ⟨#[]⟩, .bool false, .slice none 0 0, .slice none 0 0]

set_option maxRecDepth 20000 in
set_option maxHeartbeats 4000000 in
theorem popt_a {w : World} {ad : Option Addr} {c : Nat} {k : Tn} (h : TnOk w (tF ad c k)) (hf : tfew (tF ad c k) = true) (hd : tdeep (tF ad c k) ≤ 64) (hk : k.kind = 18) (W : World) (hT : Hid (LoTab W)) (hB : Below w.heap.size w W) (pl ps : Value) :
    Calls Tryz.prog 168 #[pl, (tF ad c k).val, .agg (fA 5 ⟨#[]⟩), ps] W fun e W' => e = .returned (.agg (fA 5 (strOfNums [98]))) ∧ Below W.heap.size W W' := by
  obtain ⟨w3, hw3⟩ : ∃ w3, w3 = ((W.alloc (.cells #[.int .i64 9, .string (strOfNums [98]), .int .i64 1, .int .i64 0, .int .i64 1, .int .i64 12, .string (strOfNums []), .slice ad 1 c] 28)).alloc (.cells (fA 5 ⟨#[]⟩) 53)).alloc (.cells f0 53) := ⟨_, rfl⟩
  have o0 : Ob w3 W.heap.size #[.int .i64 9, .string (strOfNums [98]), .int .i64 1, .int .i64 0, .int .i64 1, .int .i64 12, .string (strOfNums []), .slice ad 1 c] 28 := by rw [hw3]; exact ((Ob.new W _ _).alloc _).alloc _
  have o1 : Ob w3 (W.heap.size + 1) (fA 5 ⟨#[]⟩) 53 := by
    rw [hw3]
    have := (Ob.new (W.alloc (.cells #[.int .i64 9, .string (strOfNums [98]), .int .i64 1, .int .i64 0, .int .i64 1, .int .i64 12, .string (strOfNums []), .slice ad 1 c] 28)) (fA 5 ⟨#[]⟩) 53).alloc (.cells f0 53)
    simpa using this
  have o2 : Ob w3 (W.heap.size + 1 + 1) f0 53 := by
    rw [hw3]
    have := Ob.new ((W.alloc (.cells #[.int .i64 9, .string (strOfNums [98]), .int .i64 1, .int .i64 0, .int .i64 1, .int .i64 12, .string (strOfNums []), .slice ad 1 c] 28)).alloc (.cells (fA 5 ⟨#[]⟩) 53)) f0 53
    simpa using this
  have hb3 : Below W.heap.size W w3 := by rw [hw3]; exact (((Below.refl _ W).alloc (Nat.le_refl _) _).alloc (by simp) _).alloc (by simp; omega) _
  have QJ : Hid _ := pjson_any [98] w3 (show Hid (NTab w3) from trivial) (show Hid _ from by intro i; cases i with | zero => decide | succ i => simp [List.getD]) (by decide)
  rw [show ncam false [98] = [98] from by kernel_rfl] at QJ
  have QO : Hid (∀ V, Below W.heap.size W V → Calls Tryz.prog 127 #[(tF ad c k).val, .int .i64 4] V fun e W' => ∃ a c, e = .returned (.slice a 0 c) ∧ Below V.heap.size V W') := fun V hV => pof_none h hf hd 4 (by unfold i64b; omega) (by simp [tF, Tn.kids, hk]) V (show Hid _ from hT.out.below hV (Nat.le_refl _)) (hB.trans (hV.mono hB.size))
  unfold tF Tn.val Tn.cells at QO ⊢
  simp only [List.length_cons, List.length_nil, Nat.zero_add] at QO ⊢
  simp only [fA, f0] at hw3 o1 o2 ⊢
  generalize strOfNums [98] = X at *
  generalize strOfNums [] = D at *
  have O0 : Hid _ := o0
  have O1 : Hid _ := o1
  have O2 : Hid _ := o2
  have HB3 : Hid _ := hb3
  have hl1 : W.heap.size < w3.heap.size := o0.lt
  have hl2 : W.heap.size + 1 < w3.heap.size := o1.lt
  have HW3 : Hid _ := hw3
  have c05 : w3.cell? ⟨W.heap.size + 1, 5, none⟩ = some (.string ⟨#[]⟩) := o1.cell 5 rfl
  have c01 : w3.cell? ⟨W.heap.size, 1, none⟩ = some (.string X) := o0.cell 1 rfl
  clear o0 o1 o2 hb3 hw3
  go_enter Tryz.func168, Tryz.ntmps168
  go_upto_region 1 with fail
  rw [← HW3.out]
  clear HW3
  go_wp2_with fail
  refine Calls.mono QJ.out ?_
  rintro e w4 ⟨rfl, hb4⟩
  have o0 := O0.out.below hb4 hl1
  have o1 := O1.out.below hb4 hl2
  have o2 := O2.out.below hb4 O2.out.lt
  have HB4 : Hid (Below W.heap.size W w4) := HB3.out.trans (hb4.mono HB3.out.size)
  obtain ⟨w5, hw5⟩ : ∃ w5, w5 = w4.setCell ⟨W.heap.size + 1, 9, none⟩ (.string X) := ⟨_, rfl⟩
  have p0 : Ob w5 W.heap.size #[.int .i64 9, .string X, .int .i64 1, .int .i64 0, .int .i64 1, .int .i64 12, .string D, .slice ad 1 c] 28 := by rw [hw5]; exact o0.other (by omega) _ _
  have p1 : Ob w5 (W.heap.size + 1) #[.string X, .int .i64 1, .int .i64 1, .int .i64 5, .string ⟨#[]⟩, .string ⟨#[]⟩, .string ⟨#[]⟩, .bool false, .int .i64 0, .string X, .bool false, .slice none 0 0, .slice none 0 0] 53 := by rw [hw5]; have := o1.set 9 (.string X); simpa using this
  have p2 : Ob w5 (W.heap.size + 1 + 1) #[.string ⟨#[]⟩, .int .i64 0, .int .i64 0, .int .i64 0, .string ⟨#[]⟩, .string ⟨#[]⟩, .string ⟨#[]⟩, .bool false, .int .i64 0, .string ⟨#[]⟩, .bool false, .slice none 0 0, .slice none 0 0] 53 := by rw [hw5]; exact o2.other (by omega) _ _
  have HB5 : Hid (Below W.heap.size W w5) := by rw [hw5]; exact HB4.out.setCell (p := ⟨W.heap.size + 1, 9, none⟩) (by simp) _
  have s1 : w4.cell? ⟨W.heap.size + 1, 9, none⟩ = some (.string ⟨#[]⟩) := o1.cell 9 rfl
  have s2 : w4.frozen? ⟨W.heap.size + 1, 9, none⟩ = false := o1.frozen 9
  have s3 : W.heap.size + 1 < w4.heap.size := o1.lt
  obtain ⟨⟨a0, a1, a2, a3, a4, a5, a6, a7⟩, _, al⟩ := ob8 p0
  have QO5 : Hid _ := QO.out w5 HB5.out
  have P1 : Hid _ := p1
  have P2 : Hid _ := p2
  have P1l : Hid (W.heap.size + 1 < w5.heap.size) := p1.lt
  have HW5 : Hid _ := hw5
  clear o0 o1 o2 hb4 p0 p1 p2 c05 c01 hl1 hl2 HB3 HB4 O0 O1 O2 QJ QO hw5
  go_upto_region 4 with fail
  rw [← HW5.out]
  clear HW5 s1 s2 s3
  go_wp2_with fail
  refine Calls.mono QO5.out ?_
  rintro e w6 ⟨oa, oc, rfl, hb6⟩
  have q1 := P1.out.below hb6 P1l.out
  have q2 := P2.out.below hb6 P2.out.lt
  have HB6 : Hid (Below W.heap.size W w6) := HB5.out.trans (hb6.mono HB5.out.size)
  obtain ⟨⟨b0, b1, b2, b3, b4, b5, b6, b7, b8, b9, b10, b11, b12⟩, _, bl⟩ := ob13 q1
  obtain ⟨⟨c0, c1, c2, c3, c4, c5, c6, c7, c8, c9, c10, c11, c12⟩, ⟨d0, d1, d2, d3, d4, d5, d6, d7, d8, d9, d10, d11, d12⟩, dl⟩ := ob13 q2
  have Q2 : Hid _ := q2
  clear a0 a1 a2 a3 a4 a5 a6 a7 al q1 q2 hb6 P1 P2 P1l HB5 QO5
  go_wp2
  go_loopw [22] (fun v wr => v = .int .i64 0 ∧ w6 = wr) (fun _ _ => 0)
  case atStart => exact ⟨rfl, rfl⟩
  case round =>
    obtain ⟨rfl, rfl⟩ := hrel
    go_wp2
    refine fld_ret (p := 8) ?_ (W.heap.size + 1 + 1) #[.string X, .int .i64 1, .int .i64 1, .int .i64 5, .string ⟨#[]⟩, .string ⟨#[]⟩, .string ⟨#[]⟩, .bool false, .int .i64 0, .string X, .bool false, .slice none 0 0, .slice none 0 0] rfl ?_ ?_ ?_ ?_
    · rfl
    · rfl
    rotate_left
    · rfl
    rotate_left
    · have := (((((((((((((Q2.out.set 0 (.string X)).set 1 (.int .i64 1)).set 2 (.int .i64 1)).set 3 (.int .i64 5)).set 4 (.string ⟨#[]⟩)).set 5 (.string ⟨#[]⟩)).set 6 (.string ⟨#[]⟩)).set 7 (.bool false)).set 8 (.int .i64 0)).set 9 (.string X)).set 10 (.bool false)).set 11 (.slice none 0 0)).set 12 (.slice none 0 0))
      simpa using this
    · refine ⟨rfl, ?_⟩
      exact (((((((((((((HB6.out.setCell (p := ⟨W.heap.size + 1 + 1, 0, none⟩) (by simp; omega) _).setCell (p := ⟨W.heap.size + 1 + 1, 1, none⟩) (by simp; omega) _).setCell (p := ⟨W.heap.size + 1 + 1, 2, none⟩) (by simp; omega) _).setCell (p := ⟨W.heap.size + 1 + 1, 3, none⟩) (by simp; omega) _).setCell (p := ⟨W.heap.size + 1 + 1, 4, none⟩) (by simp; omega) _).setCell (p := ⟨W.heap.size + 1 + 1, 5, none⟩) (by simp; omega) _).setCell (p := ⟨W.heap.size + 1 + 1, 6, none⟩) (by simp; omega) _).setCell (p := ⟨W.heap.size + 1 + 1, 7, none⟩) (by simp; omega) _).setCell (p := ⟨W.heap.size + 1 + 1, 8, none⟩) (by simp; omega) _).setCell (p := ⟨W.heap.size + 1 + 1, 9, none⟩) (by simp; omega) _).setCell (p := ⟨W.heap.size + 1 + 1, 10, none⟩) (by simp; omega) _).setCell (p := ⟨W.heap.size + 1 + 1, 11, none⟩) (by simp; omega) _).setCell (p := ⟨W.heap.size + 1 + 1, 12, none⟩) (by simp; omega) _)

theorem wp_region_heldD {P : Program} {ops : Array Oper} {Q : Exit → Act → World → Prop} {S : World → Prop} {id : Nat} {a : Act} {w : World} (hm : P.follows .mixedOrders = true) (h : wpAnyH P .any ops Q S ops.size (Array.replicate ops.size false) a w.drew) : (Code.region id ops true).wp P Q a w := wp_region_held hm h

theorem Ob.drew {w : World} {b : Nat} {c : Array Value} {T : TypeId} (h : Ob w b c T) : Ob w.drew b c T := ⟨h.eq⟩

set_option maxRecDepth 20000 in
set_option maxHeartbeats 4000000 in
theorem pfield_a {w : World} {ad : Option Addr} {c : Nat} {ad2 : Option Addr} {c2 : Nat} (h : TnOk w (tF ad c (tT ad2 c2))) (W : World) (hT : Hid (LoTab W)) (hB : Below w.heap.size w W) {g : Nat} {av : Value} (hg : Ob W g #[.bool false, av] 69) (ps : Value) :
    Calls Tryz.prog 130 #[.pointer (some ⟨g, 0, none⟩), (tF ad c (tT ad2 c2)).val, .agg f0, ps] W fun e W' => e = .returned (.agg (fA 5 (strOfNums [98]))) ∧ Below W.heap.size W W' := by
  have hfew : tfew (tF ad c (tT ad2 c2)) = true := by rfl
  have hdeep : tdeep (tF ad c (tT ad2 c2)) ≤ 64 := of_decide_eq_true (by rfl)
  have QP : Hid (∀ V, Below W.heap.size W V → Calls Tryz.prog 168 #[.pointer (some ⟨g, 0, none⟩), (tF ad c (tT ad2 c2)).val, .agg (fA 5 ⟨#[]⟩), ps] V fun e W' => e = .returned (.agg (fA 5 (strOfNums [98]))) ∧ Below V.heap.size V W') := fun V hV => popt_a h hfew hdeep rfl V (show Hid _ from hT.out.below hV (Nat.le_refl _)) (hB.trans (hV.mono hB.size)) _ _
  have QL : Hid (∀ V, Calls Tryz.prog 166 #[.pointer (some ⟨g, 0, none⟩), (tF ad c (tT ad2 c2)).val, .bool false] V fun e W' => e = .returned (.int .i64 1) ∧ Below V.heap.size V W') := fun V => plabel_a _ _ _ _ V false
  have QT : Hid (∀ V, Below W.heap.size W V → Calls Tryz.prog 167 #[(tT ad2 c2).val] V fun e W' => e = .returned (.tuple #[.int .i64 5, .string ⟨#[]⟩]) ∧ Below V.heap.size V W') := fun V hV => ptypeOf_a ad2 c2 V (show Hid _ from hT.out.below hV (Nat.le_refl _))
  have QC : Hid (∀ V, Calls Tryz.prog 19 #[.string (strOfNums [98])] V fun e W' => e = .returned (.string (strOfNums [98])) ∧ Below V.heap.size V W') := fun V => pnclone_any _ V (by rw [strOfNums_size]; decide)
  obtain ⟨kb, ko, rfl, hkl, hkc⟩ : ∃ kb ko, ad = some ⟨kb, ko, none⟩ ∧ kb < w.heap.size ∧ ∀ (j : Nat) (u : Value), (tT ad2 c2).cells[j]? = some u → w.cell? ⟨kb, ko + j, none⟩ = some u := by
    unfold tF at h
    cases h with
    | mk _ _ _ _ _ _ _ _ _ _ _ _ hmem _ =>
      obtain ⟨b, off, rfl, h1, h2⟩ := hmem (by simp)
      exact ⟨b, off, rfl, h1, fun j u hj => by simpa using h2 0 _ rfl j u hj⟩
  have HK : Hid (∀ V, Below W.heap.size W V → ∀ (j : Nat) (u : Value), (tT ad2 c2).cells[j]? = some u → V.cell? ⟨kb, ko + j, none⟩ = some u) := fun V hV j u hj => ((hB.trans (hV.mono hB.size)).cell hkl).trans (hkc j u hj)
  have HKL : Hid (kb < W.heap.size) := Nat.lt_of_lt_of_le hkl hB.size
  have HG : Hid (Ob W g #[.bool false, av] 69) := hg
  unfold tF tT Tn.val Tn.cells at QP QL
  unfold tT Tn.val Tn.cells at QT
  unfold tT Tn.cells at HK
  unfold tF tT Tn.val Tn.cells
  simp only [List.length_cons, List.length_nil, Nat.zero_add, fA, f0] at QP QL QT HK ⊢
  generalize strOfNums [98] = X at *
  generalize strOfNums [105, 110, 116, 51, 50] = Y at *
  generalize strOfNums [] = D at *
  clear h hfew hdeep hB hkl hkc hg hT
  obtain ⟨w3, hw3⟩ : ∃ w3, w3 = ((W.alloc (.cells #[.int .i64 9, .string X, .int .i64 1, .int .i64 0, .int .i64 1, .int .i64 12, .string D, .slice (some ⟨kb, ko, none⟩) 1 c] 28)).alloc (.cells #[.string ⟨#[]⟩, .int .i64 0, .int .i64 0, .int .i64 0, .string ⟨#[]⟩, .string ⟨#[]⟩, .string ⟨#[]⟩, .bool false, .int .i64 0, .string ⟨#[]⟩, .bool false, .slice none 0 0, .slice none 0 0] 53)).alloc (.cells #[.string ⟨#[]⟩, .int .i64 0, .int .i64 0, .int .i64 0, .string ⟨#[]⟩, .string ⟨#[]⟩, .string ⟨#[]⟩, .bool false, .int .i64 0, .string ⟨#[]⟩, .bool false, .slice none 0 0, .slice none 0 0] 53) := ⟨_, rfl⟩
  have o0 : Ob w3 W.heap.size #[.int .i64 9, .string X, .int .i64 1, .int .i64 0, .int .i64 1, .int .i64 12, .string D, .slice (some ⟨kb, ko, none⟩) 1 c] 28 := by rw [hw3]; exact ((Ob.new W _ _).alloc _).alloc _
  have o1 : Ob w3 (W.heap.size + 1) #[.string ⟨#[]⟩, .int .i64 0, .int .i64 0, .int .i64 0, .string ⟨#[]⟩, .string ⟨#[]⟩, .string ⟨#[]⟩, .bool false, .int .i64 0, .string ⟨#[]⟩, .bool false, .slice none 0 0, .slice none 0 0] 53 := by
    rw [hw3]
    have := (Ob.new (W.alloc (.cells #[.int .i64 9, .string X, .int .i64 1, .int .i64 0, .int .i64 1, .int .i64 12, .string D, .slice (some ⟨kb, ko, none⟩) 1 c] 28)) #[.string ⟨#[]⟩, .int .i64 0, .int .i64 0, .int .i64 0, .string ⟨#[]⟩, .string ⟨#[]⟩, .string ⟨#[]⟩, .bool false, .int .i64 0, .string ⟨#[]⟩, .bool false, .slice none 0 0, .slice none 0 0] 53).alloc (.cells #[.string ⟨#[]⟩, .int .i64 0, .int .i64 0, .int .i64 0, .string ⟨#[]⟩, .string ⟨#[]⟩, .string ⟨#[]⟩, .bool false, .int .i64 0, .string ⟨#[]⟩, .bool false, .slice none 0 0, .slice none 0 0] 53)
    simpa using this
  have o2 : Ob w3 (W.heap.size + 1 + 1) #[.string ⟨#[]⟩, .int .i64 0, .int .i64 0, .int .i64 0, .string ⟨#[]⟩, .string ⟨#[]⟩, .string ⟨#[]⟩, .bool false, .int .i64 0, .string ⟨#[]⟩, .bool false, .slice none 0 0, .slice none 0 0] 53 := by
    rw [hw3]
    have := Ob.new ((W.alloc (.cells #[.int .i64 9, .string X, .int .i64 1, .int .i64 0, .int .i64 1, .int .i64 12, .string D, .slice (some ⟨kb, ko, none⟩) 1 c] 28)).alloc (.cells #[.string ⟨#[]⟩, .int .i64 0, .int .i64 0, .int .i64 0, .string ⟨#[]⟩, .string ⟨#[]⟩, .string ⟨#[]⟩, .bool false, .int .i64 0, .string ⟨#[]⟩, .bool false, .slice none 0 0, .slice none 0 0] 53)) #[.string ⟨#[]⟩, .int .i64 0, .int .i64 0, .int .i64 0, .string ⟨#[]⟩, .string ⟨#[]⟩, .string ⟨#[]⟩, .bool false, .int .i64 0, .string ⟨#[]⟩, .bool false, .slice none 0 0, .slice none 0 0] 53
    simpa using this
  have hb3 : Below W.heap.size W w3 := by rw [hw3]; exact (((Below.refl _ W).alloc (Nat.le_refl _) _).alloc (by simp) _).alloc (by simp; omega) _
  have O0 : Hid _ := o0
  have O1 : Hid _ := o1
  have O2 : Hid _ := o2
  have HB3 : Hid _ := hb3
  have HW3 : Hid _ := hw3
  clear o0 o1 o2 hb3 hw3
  go_enter Tryz.func130, Tryz.ntmps130
  go_upto_region 1 with fail
  rw [← HW3.out]
  clear HW3
  refine wp_region_heldD (S := fun V => Hid (Ob V W.heap.size #[.int .i64 9, .string X, .int .i64 1, .int .i64 0, .int .i64 1, .int .i64 12, .string D, .slice (some ⟨kb, ko, none⟩) 1 c] 28)) rfl ?_
  have HS0 : Hid _ := (show Hid _ from O0.out.drew)
  refine wpAnyH_take (i := 0) (v := ?_) rfl (by kernel_rfl) (by kernel_rfl) (by kernel_rfl) (fun _ _ _ h => h) (Or.inl ⟨by rfl, ?_⟩) HS0.out ?_
  rotate_left
  · rintro V HV
    go_simp
    try with_reducible rfl
  refine wpAnyH_take (i := 1) (v := ?_) rfl (by kernel_rfl) (by kernel_rfl) (by kernel_rfl) (fun _ _ _ h => h) (Or.inl ⟨by rfl, ?_⟩) HS0.out ?_
  rotate_left
  · rintro V HV
    have z1 := HV.out.cell 1 rfl
    go_simp
    try with_reducible rfl
  refine wpAnyH_take (i := 3) (v := ?_) rfl (by kernel_rfl) (by kernel_rfl) (by kernel_rfl) (fun _ _ _ h => h) (Or.inl ⟨by rfl, ?_⟩) HS0.out ?_
  rotate_left
  · rintro V HV
    go_simp
    try with_reducible rfl
  refine wpAnyH_take (i := 4) (v := ?_) rfl (by kernel_rfl) (by kernel_rfl) (by kernel_rfl) (fun _ _ _ h => h) (Or.inl ⟨by rfl, ?_⟩) HS0.out ?_
  rotate_left
  · rintro V HV
    have z2 := HV.out.cell 2 rfl
    go_simp
    try with_reducible rfl
  refine wpAnyH_all (rs := [2]) (by kernel_rfl) (by simp) ?_
  intro i hi
  obtain rfl : i = 2 := by simpa using hi
  clear hi
  refine wpOp_one rfl ?_
  intro Q' hQ'
  have HQ : Hid _ := hQ'
  clear hQ'
  go_wp2_with fail
  refine Calls.mono (QC.out _) ?_
  rintro e w4 ⟨rfl, hb4⟩
  have P0 : Hid (Ob w4 W.heap.size #[.int .i64 9, .string X, .int .i64 1, .int .i64 0, .int .i64 1, .int .i64 12, .string D, .slice (some ⟨kb, ko, none⟩) 1 c] 28) := O0.out.drew.below hb4 O0.out.lt
  have P1 : Hid (Ob w4 (W.heap.size + 1) #[.string ⟨#[]⟩, .int .i64 0, .int .i64 0, .int .i64 0, .string ⟨#[]⟩, .string ⟨#[]⟩, .string ⟨#[]⟩, .bool false, .int .i64 0, .string ⟨#[]⟩, .bool false, .slice none 0 0, .slice none 0 0] 53) := O1.out.drew.below hb4 O1.out.lt
  have P2 : Hid (Ob w4 (W.heap.size + 1 + 1) #[.string ⟨#[]⟩, .int .i64 0, .int .i64 0, .int .i64 0, .string ⟨#[]⟩, .string ⟨#[]⟩, .string ⟨#[]⟩, .bool false, .int .i64 0, .string ⟨#[]⟩, .bool false, .slice none 0 0, .slice none 0 0] 53) := O2.out.drew.below hb4 O2.out.lt
  have HB4 : Hid (Below W.heap.size W w4) := HB3.out.drew.trans (hb4.mono HB3.out.size)
  clear hb4 O0 O1 O2 HB3 HS0
  go_wp2_with fail
  refine HQ.out _ _ ⟨P0, ?_⟩
  clear HQ
  obtain ⟨⟨a0, a1, a2, a3, a4, a5, a6, a7, a8, a9, a10, a11, a12⟩, ⟨d0, d1, d2, d3, d4, d5, d6, d7, d8, d9, d10, d11, d12⟩, dl⟩ := ob13 P1.out
  clear a2 a3 a4 a5 a6 a7 a8 a9 a10 a11 a12 d2 d3 d4 d5 d6 d7 d8 d9 d10 d11 d12
  refine wpAnyH_take (i := 5) (v := ?_) rfl (by kernel_rfl) (by kernel_rfl) (by kernel_rfl) (fun _ _ _ h => h) (Or.inl ⟨by rfl, ?_⟩) P0.out ?_
  rotate_left
  · rintro V HV
    go_simp
    try with_reducible rfl
  refine wpAnyH_all (rs := [6]) (by kernel_rfl) (by simp) ?_
  intro i hi
  obtain rfl : i = 6 := by simpa using hi
  clear hi
  refine wpOp_one rfl ?_
  intro Q' hQ'
  have HQ : Hid _ := hQ'
  clear hQ'
  go_wp2_with fail
  have P0' : Hid (Ob (w4.setCell ⟨W.heap.size + 1, 0, none⟩ (.string X)) W.heap.size #[.int .i64 9, .string X, .int .i64 1, .int .i64 0, .int .i64 1, .int .i64 12, .string D, .slice (some ⟨kb, ko, none⟩) 1 c] 28) := P0.out.other (by omega) _ _
  refine HQ.out _ _ ⟨P0', ?_⟩
  clear HQ
  refine wpAnyH_take (i := 7) (v := ?_) rfl (by kernel_rfl) (by kernel_rfl) (by kernel_rfl) (fun _ _ _ h => h) (Or.inl ⟨by rfl, ?_⟩) P0'.out ?_
  rotate_left
  · rintro V HV
    go_simp
    try with_reducible rfl
  refine wpAnyH_all (rs := [8]) (by kernel_rfl) (by simp) ?_
  intro i hi
  obtain rfl : i = 8 := by simpa using hi
  clear hi
  refine wpOp_one rfl ?_
  intro Q' hQ'
  have HQ : Hid _ := hQ'
  clear hQ'
  go_wp2_with fail
  refine HQ.out _ _ ⟨(show Hid (Ob _ _ _ _) from P0'.out.other (by omega) _ _), ?_⟩
  clear HQ
  refine wpAnyH_done (by kernel_rfl) ?_ _
  obtain ⟨w5, hw5⟩ : ∃ w5, w5 = (w4.setCell ⟨W.heap.size + 1, 0, none⟩ (.string X)).setCell ⟨W.heap.size + 1, 1, none⟩ (.int .i64 1) := ⟨_, rfl⟩
  have R0 : Hid (Ob w5 W.heap.size #[.int .i64 9, .string X, .int .i64 1, .int .i64 0, .int .i64 1, .int .i64 12, .string D, .slice (some ⟨kb, ko, none⟩) 1 c] 28) := by rw [hw5]; exact (P0.out.other (by omega) _ _).other (by omega) _ _
  have R1 : Hid (Ob w5 (W.heap.size + 1) #[.string X, .int .i64 1, .int .i64 0, .int .i64 0, .string ⟨#[]⟩, .string ⟨#[]⟩, .string ⟨#[]⟩, .bool false, .int .i64 0, .string ⟨#[]⟩, .bool false, .slice none 0 0, .slice none 0 0] 53) := by rw [hw5]; have := (P1.out.set 0 (.string X)).set 1 (.int .i64 1); show Ob _ _ _ _; simpa using this
  have R2 : Hid (Ob w5 (W.heap.size + 1 + 1) #[.string ⟨#[]⟩, .int .i64 0, .int .i64 0, .int .i64 0, .string ⟨#[]⟩, .string ⟨#[]⟩, .string ⟨#[]⟩, .bool false, .int .i64 0, .string ⟨#[]⟩, .bool false, .slice none 0 0, .slice none 0 0] 53) := by rw [hw5]; exact (P2.out.other (by omega) _ _).other (by omega) _ _
  have HB5 : Hid (Below W.heap.size W w5) := by rw [hw5]; exact (HB4.out.setCell (p := ⟨W.heap.size + 1, 0, none⟩) (by simp) _).setCell (p := ⟨W.heap.size + 1, 1, none⟩) (by simp) _
  rw [← hw5]
  clear hw5 P0 P0' P1 P2 HB4 a0 a1 d0 d1 dl
  obtain ⟨⟨e0, e1, e2, e3, e4, e5, e6, e7⟩, _, el⟩ := ob8 R0.out
  have e8 := R1.out.cell 8 rfl
  have e9 := R1.out.lt
  have QL5 : Hid _ := QL.out w5
  go_wp2_with fail
  refine Calls.mono QL5.out ?_
  rintro e w6 ⟨rfl, hb6⟩
  clear QL5 QL e0 e1 e2 e3 e4 e5 e6 e7 el e8 e9
  have P0 : Hid (Ob w6 W.heap.size #[.int .i64 9, .string X, .int .i64 1, .int .i64 0, .int .i64 1, .int .i64 12, .string D, .slice (some ⟨kb, ko, none⟩) 1 c] 28) := R0.out.below hb6 R0.out.lt
  have P1 : Hid (Ob w6 (W.heap.size + 1) #[.string X, .int .i64 1, .int .i64 0, .int .i64 0, .string ⟨#[]⟩, .string ⟨#[]⟩, .string ⟨#[]⟩, .bool false, .int .i64 0, .string ⟨#[]⟩, .bool false, .slice none 0 0, .slice none 0 0] 53) := R1.out.below hb6 R1.out.lt
  have P2 : Hid (Ob w6 (W.heap.size + 1 + 1) #[.string ⟨#[]⟩, .int .i64 0, .int .i64 0, .int .i64 0, .string ⟨#[]⟩, .string ⟨#[]⟩, .string ⟨#[]⟩, .bool false, .int .i64 0, .string ⟨#[]⟩, .bool false, .slice none 0 0, .slice none 0 0] 53) := R2.out.below hb6 R2.out.lt
  have HB6 : Hid (Below W.heap.size W w6) := HB5.out.trans (hb6.mono HB5.out.size)
  clear hb6 R0 R1 R2 HB5
  obtain ⟨w7, hw7⟩ : ∃ w7, w7 = w6.setCell ⟨W.heap.size + 1, 2, none⟩ (.int .i64 1) := ⟨_, rfl⟩
  have R0 : Hid (Ob w7 W.heap.size #[.int .i64 9, .string X, .int .i64 1, .int .i64 0, .int .i64 1, .int .i64 12, .string D, .slice (some ⟨kb, ko, none⟩) 1 c] 28) := by rw [hw7]; exact P0.out.other (by omega) _ _
  have R1 : Hid (Ob w7 (W.heap.size + 1) #[.string X, .int .i64 1, .int .i64 1, .int .i64 0, .string ⟨#[]⟩, .string ⟨#[]⟩, .string ⟨#[]⟩, .bool false, .int .i64 0, .string ⟨#[]⟩, .bool false, .slice none 0 0, .slice none 0 0] 53) := by rw [hw7]; have := P1.out.set 2 (.int .i64 1); show Ob _ _ _ _; simpa using this
  have R2 : Hid (Ob w7 (W.heap.size + 1 + 1) #[.string ⟨#[]⟩, .int .i64 0, .int .i64 0, .int .i64 0, .string ⟨#[]⟩, .string ⟨#[]⟩, .string ⟨#[]⟩, .bool false, .int .i64 0, .string ⟨#[]⟩, .bool false, .slice none 0 0, .slice none 0 0] 53) := by rw [hw7]; exact P2.out.other (by omega) _ _
  have HB7 : Hid (Below W.heap.size W w7) := by rw [hw7]; exact HB6.out.setCell (p := ⟨W.heap.size + 1, 2, none⟩) (by simp) _
  have f2 := P1.out.cell 2 rfl
  have g2 := P1.out.frozen 2
  have l2 := P1.out.lt
  go_upto_region 3 with fail
  rw [← hw7]
  clear hw7 P0 P1 P2 HB6 f2 g2 l2
  have e7 := R0.out.cell 7 rfl
  have el := R0.out.lt
  have HK7 : Hid _ := HK.out w7 HB7.out
  have k0 := HK7.out 0 _ rfl
  have k1 := HK7.out 1 _ rfl
  have k2 := HK7.out 2 _ rfl
  have k3 := HK7.out 3 _ rfl
  have k4 := HK7.out 4 _ rfl
  have k5 := HK7.out 5 _ rfl
  have k6 := HK7.out 6 _ rfl
  have k7 := HK7.out 7 _ rfl
  have kl : kb < w7.heap.size := Nat.lt_of_lt_of_le HKL.out HB7.out.size
  rw [Nat.add_zero] at k0
  have QT7 : Hid _ := QT.out w7 HB7.out
  clear HK7
  go_wp2_with fail
  refine Calls.mono QT7.out ?_
  rintro e w8 ⟨rfl, hb8⟩
  clear QT7 k0 k1 k2 k3 k4 k5 k6 k7 kl e7 el
  have P0 : Hid (Ob w8 W.heap.size #[.int .i64 9, .string X, .int .i64 1, .int .i64 0, .int .i64 1, .int .i64 12, .string D, .slice (some ⟨kb, ko, none⟩) 1 c] 28) := R0.out.below hb8 R0.out.lt
  have P1 : Hid (Ob w8 (W.heap.size + 1) #[.string X, .int .i64 1, .int .i64 1, .int .i64 0, .string ⟨#[]⟩, .string ⟨#[]⟩, .string ⟨#[]⟩, .bool false, .int .i64 0, .string ⟨#[]⟩, .bool false, .slice none 0 0, .slice none 0 0] 53) := R1.out.below hb8 R1.out.lt
  have P2 : Hid (Ob w8 (W.heap.size + 1 + 1) #[.string ⟨#[]⟩, .int .i64 0, .int .i64 0, .int .i64 0, .string ⟨#[]⟩, .string ⟨#[]⟩, .string ⟨#[]⟩, .bool false, .int .i64 0, .string ⟨#[]⟩, .bool false, .slice none 0 0, .slice none 0 0] 53) := R2.out.below hb8 R2.out.lt
  have HB8 : Hid (Below W.heap.size W w8) := HB7.out.trans (hb8.mono HB7.out.size)
  clear hb8 R0 R1 R2 HB7
  obtain ⟨w9, hw9⟩ : ∃ w9, w9 = (w8.setCell ⟨W.heap.size + 1, 3, none⟩ (.int .i64 5)).setCell ⟨W.heap.size + 1, 4, none⟩ (.string ⟨#[]⟩) := ⟨_, rfl⟩
  have R0 : Hid (Ob w9 W.heap.size #[.int .i64 9, .string X, .int .i64 1, .int .i64 0, .int .i64 1, .int .i64 12, .string D, .slice (some ⟨kb, ko, none⟩) 1 c] 28) := by rw [hw9]; exact (P0.out.other (by omega) _ _).other (by omega) _ _
  have R1 : Hid (Ob w9 (W.heap.size + 1) #[.string X, .int .i64 1, .int .i64 1, .int .i64 5, .string ⟨#[]⟩, .string ⟨#[]⟩, .string ⟨#[]⟩, .bool false, .int .i64 0, .string ⟨#[]⟩, .bool false, .slice none 0 0, .slice none 0 0] 53) := by rw [hw9]; have := (P1.out.set 3 (.int .i64 5)).set 4 (.string ⟨#[]⟩); show Ob _ _ _ _; simpa using this
  have R2 : Hid (Ob w9 (W.heap.size + 1 + 1) #[.string ⟨#[]⟩, .int .i64 0, .int .i64 0, .int .i64 0, .string ⟨#[]⟩, .string ⟨#[]⟩, .string ⟨#[]⟩, .bool false, .int .i64 0, .string ⟨#[]⟩, .bool false, .slice none 0 0, .slice none 0 0] 53) := by rw [hw9]; exact (P2.out.other (by omega) _ _).other (by omega) _ _
  have HB9 : Hid (Below W.heap.size W w9) := by rw [hw9]; exact (HB8.out.setCell (p := ⟨W.heap.size + 1, 3, none⟩) (by simp) _).setCell (p := ⟨W.heap.size + 1, 4, none⟩) (by simp) _
  have f3 := P1.out.cell 3 rfl
  have g3 := P1.out.frozen 3
  have f4 := P1.out.cell 4 rfl
  have g4 := P1.out.frozen 4
  have l2 := P1.out.lt
  go_upto_region 4 with fail
  rw [← hw9]
  clear hw9 P0 P1 P2 HB8 f3 g3 f4 g4 l2
  have hgl := HG.out.lt
  have m0 := (HG.out.below HB9.out hgl).cell 0 rfl
  have ml : g < w9.heap.size := Nat.lt_of_lt_of_le hgl HB9.out.size
  have f10 := R1.out.cell 10 rfl
  have g10 := R1.out.frozen 10
  have l2 := R1.out.lt
  obtain ⟨w10, hw10⟩ : ∃ w10, w10 = w9.setCell ⟨W.heap.size + 1, 10, none⟩ (.bool false) := ⟨_, rfl⟩
  have P0 : Hid (Ob w10 W.heap.size #[.int .i64 9, .string X, .int .i64 1, .int .i64 0, .int .i64 1, .int .i64 12, .string D, .slice (some ⟨kb, ko, none⟩) 1 c] 28) := by rw [hw10]; exact R0.out.other (by omega) _ _
  have P1 : Hid (Ob w10 (W.heap.size + 1) #[.string X, .int .i64 1, .int .i64 1, .int .i64 5, .string ⟨#[]⟩, .string ⟨#[]⟩, .string ⟨#[]⟩, .bool false, .int .i64 0, .string ⟨#[]⟩, .bool false, .slice none 0 0, .slice none 0 0] 53) := by rw [hw10]; have := R1.out.set 10 (.bool false); show Ob _ _ _ _; simpa using this
  have P2 : Hid (Ob w10 (W.heap.size + 1 + 1) #[.string ⟨#[]⟩, .int .i64 0, .int .i64 0, .int .i64 0, .string ⟨#[]⟩, .string ⟨#[]⟩, .string ⟨#[]⟩, .bool false, .int .i64 0, .string ⟨#[]⟩, .bool false, .slice none 0 0, .slice none 0 0] 53) := by rw [hw10]; exact R2.out.other (by omega) _ _
  have HB10 : Hid (Below W.heap.size W w10) := by rw [hw10]; exact HB9.out.setCell (p := ⟨W.heap.size + 1, 10, none⟩) (by simp) _
  clear R0 R1 R2 HB9
  go_upto_region 5 with fail
  rw [← hw10]
  clear hw10 m0 ml f10 g10 l2
  obtain ⟨⟨e0, e1, e2, e3, e4, e5, e6, e7⟩, _, el⟩ := ob8 P0.out
  obtain ⟨⟨b0, b1, b2, b3, b4, b5, b6, b7, b8, b9, b10, b11, b12⟩, _, bl⟩ := ob13 P1.out
  have QP10 : Hid _ := QP.out w10 HB10.out
  go_wp2_with fail
  refine Calls.mono QP10.out ?_
  rintro e w11 ⟨rfl, hb11⟩
  have q2 := P2.out.below hb11 P2.out.lt
  have HB11 : Hid (Below W.heap.size W w11) := HB10.out.trans (hb11.mono HB10.out.size)
  obtain ⟨⟨c0, c1, c2, c3, c4, c5, c6, c7, c8, c9, c10, c11, c12⟩, ⟨d0, d1, d2, d3, d4, d5, d6, d7, d8, d9, d10, d11, d12⟩, dl⟩ := ob13 q2
  have Q2 : Hid _ := q2
  clear e0 e1 e2 e3 e4 e5 e6 e7 el b0 b1 b2 b3 b4 b5 b6 b7 b8 b9 b10 b11 b12 bl q2 hb11 P0 P1 P2 HB10 QP10
  go_wp2
  refine fld_ret (p := 8) ?_ (W.heap.size + 1 + 1) #[.string X, .int .i64 1, .int .i64 1, .int .i64 5, .string ⟨#[]⟩, .string ⟨#[]⟩, .string ⟨#[]⟩, .bool false, .int .i64 0, .string X, .bool false, .slice none 0 0, .slice none 0 0] rfl ?_ ?_ ?_ ?_
  · rfl
  · rfl
  rotate_left
  · rfl
  rotate_left
  · have := (((((((((((((Q2.out.set 0 (.string X)).set 1 (.int .i64 1)).set 2 (.int .i64 1)).set 3 (.int .i64 5)).set 4 (.string ⟨#[]⟩)).set 5 (.string ⟨#[]⟩)).set 6 (.string ⟨#[]⟩)).set 7 (.bool false)).set 8 (.int .i64 0)).set 9 (.string X)).set 10 (.bool false)).set 11 (.slice none 0 0)).set 12 (.slice none 0 0))
    simpa using this
  · refine ⟨rfl, ?_⟩
    exact (((((((((((((HB11.out.setCell (p := ⟨W.heap.size + 1 + 1, 0, none⟩) (by simp; omega) _).setCell (p := ⟨W.heap.size + 1 + 1, 1, none⟩) (by simp; omega) _).setCell (p := ⟨W.heap.size + 1 + 1, 2, none⟩) (by simp; omega) _).setCell (p := ⟨W.heap.size + 1 + 1, 3, none⟩) (by simp; omega) _).setCell (p := ⟨W.heap.size + 1 + 1, 4, none⟩) (by simp; omega) _).setCell (p := ⟨W.heap.size + 1 + 1, 5, none⟩) (by simp; omega) _).setCell (p := ⟨W.heap.size + 1 + 1, 6, none⟩) (by simp; omega) _).setCell (p := ⟨W.heap.size + 1 + 1, 7, none⟩) (by simp; omega) _).setCell (p := ⟨W.heap.size + 1 + 1, 8, none⟩) (by simp; omega) _).setCell (p := ⟨W.heap.size + 1 + 1, 9, none⟩) (by simp; omega) _).setCell (p := ⟨W.heap.size + 1 + 1, 10, none⟩) (by simp; omega) _).setCell (p := ⟨W.heap.size + 1 + 1, 11, none⟩) (by simp; omega) _).setCell (p := ⟨W.heap.size + 1 + 1, 12, none⟩) (by simp; omega) _)

end Go.Proofs.YtlekfcehmlepkaaGreatDoor
