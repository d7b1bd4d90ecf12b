/- Blocks of a call's own. -/
import Derived.Test.YtfkhocmbhnigeaaGreatBas
namespace Go.Proofs.YtfkhocmbhnigeaaGreat
open Go.RowKit
set_option linter.unusedVariables false
set_option linter.unusedSimpArgs false

/-- A block of one's own. -/
structure Ob (w : World) (b : Nat) (c : Array Value) (T : TypeId) : Prop where
  eq : w.heap[b]? = some (.cells c T (0, 0))

theorem Ob.new (w : World) (c : Array Value) (T : TypeId) : Ob (w.alloc (.cells c T)) w.heap.size c T := ⟨heap_alloc_new w _⟩

theorem Ob.lt {w : World} {b : Nat} {c : Array Value} {T : TypeId} (h : Ob w b c T) : b < w.heap.size := (Array.getElem?_eq_some_iff.1 h.eq).1

theorem Ob.below {w w' : World} {b B : Nat} {c : Array Value} {T : TypeId} (h : Ob w b c T) (hb : Below B w w') (hB : b < B) : Ob w' b c T := ⟨(hb.block b hB).trans h.eq⟩

theorem Ob.alloc {w : World} {b : Nat} {c : Array Value} {T : TypeId} (h : Ob w b c T) (o : Obj) : Ob (w.alloc o) b c T := ⟨(Below.heap_alloc w o b h.lt).trans h.eq⟩

theorem Ob.set {w : World} {b : Nat} {c : Array Value} {T : TypeId} (h : Ob w b c T) (j : Nat) (v : Value) : Ob (w.setCell ⟨b, j, none⟩ v) b (c.setIfInBounds j v) T := by
  constructor
  rw [setCell_eq_setRow w b j c T (0, 0) v h.eq]
  exact setRow_heap w b c _ T _ h.eq

theorem Ob.other {w : World} {b : Nat} {c : Array Value} {T : TypeId} (h : Ob w b c T) {b' : Nat} (hne : b ≠ b') (j : Nat) (v : Value) : Ob (w.setCell ⟨b', j, none⟩ v) b c T := ⟨(heap_setCell_other _ _ _ _ (by simpa using hne)).trans h.eq⟩

theorem Ob.cell {w : World} {b : Nat} {c : Array Value} {T : TypeId} (h : Ob w b c T) (j : Nat) {v : Value} (hv : c[j]? = some v) : w.cell? ⟨b, j, none⟩ = some v := by
  simp [World.cell?, h.eq]
  simpa using hv

theorem Ob.frozen {w : World} {b : Nat} {c : Array Value} {T : TypeId} (h : Ob w b c T) (j : Nat) : w.frozen? ⟨b, j, none⟩ = false := by
  simp [World.frozen?, h.eq]

theorem ob1 {w : World} {b : Nat} {T : TypeId} {x0 : Value} (h : Ob w b #[x0] T) :
    (w.cell? ⟨b, 0, none⟩ = some x0) ∧ (w.frozen? ⟨b, 0, none⟩ = false) ∧ b < w.heap.size :=
  ⟨h.cell 0 rfl, h.frozen 0, h.lt⟩

theorem ob2 {w : World} {b : Nat} {T : TypeId} {x0 x1 : Value} (h : Ob w b #[x0, x1] T) :
    (w.cell? ⟨b, 0, none⟩ = some x0 ∧ w.cell? ⟨b, 1, none⟩ = some x1) ∧ (w.frozen? ⟨b, 0, none⟩ = false ∧ w.frozen? ⟨b, 1, none⟩ = false) ∧ b < w.heap.size :=
  ⟨⟨h.cell 0 rfl, h.cell 1 rfl⟩, ⟨h.frozen 0, h.frozen 1⟩, h.lt⟩

theorem ob3 {w : World} {b : Nat} {T : TypeId} {x0 x1 x2 : Value} (h : Ob w b #[x0, x1, x2] T) :
    (w.cell? ⟨b, 0, none⟩ = some x0 ∧ w.cell? ⟨b, 1, none⟩ = some x1 ∧ w.cell? ⟨b, 2, none⟩ = some x2) ∧ (w.frozen? ⟨b, 0, none⟩ = false ∧ w.frozen? ⟨b, 1, none⟩ = false ∧ w.frozen? ⟨b, 2, none⟩ = false) ∧ b < w.heap.size :=
  ⟨⟨h.cell 0 rfl, h.cell 1 rfl, h.cell 2 rfl⟩, ⟨h.frozen 0, h.frozen 1, h.frozen 2⟩, h.lt⟩

theorem ob5 {w : World} {b : Nat} {T : TypeId} {x0 x1 x2 x3 x4 : Value} (h : Ob w b #[x0, x1, x2, x3, x4] T) :
    (w.cell? ⟨b, 0, none⟩ = some x0 ∧ w.cell? ⟨b, 1, none⟩ = some x1 ∧ w.cell? ⟨b, 2, none⟩ = some x2 ∧ w.cell? ⟨b, 3, none⟩ = some x3 ∧ w.cell? ⟨b, 4, none⟩ = some x4) ∧ (w.frozen? ⟨b, 0, none⟩ = false ∧ w.frozen? ⟨b, 1, none⟩ = false ∧ w.frozen? ⟨b, 2, none⟩ = false ∧ w.frozen? ⟨b, 3, none⟩ = false ∧ w.frozen? ⟨b, 4, none⟩ = false) ∧ b < w.heap.size :=
  ⟨⟨h.cell 0 rfl, h.cell 1 rfl, h.cell 2 rfl, h.cell 3 rfl, h.cell 4 rfl⟩, ⟨h.frozen 0, h.frozen 1, h.frozen 2, h.frozen 3, h.frozen 4⟩, h.lt⟩

theorem ob11 {w : World} {b : Nat} {T : TypeId} {x0 x1 x2 x3 x4 x5 x6 x7 x8 x9 x10 : Value} (h : Ob w b #[x0, x1, x2, x3, x4, x5, x6, x7, x8, x9, x10] T) :
    (w.cell? ⟨b, 0, none⟩ = some x0 ∧ w.cell? ⟨b, 1, none⟩ = some x1 ∧ w.cell? ⟨b, 2, none⟩ = some x2 ∧ w.cell? ⟨b, 3, none⟩ = some x3 ∧ w.cell? ⟨b, 4, none⟩ = some x4 ∧ w.cell? ⟨b, 5, none⟩ = some x5 ∧ w.cell? ⟨b, 6, none⟩ = some x6 ∧ w.cell? ⟨b, 7, none⟩ = some x7 ∧ w.cell? ⟨b, 8, none⟩ = some x8 ∧ w.cell? ⟨b, 9, none⟩ = some x9 ∧ w.cell? ⟨b, 10, none⟩ = some x10) ∧ (w.frozen? ⟨b, 0, none⟩ = false ∧ w.frozen? ⟨b, 1, none⟩ = false ∧ w.frozen? ⟨b, 2, none⟩ = false ∧ w.frozen? ⟨b, 3, none⟩ = false ∧ w.frozen? ⟨b, 4, none⟩ = false ∧ w.frozen? ⟨b, 5, none⟩ = false ∧ w.frozen? ⟨b, 6, none⟩ = false ∧ w.frozen? ⟨b, 7, none⟩ = false ∧ w.frozen? ⟨b, 8, none⟩ = false ∧ w.frozen? ⟨b, 9, none⟩ = false ∧ w.frozen? ⟨b, 10, none⟩ = false) ∧ b < w.heap.size :=
  ⟨⟨h.cell 0 rfl, h.cell 1 rfl, h.cell 2 rfl, h.cell 3 rfl, h.cell 4 rfl, h.cell 5 rfl, h.cell 6 rfl, h.cell 7 rfl, h.cell 8 rfl, h.cell 9 rfl, h.cell 10 rfl⟩, ⟨h.frozen 0, h.frozen 1, h.frozen 2, h.frozen 3, h.frozen 4, h.frozen 5, h.frozen 6, h.frozen 7, h.frozen 8, h.frozen 9, h.frozen 10⟩, h.lt⟩

theorem ob13 {w : World} {b : Nat} {T : TypeId} {x0 x1 x2 x3 x4 x5 x6 x7 x8 x9 x10 x11 x12 : Value} (h : Ob w b #[x0, x1, x2, x3, x4, x5, x6, x7, x8, x9, x10, x11, x12] T) :
    (w.cell? ⟨b, 0, none⟩ = some x0 ∧ w.cell? ⟨b, 1, none⟩ = some x1 ∧ w.cell? ⟨b, 2, none⟩ = some x2 ∧ w.cell? ⟨b, 3, none⟩ = some x3 ∧ w.cell? ⟨b, 4, none⟩ = some x4 ∧ w.cell? ⟨b, 5, none⟩ = some x5 ∧ w.cell? ⟨b, 6, none⟩ = some x6 ∧ w.cell? ⟨b, 7, none⟩ = some x7 ∧ w.cell? ⟨b, 8, none⟩ = some x8 ∧ w.cell? ⟨b, 9, none⟩ = some x9 ∧ w.cell? ⟨b, 10, none⟩ = some x10 ∧ w.cell? ⟨b, 11, none⟩ = some x11 ∧ w.cell? ⟨b, 12, none⟩ = some x12) ∧ (w.frozen? ⟨b, 0, none⟩ = false ∧ w.frozen? ⟨b, 1, none⟩ = false ∧ w.frozen? ⟨b, 2, none⟩ = false ∧ w.frozen? ⟨b, 3, none⟩ = false ∧ w.frozen? ⟨b, 4, none⟩ = false ∧ w.frozen? ⟨b, 5, none⟩ = false ∧ w.frozen? ⟨b, 6, none⟩ = false ∧ w.frozen? ⟨b, 7, none⟩ = false ∧ w.frozen? ⟨b, 8, none⟩ = false ∧ w.frozen? ⟨b, 9, none⟩ = false ∧ w.frozen? ⟨b, 10, none⟩ = false ∧ w.frozen? ⟨b, 11, none⟩ = false ∧ w.frozen? ⟨b, 12, none⟩ = false) ∧ b < w.heap.size :=
  ⟨⟨h.cell 0 rfl, h.cell 1 rfl, h.cell 2 rfl, h.cell 3 rfl, h.cell 4 rfl, h.cell 5 rfl, h.cell 6 rfl, h.cell 7 rfl, h.cell 8 rfl, h.cell 9 rfl, h.cell 10 rfl, h.cell 11 rfl, h.cell 12 rfl⟩, ⟨h.frozen 0, h.frozen 1, h.frozen 2, h.frozen 3, h.frozen 4, h.frozen 5, h.frozen 6, h.frozen 7, h.frozen 8, h.frozen 9, h.frozen 10, h.frozen 11, h.frozen 12⟩, h.lt⟩

theorem Ob.grown {w w' : World} {b : Nat} {c : Array Value} {T : TypeId} (h : Ob w b c T) {row : Option Nat} (hg : w.grownBy w' row) (hne : some b ≠ row) : Ob w' b c T := ⟨(hg.block b h.lt hne).trans h.eq⟩

theorem Ob.drew {w : World} {b : Nat} {c : Array Value} {T : TypeId} (h : Ob w b c T) : Ob w.drew b c T := ⟨h.eq⟩

end Go.Proofs.YtfkhocmbhnigeaaGreat
