/- Put together by a program out of these texts of mine: DIn, VOb, Ext, DMsg, VCop, VLast. -/
import Derived.Deep.Slices
import Derived.Deep.QuietTactic
import Derived.BigQuiet
import Derived.Test.YtafmoceinamcdaaGreatBunS1

namespace Go.Proofs.YtafmoceinamcdaaGreat
open Go.ChangeShapes Go.WideShapes Go.ChangeAt Go.RowKit
set_option linter.unusedVariables false
set_option linter.unusedSimpArgs false

inductive Md where
  | str (s : ByteArray)
  | num (k : IntKind) (n : Int)
  | tru (b : Bool)
  | ls (a : Option Addr) (n c : Nat) (ms : List Md)

def Md.val : Md → Value
  | .str s => .string s
  | .num k n => .int k n
  | .tru b => .bool b
  | .ls a n c _ => .slice a n c

def flds (P : Program) (E : TypeId) : List TypeId := match P.underlying E with | some (.struct fs) => fs.toList.map (·.type) | _ => [E]

inductive Ok (P : Program) (w : World) : TypeId → Md → Prop
  | str {T : TypeId} {s : ByteArray} (hT : P.underlying T = some .string) (hs : s.size ≤ maxLen) : Ok P w T (.str s)
  | num {T : TypeId} {k : IntKind} {n : Int} (hT : P.underlying T = some (.int k)) (hw : (Lit.int k n).wf = true) : Ok P w T (.num k n)
  | tru {T : TypeId} {b : Bool} (hT : P.underlying T = some .bool) : Ok P w T (.tru b)
  | ls {T E : TypeId} {a : Option Addr} {n c : Nat} {ms : List Md} (hT : P.underlying T = some (.slice E)) (hnc : n ≤ c) (hm : c ≤ maxLen) (hnil : a = none → c = 0) (hlen : ms.length = n * (flds P E).length)
      (hmem : 0 < n → ∃ b off, a = some ⟨b, off, none⟩ ∧ b < w.heap.size ∧ ∀ i m, ms[i]? = some m → w.cell? ⟨b, off + i, none⟩ = some m.val)
      (hk : ∀ i m F, ms[i]? = some m → (flds P E)[i % (flds P E).length]? = some F → Ok P w F m) : Ok P w T (.ls a n c ms)

theorem Ok.under {P : Program} {w w' : World} {B : Nat} (hb : Below B w w') (hB : w.heap.size ≤ B) {T : TypeId} {m : Md} (h : Ok P w T m) : Ok P w' T m := by
  induction h with
  | str hT hs => exact .str hT hs
  | num hT hw => exact .num hT hw
  | tru hT => exact .tru hT
  | ls hT hnc hm hnil hlen hmem hk ih =>
    refine .ls hT hnc hm hnil hlen (fun hp => ?_) (fun i m F hi hF => ih i m F hi hF)
    obtain ⟨b, off, h1, h2, h3⟩ := hmem hp
    exact ⟨b, off, h1, Nat.lt_of_lt_of_le h2 hb.size, fun i m hi => (hb.cell (p := ⟨b, off + i, none⟩) (by show b < B; omega)).trans (h3 i m hi)⟩

def memT (P : Program) (L : List TypeId) (E : TypeId) : Bool :=
  decide (P.cellsOf E = (flds P E).length) && decide (0 < (flds P E).length) && (flds P E).all (fun F => L.contains F && decide (P.cellsOf F = 1)) &&
  match P.underlying E with
  | some (.struct fs) => (List.range fs.size).all fun i => (fs[i]?.map (·.offset)) == some i
  | _ => true

def famT (P : Program) (L : List TypeId) : Bool := L.all fun T => match P.underlying T with
  | some .string => true
  | some (.int _) => true
  | some .bool => true
  | some (.slice E) => memT P L E
  | _ => false

theorem flds_struct {P : Program} {E : TypeId} {fs : Array Field} (hu : P.underlying E = some (.struct fs)) : flds P E = fs.toList.map (·.type) := by unfold flds; rw [hu]

theorem flds_other {P : Program} {E : TypeId} {u : TypeDesc} (hu : P.underlying E = some u) (hn : ∀ fs, u ≠ .struct fs) : flds P E = [E] := by
  unfold flds
  rw [hu]
  cases u <;> first | rfl | exact absurd rfl (hn _)

theorem trod_bool' {H : Type} {enc : TypeId × Value → H} {P : Program} {w : World} {t : TypeId} {fuel : Nat} {cs : List Value} {x : DataW H × List MemPlace} (ht : P.underlying t = some .bool) (h : DataW.trod enc P w 0 (fun _ => true) true fuel t cs = some x) : ∃ b, cs = [.bool b] := by
  cases fuel with
  | zero => simp [DataW.trod] at h
  | succ n =>
    unfold DataW.trod at h
    rw [ht] at h
    split at h <;> simp_all

theorem add_divmod (y : Addr) (i k : Nat) : (y.add (i / k * k)).add (i % k) = y.add i := by
  have h : i / k * k + i % k = i := by rw [Nat.mul_comm]; exact Nat.div_add_mod i k
  generalize i / k * k = p at h
  generalize i % k = q at h
  subst h
  obtain ⟨b, off, spot⟩ := y
  by_cases h1 : p = 0
  · subst h1
    simp [Addr.add]
  · by_cases h2 : q = 0
    · subst h2
      simp [Addr.add]
    · have h3 : ¬ p + q = 0 := by omega
      unfold Addr.add
      rw [if_neg h1, if_neg h2, if_neg h3]
      simp [Nat.add_assoc]

end Go.Proofs.YtafmoceinamcdaaGreat

namespace Go.Proofs.YtafmoceinamcdaaGreat
open Go.RowKit
set_option linter.unusedVariables false
set_option linter.unusedSimpArgs false

structure Ob (w : World) (b : Nat) (c : Array Value) (T : TypeId) : Prop where
  eq : w.heap[b]? = some (.cells c T (0, 0))

theorem Ob.new (w : World) (c : Array Value) (T : TypeId) : Ob (w.alloc (.cells c T)) w.heap.size c T := ⟨heap_alloc_new w _⟩

theorem Ob.lt {w : World} {b : Nat} {c : Array Value} {T : TypeId} (h : Ob w b c T) : b < w.heap.size := (Array.getElem?_eq_some_iff.1 h.eq).1

theorem Ob.below {w w' : World} {b B : Nat} {c : Array Value} {T : TypeId} (h : Ob w b c T) (hb : Below B w w') (hB : b < B) : Ob w' b c T := ⟨(hb.block b hB).trans h.eq⟩

theorem Ob.alloc {w : World} {b : Nat} {c : Array Value} {T : TypeId} (h : Ob w b c T) (o : Obj) : Ob (w.alloc o) b c T := ⟨(Below.heap_alloc w o b h.lt).trans h.eq⟩

theorem Ob.set {w : World} {b : Nat} {c : Array Value} {T : TypeId} (h : Ob w b c T) (j : Nat) (v : Value) : Ob (w.setCell ⟨b, j, none⟩ v) b (c.setIfInBounds j v) T := by
  constructor
  rw [setCell_eq_setRow w b j c T (0, 0) v h.eq]
  exact setRow_heap w b c _ T _ h.eq

theorem Ob.other {w : World} {b : Nat} {c : Array Value} {T : TypeId} (h : Ob w b c T) {b' : Nat} (hne : b ≠ b') (j : Nat) (v : Value) : Ob (w.setCell ⟨b', j, none⟩ v) b c T := ⟨(heap_setCell_other _ _ _ _ (by simpa using hne)).trans h.eq⟩

theorem Ob.cell {w : World} {b : Nat} {c : Array Value} {T : TypeId} (h : Ob w b c T) (j : Nat) {v : Value} (hv : c[j]? = some v) : w.cell? ⟨b, j, none⟩ = some v := by
  simp [World.cell?, h.eq]
  simpa using hv

theorem Ob.frozen {w : World} {b : Nat} {c : Array Value} {T : TypeId} (h : Ob w b c T) (j : Nat) : w.frozen? ⟨b, j, none⟩ = false := by
  simp [World.frozen?, h.eq]

theorem ob1 {w : World} {b : Nat} {T : TypeId} {x0 : Value} (h : Ob w b #[x0] T) :
    (w.cell? ⟨b, 0, none⟩ = some x0) ∧ (w.frozen? ⟨b, 0, none⟩ = false) ∧ b < w.heap.size :=
  ⟨h.cell 0 rfl, h.frozen 0, h.lt⟩

theorem ob2 {w : World} {b : Nat} {T : TypeId} {x0 x1 : Value} (h : Ob w b #[x0, x1] T) :
    (w.cell? ⟨b, 0, none⟩ = some x0 ∧ w.cell? ⟨b, 1, none⟩ = some x1) ∧ (w.frozen? ⟨b, 0, none⟩ = false ∧ w.frozen? ⟨b, 1, none⟩ = false) ∧ b < w.heap.size :=
  ⟨⟨h.cell 0 rfl, h.cell 1 rfl⟩, ⟨h.frozen 0, h.frozen 1⟩, h.lt⟩

theorem ob3 {w : World} {b : Nat} {T : TypeId} {x0 x1 x2 : Value} (h : Ob w b #[x0, x1, x2] T) :
    (w.cell? ⟨b, 0, none⟩ = some x0 ∧ w.cell? ⟨b, 1, none⟩ = some x1 ∧ w.cell? ⟨b, 2, none⟩ = some x2) ∧ (w.frozen? ⟨b, 0, none⟩ = false ∧ w.frozen? ⟨b, 1, none⟩ = false ∧ w.frozen? ⟨b, 2, none⟩ = false) ∧ b < w.heap.size :=
  ⟨⟨h.cell 0 rfl, h.cell 1 rfl, h.cell 2 rfl⟩, ⟨h.frozen 0, h.frozen 1, h.frozen 2⟩, h.lt⟩

theorem ob5 {w : World} {b : Nat} {T : TypeId} {x0 x1 x2 x3 x4 : Value} (h : Ob w b #[x0, x1, x2, x3, x4] T) :
    (w.cell? ⟨b, 0, none⟩ = some x0 ∧ w.cell? ⟨b, 1, none⟩ = some x1 ∧ w.cell? ⟨b, 2, none⟩ = some x2 ∧ w.cell? ⟨b, 3, none⟩ = some x3 ∧ w.cell? ⟨b, 4, none⟩ = some x4) ∧ (w.frozen? ⟨b, 0, none⟩ = false ∧ w.frozen? ⟨b, 1, none⟩ = false ∧ w.frozen? ⟨b, 2, none⟩ = false ∧ w.frozen? ⟨b, 3, none⟩ = false ∧ w.frozen? ⟨b, 4, none⟩ = false) ∧ b < w.heap.size :=
  ⟨⟨h.cell 0 rfl, h.cell 1 rfl, h.cell 2 rfl, h.cell 3 rfl, h.cell 4 rfl⟩, ⟨h.frozen 0, h.frozen 1, h.frozen 2, h.frozen 3, h.frozen 4⟩, h.lt⟩

theorem ob11 {w : World} {b : Nat} {T : TypeId} {x0 x1 x2 x3 x4 x5 x6 x7 x8 x9 x10 : Value} (h : Ob w b #[x0, x1, x2, x3, x4, x5, x6, x7, x8, x9, x10] T) :
    (w.cell? ⟨b, 0, none⟩ = some x0 ∧ w.cell? ⟨b, 1, none⟩ = some x1 ∧ w.cell? ⟨b, 2, none⟩ = some x2 ∧ w.cell? ⟨b, 3, none⟩ = some x3 ∧ w.cell? ⟨b, 4, none⟩ = some x4 ∧ w.cell? ⟨b, 5, none⟩ = some x5 ∧ w.cell? ⟨b, 6, none⟩ = some x6 ∧ w.cell? ⟨b, 7, none⟩ = some x7 ∧ w.cell? ⟨b, 8, none⟩ = some x8 ∧ w.cell? ⟨b, 9, none⟩ = some x9 ∧ w.cell? ⟨b, 10, none⟩ = some x10) ∧ (w.frozen? ⟨b, 0, none⟩ = false ∧ w.frozen? ⟨b, 1, none⟩ = false ∧ w.frozen? ⟨b, 2, none⟩ = false ∧ w.frozen? ⟨b, 3, none⟩ = false ∧ w.frozen? ⟨b, 4, none⟩ = false ∧ w.frozen? ⟨b, 5, none⟩ = false ∧ w.frozen? ⟨b, 6, none⟩ = false ∧ w.frozen? ⟨b, 7, none⟩ = false ∧ w.frozen? ⟨b, 8, none⟩ = false ∧ w.frozen? ⟨b, 9, none⟩ = false ∧ w.frozen? ⟨b, 10, none⟩ = false) ∧ b < w.heap.size :=
  ⟨⟨h.cell 0 rfl, h.cell 1 rfl, h.cell 2 rfl, h.cell 3 rfl, h.cell 4 rfl, h.cell 5 rfl, h.cell 6 rfl, h.cell 7 rfl, h.cell 8 rfl, h.cell 9 rfl, h.cell 10 rfl⟩, ⟨h.frozen 0, h.frozen 1, h.frozen 2, h.frozen 3, h.frozen 4, h.frozen 5, h.frozen 6, h.frozen 7, h.frozen 8, h.frozen 9, h.frozen 10⟩, h.lt⟩

theorem ob13 {w : World} {b : Nat} {T : TypeId} {x0 x1 x2 x3 x4 x5 x6 x7 x8 x9 x10 x11 x12 : Value} (h : Ob w b #[x0, x1, x2, x3, x4, x5, x6, x7, x8, x9, x10, x11, x12] T) :
    (w.cell? ⟨b, 0, none⟩ = some x0 ∧ w.cell? ⟨b, 1, none⟩ = some x1 ∧ w.cell? ⟨b, 2, none⟩ = some x2 ∧ w.cell? ⟨b, 3, none⟩ = some x3 ∧ w.cell? ⟨b, 4, none⟩ = some x4 ∧ w.cell? ⟨b, 5, none⟩ = some x5 ∧ w.cell? ⟨b, 6, none⟩ = some x6 ∧ w.cell? ⟨b, 7, none⟩ = some x7 ∧ w.cell? ⟨b, 8, none⟩ = some x8 ∧ w.cell? ⟨b, 9, none⟩ = some x9 ∧ w.cell? ⟨b, 10, none⟩ = some x10 ∧ w.cell? ⟨b, 11, none⟩ = some x11 ∧ w.cell? ⟨b, 12, none⟩ = some x12) ∧ (w.frozen? ⟨b, 0, none⟩ = false ∧ w.frozen? ⟨b, 1, none⟩ = false ∧ w.frozen? ⟨b, 2, none⟩ = false ∧ w.frozen? ⟨b, 3, none⟩ = false ∧ w.frozen? ⟨b, 4, none⟩ = false ∧ w.frozen? ⟨b, 5, none⟩ = false ∧ w.frozen? ⟨b, 6, none⟩ = false ∧ w.frozen? ⟨b, 7, none⟩ = false ∧ w.frozen? ⟨b, 8, none⟩ = false ∧ w.frozen? ⟨b, 9, none⟩ = false ∧ w.frozen? ⟨b, 10, none⟩ = false ∧ w.frozen? ⟨b, 11, none⟩ = false ∧ w.frozen? ⟨b, 12, none⟩ = false) ∧ b < w.heap.size :=
  ⟨⟨h.cell 0 rfl, h.cell 1 rfl, h.cell 2 rfl, h.cell 3 rfl, h.cell 4 rfl, h.cell 5 rfl, h.cell 6 rfl, h.cell 7 rfl, h.cell 8 rfl, h.cell 9 rfl, h.cell 10 rfl, h.cell 11 rfl, h.cell 12 rfl⟩, ⟨h.frozen 0, h.frozen 1, h.frozen 2, h.frozen 3, h.frozen 4, h.frozen 5, h.frozen 6, h.frozen 7, h.frozen 8, h.frozen 9, h.frozen 10, h.frozen 11, h.frozen 12⟩, h.lt⟩

theorem Ob.grown {w w' : World} {b : Nat} {c : Array Value} {T : TypeId} (h : Ob w b c T) {row : Option Nat} (hg : w.grownBy w' row) (hne : some b ≠ row) : Ob w' b c T := ⟨(hg.block b h.lt hne).trans h.eq⟩

theorem Ob.drew {w : World} {b : Nat} {c : Array Value} {T : TypeId} (h : Ob w b c T) : Ob w.drew b c T := ⟨h.eq⟩

end Go.Proofs.YtafmoceinamcdaaGreat

namespace Go.Proofs.YtafmoceinamcdaaGreat
open Go.RowKit

structure Ext (W0 : World) where
  val : World
  ok : Below W0.heap.size W0 val

instance (W0 : World) : Nonempty (Ext W0) := ⟨⟨W0, Below.refl _ _⟩⟩

theorem wp_region_ext {P : Program} {id : Nat} {Q : Exit → Act → World → Prop} {a : Act} {w : World} {l : List Oper} (W0 : World) (h0 : Below W0.heap.size W0 w) (hm : P.follows .mixedOrders = true) (hB : Region.lexB .any l.toArray = true)
    (h : wpQuiet P l.toArray (fun w' => ∃ x : Ext W0, w' = x.val) (fun a' => ∀ w', (∃ x : Ext W0, w' = x.val) → Q .normal a' w') l a) : (Code.region id l.toArray true).wp P Q a w :=
  wp_region_quiet (C := fun w' => ∃ x : Ext W0, w' = x.val) hm hB ⟨⟨_, h0.drew⟩, rfl⟩ (by simpa using h)

theorem Ext.call {P : Program} {W0 : World} {f : FuncId} {args : Array Value} {v : Value} (q : ∀ V, Below W0.heap.size W0 V → Calls P f args V fun e W' => e = .returned v ∧ Below V.heap.size V W') (x : Ext W0) :
    Calls P f args x.val fun e w'' => e = .returned v ∧ ∃ y : Ext W0, w'' = y.val :=
  (q x.val x.ok).mono fun _ w'' ⟨he, hb⟩ => ⟨he, ⟨w'', x.ok.trans (hb.mono x.ok.size)⟩, rfl⟩

theorem Ext.call_same {P : Program} {W0 : World} {f : FuncId} {args : Array Value} {v : Value} (q : ∀ V, Calls P f args V fun e W' => e = .returned v ∧ V = W') (x : Ext W0) :
    Calls P f args x.val fun e w'' => e = .returned v ∧ ∃ y : Ext W0, w'' = y.val :=
  (q x.val).mono fun _ _ ⟨he, hb⟩ => ⟨he, x, hb.symm⟩

theorem Ext.cell {W0 : World} (x : Ext W0) {p : Addr} (hp : p.block < W0.heap.size) {v : Value} (h : W0.cell? p = some v) : x.val.cell? p = some v := (x.ok.cell hp).trans h

end Go.Proofs.YtafmoceinamcdaaGreat

namespace Go.Proofs.YtafmoceinamcdaaGreat
open Go.RowKit
set_option linter.unusedVariables false
set_option linter.unusedSimpArgs false

theorem ok_ls {P : Program} {w : World} {T E : TypeId} {m : Md} (hu : P.underlying T = some (.slice E)) (h : Ok P w T m) : ∃ a n c ms, m = .ls a n c ms ∧ (n : Int) ≤ 9223372036854775807 := by
  cases h with
  | str hT _ => rw [hu] at hT; cases hT
  | num hT _ => rw [hu] at hT; cases hT
  | tru hT => rw [hu] at hT; cases hT
  | ls hT hnc hm => exact ⟨_, _, _, _, rfl, by unfold maxLen at hm; omega⟩

theorem ok_str {P : Program} {w : World} {T : TypeId} {m : Md} (hu : P.underlying T = some .string) (h : Ok P w T m) : ∃ s, m = .str s ∧ s.size ≤ maxLen := by
  cases h with
  | str _ hs => exact ⟨_, rfl, hs⟩
  | num hT _ => rw [hu] at hT; cases hT
  | tru hT => rw [hu] at hT; cases hT
  | ls hT => rw [hu] at hT; cases hT

theorem flds_msg : flds Tryz.prog 40 = [9, 33, 34, 35, 36, 33, 37, 36, 30, 38, 38] := by kernel_rfl

theorem msg_at {w : World} {a : Option Addr} {n c : Nat} {ms : List Md} (h : Ok Tryz.prog w 34 (.ls a n c ms)) (i : Nat) (hi : i < n) :
    ∃ b off s a1 n1 c1 m1 a2 n2 c2 m2 a3 n3 c3 m3 a4 n4 c4 m4 a5 n5 c5 m5 a6 n6 c6 m6 a7 n7 c7 m7 a8 n8 c8 m8 a9 n9 c9 m9 a10 n10 c10 m10, a = some ⟨b, off, none⟩ ∧ b < w.heap.size ∧ w.cell? ⟨b, off + i * 11, none⟩ = some (.string s) ∧ w.cell? ⟨b, off + i * 11 + 1, none⟩ = some (.slice a1 n1 c1) ∧ w.cell? ⟨b, off + i * 11 + 2, none⟩ = some (.slice a2 n2 c2) ∧ w.cell? ⟨b, off + i * 11 + 3, none⟩ = some (.slice a3 n3 c3) ∧ w.cell? ⟨b, off + i * 11 + 4, none⟩ = some (.slice a4 n4 c4) ∧ w.cell? ⟨b, off + i * 11 + 5, none⟩ = some (.slice a5 n5 c5) ∧ w.cell? ⟨b, off + i * 11 + 6, none⟩ = some (.slice a6 n6 c6) ∧ w.cell? ⟨b, off + i * 11 + 7, none⟩ = some (.slice a7 n7 c7) ∧ w.cell? ⟨b, off + i * 11 + 8, none⟩ = some (.slice a8 n8 c8) ∧ w.cell? ⟨b, off + i * 11 + 9, none⟩ = some (.slice a9 n9 c9) ∧ w.cell? ⟨b, off + i * 11 + 10, none⟩ = some (.slice a10 n10 c10) ∧
      Ok Tryz.prog w 33 (.ls a1 n1 c1 m1) ∧ (n1 : Int) ≤ 9223372036854775807 ∧ Ok Tryz.prog w 34 (.ls a2 n2 c2 m2) ∧ (n2 : Int) ≤ 9223372036854775807 ∧ Ok Tryz.prog w 35 (.ls a3 n3 c3 m3) ∧ (n3 : Int) ≤ 9223372036854775807 ∧ Ok Tryz.prog w 36 (.ls a4 n4 c4 m4) ∧ (n4 : Int) ≤ 9223372036854775807 ∧ Ok Tryz.prog w 33 (.ls a5 n5 c5 m5) ∧ (n5 : Int) ≤ 9223372036854775807 ∧ Ok Tryz.prog w 37 (.ls a6 n6 c6 m6) ∧ (n6 : Int) ≤ 9223372036854775807 ∧ Ok Tryz.prog w 36 (.ls a7 n7 c7 m7) ∧ (n7 : Int) ≤ 9223372036854775807 ∧ Ok Tryz.prog w 30 (.ls a8 n8 c8 m8) ∧ (n8 : Int) ≤ 9223372036854775807 ∧ Ok Tryz.prog w 38 (.ls a9 n9 c9 m9) ∧ (n9 : Int) ≤ 9223372036854775807 ∧ Ok Tryz.prog w 38 (.ls a10 n10 c10 m10) ∧ (n10 : Int) ≤ 9223372036854775807 := by
  cases h with
  | ls hT hnc hm hnil hlen hmem hk =>
    rename_i E
    have hE : E = 40 := by
      have := Tryz.underlying34
      rw [this] at hT
      cases hT
      rfl
    subst hE
    rw [flds_msg] at hlen hk
    obtain ⟨b, off, rfl, hb, hc⟩ := hmem (by omega)
    have hg : ∀ j, j < 11 → ∃ m, ms[i * 11 + j]? = some m := fun j hj => ⟨_, List.getElem?_eq_getElem (by simp at hlen; omega)⟩
    have hmod : ∀ j, j < 11 → (i * 11 + j) % 11 = j := fun j hj => by omega
    obtain ⟨x0, hx0⟩ := hg 0 (by omega)
    have ok0 := hk _ _ 9 hx0 (by rw [show ([9, 33, 34, 35, 36, 33, 37, 36, 30, 38, 38] : List TypeId).length = 11 from rfl, hmod 0 (by omega)]; rfl)
    have cl0 := hc _ _ hx0
    obtain ⟨x1, hx1⟩ := hg 1 (by omega)
    have ok1 := hk _ _ 33 hx1 (by rw [show ([9, 33, 34, 35, 36, 33, 37, 36, 30, 38, 38] : List TypeId).length = 11 from rfl, hmod 1 (by omega)]; rfl)
    have cl1 := hc _ _ hx1
    obtain ⟨x2, hx2⟩ := hg 2 (by omega)
    have ok2 := hk _ _ 34 hx2 (by rw [show ([9, 33, 34, 35, 36, 33, 37, 36, 30, 38, 38] : List TypeId).length = 11 from rfl, hmod 2 (by omega)]; rfl)
    have cl2 := hc _ _ hx2
    obtain ⟨x3, hx3⟩ := hg 3 (by omega)
    have ok3 := hk _ _ 35 hx3 (by rw [show ([9, 33, 34, 35, 36, 33, 37, 36, 30, 38, 38] : List TypeId).length = 11 from rfl, hmod 3 (by omega)]; rfl)
    have cl3 := hc _ _ hx3
    obtain ⟨x4, hx4⟩ := hg 4 (by omega)
    have ok4 := hk _ _ 36 hx4 (by rw [show ([9, 33, 34, 35, 36, 33, 37, 36, 30, 38, 38] : List TypeId).length = 11 from rfl, hmod 4 (by omega)]; rfl)
    have cl4 := hc _ _ hx4
    obtain ⟨x5, hx5⟩ := hg 5 (by omega)
    have ok5 := hk _ _ 33 hx5 (by rw [show ([9, 33, 34, 35, 36, 33, 37, 36, 30, 38, 38] : List TypeId).length = 11 from rfl, hmod 5 (by omega)]; rfl)
    have cl5 := hc _ _ hx5
    obtain ⟨x6, hx6⟩ := hg 6 (by omega)
    have ok6 := hk _ _ 37 hx6 (by rw [show ([9, 33, 34, 35, 36, 33, 37, 36, 30, 38, 38] : List TypeId).length = 11 from rfl, hmod 6 (by omega)]; rfl)
    have cl6 := hc _ _ hx6
    obtain ⟨x7, hx7⟩ := hg 7 (by omega)
    have ok7 := hk _ _ 36 hx7 (by rw [show ([9, 33, 34, 35, 36, 33, 37, 36, 30, 38, 38] : List TypeId).length = 11 from rfl, hmod 7 (by omega)]; rfl)
    have cl7 := hc _ _ hx7
    obtain ⟨x8, hx8⟩ := hg 8 (by omega)
    have ok8 := hk _ _ 30 hx8 (by rw [show ([9, 33, 34, 35, 36, 33, 37, 36, 30, 38, 38] : List TypeId).length = 11 from rfl, hmod 8 (by omega)]; rfl)
    have cl8 := hc _ _ hx8
    obtain ⟨x9, hx9⟩ := hg 9 (by omega)
    have ok9 := hk _ _ 38 hx9 (by rw [show ([9, 33, 34, 35, 36, 33, 37, 36, 30, 38, 38] : List TypeId).length = 11 from rfl, hmod 9 (by omega)]; rfl)
    have cl9 := hc _ _ hx9
    obtain ⟨x10, hx10⟩ := hg 10 (by omega)
    have ok10 := hk _ _ 38 hx10 (by rw [show ([9, 33, 34, 35, 36, 33, 37, 36, 30, 38, 38] : List TypeId).length = 11 from rfl, hmod 10 (by omega)]; rfl)
    have cl10 := hc _ _ hx10
    obtain ⟨s, rfl, _⟩ := ok_str Tryz.underlying9 ok0
    obtain ⟨a1, n1, c1, m1, rfl, l1⟩ := ok_ls Tryz.underlying33 ok1
    obtain ⟨a2, n2, c2, m2, rfl, l2⟩ := ok_ls Tryz.underlying34 ok2
    obtain ⟨a3, n3, c3, m3, rfl, l3⟩ := ok_ls Tryz.underlying35 ok3
    obtain ⟨a4, n4, c4, m4, rfl, l4⟩ := ok_ls Tryz.underlying36 ok4
    obtain ⟨a5, n5, c5, m5, rfl, l5⟩ := ok_ls Tryz.underlying33 ok5
    obtain ⟨a6, n6, c6, m6, rfl, l6⟩ := ok_ls Tryz.underlying37 ok6
    obtain ⟨a7, n7, c7, m7, rfl, l7⟩ := ok_ls Tryz.underlying36 ok7
    obtain ⟨a8, n8, c8, m8, rfl, l8⟩ := ok_ls Tryz.underlying30 ok8
    obtain ⟨a9, n9, c9, m9, rfl, l9⟩ := ok_ls Tryz.underlying38 ok9
    obtain ⟨a10, n10, c10, m10, rfl, l10⟩ := ok_ls Tryz.underlying38 ok10
    refine ⟨b, off, s, a1, n1, c1, m1, a2, n2, c2, m2, a3, n3, c3, m3, a4, n4, c4, m4, a5, n5, c5, m5, a6, n6, c6, m6, a7, n7, c7, m7, a8, n8, c8, m8, a9, n9, c9, m9, a10, n10, c10, m10, rfl, hb, ?_, ?_, ?_, ?_, ?_, ?_, ?_, ?_, ?_, ?_, ?_, ok1, l1, ok2, l2, ok3, l3, ok4, l4, ok5, l5, ok6, l6, ok7, l7, ok8, l8, ok9, l9, ok10, l10⟩
    · simpa [Md.val] using cl0
    · simpa [Md.val, Nat.add_assoc] using cl1
    · simpa [Md.val, Nat.add_assoc] using cl2
    · simpa [Md.val, Nat.add_assoc] using cl3
    · simpa [Md.val, Nat.add_assoc] using cl4
    · simpa [Md.val, Nat.add_assoc] using cl5
    · simpa [Md.val, Nat.add_assoc] using cl6
    · simpa [Md.val, Nat.add_assoc] using cl7
    · simpa [Md.val, Nat.add_assoc] using cl8
    · simpa [Md.val, Nat.add_assoc] using cl9
    · simpa [Md.val, Nat.add_assoc] using cl10

set_option maxRecDepth 100000 in
set_option maxHeartbeats 4000000 in
theorem fcount_any : ∀ (d : Nat) (D : Int) (hD : D + (d : Int) = 71) (a : Option Addr) (n c : Nat) (ms : List Md) (x : Int) (hx0 : 0 ≤ x) (hx : x ≤ 1000) (w : World) (h : Hid (Ok Tryz.prog w 34 (.ls a n c ms))) (hd0 : 0 ≤ D),
    Calls Tryz.prog 71 #[.slice a n c, .int .i64 x, .int .i64 D] w fun e w' => ∃ y : Int, e = .returned (.int .i64 y) ∧ 0 ≤ y ∧ y ≤ 1000 ∧ Below w.heap.size w w'
  | 0, D, hD, a, n, c, ms, x, hx0, hx, w, h, hd0 => by
    have hD' : D = 71 := by omega
    subst hD'
    go_enter Tryz.func71, Tryz.ntmps71
    go_wp2
    go_ret
    exact ⟨1000, rfl, by omega, by omega, Below.refl _ _⟩
  | d + 1, D, hD, a, n, c, ms, x, hx0, hx, w, h, hd0 => by
    have hd70 : D ≤ 70 := by omega
    have IH : Hid _ := fcount_any d (D + 1) (by omega)
    have hn : (n : Int) ≤ 9223372036854775807 := by
      obtain ⟨_, _, _, _, e, hl⟩ := ok_ls Tryz.underlying34 h.out
      cases e
      exact hl
    go_enter Tryz.func71, Tryz.ntmps71
    go_wp2
    go_loopw [1, 13] (fun y i wr => ∃ (k : Nat) (z : Int), k ≤ n ∧ i = .int .i64 (k : Int) ∧ y = .int .i64 z ∧ 0 ≤ z ∧ z ≤ 1000 ∧ Hid (Below w.heap.size w wr)) (fun _ i _ => n - (intOf i).toNat)
    case atStart => exact ⟨0, x, Nat.zero_le _, rfl, rfl, hx0, hx, Below.refl _ _⟩
    case round =>
      obtain ⟨k, z, hk, rfl, rfl, z0, z1, HW⟩ := hrel
      by_cases hlk : k < n
      · obtain ⟨b, off, s, p1, n1, q1, m1, p2, n2, q2, m2, p3, n3, q3, m3, p4, n4, q4, m4, p5, n5, q5, m5, p6, n6, q6, m6, p7, n7, q7, m7, p8, n8, q8, m8, p9, n9, q9, m9, p10, n10, q10, m10, rfl, hlt, cc0, cc1, cc2, cc3, cc4, cc5, cc6, cc7, cc8, cc9, cc10, o1, l1, o2, l2, o3, l3, o4, l4, o5, l5, o6, l6, o7, l7, o8, l8, o9, l9, o10, l10⟩ := msg_at h.out k hlk
        have d0 := (HW.out.cell (p := ⟨b, off + k * 11, none⟩) hlt).trans cc0
        have d1 := (HW.out.cell (p := ⟨b, off + k * 11 + 1, none⟩) hlt).trans cc1
        have d2 := (HW.out.cell (p := ⟨b, off + k * 11 + 2, none⟩) hlt).trans cc2
        have d3 := (HW.out.cell (p := ⟨b, off + k * 11 + 3, none⟩) hlt).trans cc3
        have d4 := (HW.out.cell (p := ⟨b, off + k * 11 + 4, none⟩) hlt).trans cc4
        have d5 := (HW.out.cell (p := ⟨b, off + k * 11 + 5, none⟩) hlt).trans cc5
        have d6 := (HW.out.cell (p := ⟨b, off + k * 11 + 6, none⟩) hlt).trans cc6
        have d7 := (HW.out.cell (p := ⟨b, off + k * 11 + 7, none⟩) hlt).trans cc7
        have d8 := (HW.out.cell (p := ⟨b, off + k * 11 + 8, none⟩) hlt).trans cc8
        have d9 := (HW.out.cell (p := ⟨b, off + k * 11 + 9, none⟩) hlt).trans cc9
        have d10 := (HW.out.cell (p := ⟨b, off + k * 11 + 10, none⟩) hlt).trans cc10
        have O2 : Hid _ := o2
        clear h cc0 cc1 cc2 cc3 cc4 cc5 cc6 cc7 cc8 cc9 cc10 o1 o2 o3 o4 o5 o6 o7 o8 o9 o10 l2 l9 l10
        have hsz := HW.out.size
        have HA : Hid (∀ o, Below w.heap.size w (wr.alloc o)) := fun o => HW.out.alloc HW.out.size o
        by_cases h100 : 100 < z + 1
        · go_wp2
          go_ret
          exact ⟨1000, rfl, by omega, by omega, HA.out _⟩
        · go_wp2_with fail
          · go_ret
            exact ⟨1000, rfl, by omega, by omega, HA.out _⟩
          · refine Calls.mono (IH.out p2 n2 q2 m2 (z + 1) (by omega) (by omega) _ (show Hid _ from O2.out.under (HA.out _) (Nat.le_refl _)) (by omega)) ?_
            rintro e w3 ⟨y, rfl, y0, y1, hb3⟩
            have HB3 : Hid (Below w.heap.size w w3) := (HA.out _).trans (hb3.mono (by simp; omega))
            clear hb3 IH O2 HA
            go_wp2
            go_roundw
            case rel => exact ⟨k + 1, y, by omega, by go_num, rfl, y0, y1, HB3.out⟩
            case measure => simp [intOf]; omega
      · go_wp2
        go_ret
        exact ⟨z, rfl, z0, z1, HW.out⟩

set_option maxHeartbeats 1000000 in
theorem peach0_str (a : Option Addr) (c : Nat) (f : Value) (w : World) :
    Calls Tryz.prog 74 #[.slice a 0 c, f] w fun e w' => e = .returned (.slice none 0 0) ∧ w = w' := by
  go_enter Tryz.func74, Tryz.ntmps74
  go_wp2
  go_loopw [5, 10] (fun u v wr => u = .slice none 0 0 ∧ v = .int .i64 0 ∧ w = wr) (fun _ _ _ => 0)
  case atStart => exact ⟨rfl, rfl, rfl⟩
  case round =>
    obtain ⟨rfl, rfl, rfl⟩ := hrel
    go_wp2
    go_ret
    exact ⟨rfl, rfl⟩

set_option maxHeartbeats 1000000 in
theorem peach0_int (a : Option Addr) (c : Nat) (f : Value) (w : World) :
    Calls Tryz.prog 110 #[.slice a 0 c, f] w fun e w' => e = .returned (.slice none 0 0) ∧ w = w' := by
  go_enter Tryz.func110, Tryz.ntmps110
  go_wp2
  go_loopw [5, 10] (fun u v wr => u = .slice none 0 0 ∧ v = .int .i64 0 ∧ w = wr) (fun _ _ _ => 0)
  case atStart => exact ⟨rfl, rfl, rfl⟩
  case round =>
    obtain ⟨rfl, rfl, rfl⟩ := hrel
    go_wp2
    go_ret
    exact ⟨rfl, rfl⟩

set_option maxHeartbeats 1000000 in
theorem peach0_fld (a : Option Addr) (c : Nat) (f : Value) (w : World) :
    Calls Tryz.prog 78 #[.slice a 0 c, f] w fun e w' => e = .returned (.slice none 0 0) ∧ w = w' := by
  go_enter Tryz.func78, Tryz.ntmps78
  go_wp2
  go_loopw [5, 10] (fun u v wr => u = .slice none 0 0 ∧ v = .int .i64 0 ∧ w = wr) (fun _ _ _ => 0)
  case atStart => exact ⟨rfl, rfl, rfl⟩
  case round =>
    obtain ⟨rfl, rfl, rfl⟩ := hrel
    go_wp2
    go_ret
    exact ⟨rfl, rfl⟩

set_option maxHeartbeats 1000000 in
theorem peach0_enm (a : Option Addr) (c : Nat) (f : Value) (w : World) :
    Calls Tryz.prog 80 #[.slice a 0 c, f] w fun e w' => e = .returned (.slice none 0 0) ∧ w = w' := by
  go_enter Tryz.func80, Tryz.ntmps80
  go_wp2
  go_loopw [5, 10] (fun u v wr => u = .slice none 0 0 ∧ v = .int .i64 0 ∧ w = wr) (fun _ _ _ => 0)
  case atStart => exact ⟨rfl, rfl, rfl⟩
  case round =>
    obtain ⟨rfl, rfl, rfl⟩ := hrel
    go_wp2
    go_ret
    exact ⟨rfl, rfl⟩

set_option maxHeartbeats 1000000 in
theorem peach0_rng (a : Option Addr) (c : Nat) (f : Value) (w : World) :
    Calls Tryz.prog 81 #[.slice a 0 c, f] w fun e w' => e = .returned (.slice none 0 0) ∧ w = w' := by
  go_enter Tryz.func81, Tryz.ntmps81
  go_wp2
  go_loopw [5, 10] (fun u v wr => u = .slice none 0 0 ∧ v = .int .i64 0 ∧ w = wr) (fun _ _ _ => 0)
  case atStart => exact ⟨rfl, rfl, rfl⟩
  case round =>
    obtain ⟨rfl, rfl, rfl⟩ := hrel
    go_wp2
    go_ret
    exact ⟨rfl, rfl⟩

set_option maxHeartbeats 1000000 in
theorem peach0_one (a : Option Addr) (c : Nat) (f : Value) (w : World) :
    Calls Tryz.prog 83 #[.slice a 0 c, f] w fun e w' => e = .returned (.slice none 0 0) ∧ w = w' := by
  go_enter Tryz.func83, Tryz.ntmps83
  go_wp2
  go_loopw [5, 10] (fun u v wr => u = .slice none 0 0 ∧ v = .int .i64 0 ∧ w = wr) (fun _ _ _ => 0)
  case atStart => exact ⟨rfl, rfl, rfl⟩
  case round =>
    obtain ⟨rfl, rfl, rfl⟩ := hrel
    go_wp2
    go_ret
    exact ⟨rfl, rfl⟩

set_option maxHeartbeats 1000000 in
theorem peach0_srv (a : Option Addr) (c : Nat) (f : Value) (w : World) :
    Calls Tryz.prog 99 #[.slice a 0 c, f] w fun e w' => e = .returned (.slice none 0 0) ∧ w = w' := by
  go_enter Tryz.func99, Tryz.ntmps99
  go_wp2
  go_loopw [5, 10] (fun u v wr => u = .slice none 0 0 ∧ v = .int .i64 0 ∧ w = wr) (fun _ _ _ => 0)
  case atStart => exact ⟨rfl, rfl, rfl⟩
  case round =>
    obtain ⟨rfl, rfl, rfl⟩ := hrel
    go_wp2
    go_ret
    exact ⟨rfl, rfl⟩

set_option maxRecDepth 10000 in
theorem ptexts0 (a : Option Addr) (c : Nat) (w : World) :
    Calls Tryz.prog 36 #[.slice a 0 c] w fun e w' => e = .returned (.slice none 0 0) ∧ w = w' := by
  go_enter Tryz.func36, Tryz.ntmps36
  go_wp2_with fail
  refine Calls.mono (peach0_str a c _ w) ?_
  rintro e w1 ⟨rfl, rfl⟩
  go_wp2
  go_ret
  exact ⟨rfl, rfl⟩

set_option maxRecDepth 10000 in
theorem pplaces0 (a : Option Addr) (c : Nat) (w : World) :
    Calls Tryz.prog 63 #[.slice a 0 c] w fun e w' => e = .returned (.slice none 0 0) ∧ w = w' := by
  go_enter Tryz.func63, Tryz.ntmps63
  go_wp2_with fail
  refine Calls.mono (peach0_int a c _ w) ?_
  rintro e w1 ⟨rfl, rfl⟩
  go_wp2
  go_ret
  exact ⟨rfl, rfl⟩

theorem pbclone0 (w : World) :
    Calls Tryz.prog 85 #[.slice none 0 0] w fun e w' => e = .returned (.slice none 0 0) ∧ w = w' := by
  have hrun : ∀ w, (binOp .eql 38 (.slice none 0 0) (.slice none 0 0)).run Tryz.prog w = .ok (.bool true) w := fun w => by kernel_rfl
  go_enter Tryz.func85, Tryz.ntmps85
  go_wp2
  go_ret
  exact ⟨rfl, rfl⟩

theorem punknown0 (lv : Value) (w : World) :
    Calls Tryz.prog 86 #[.agg #[lv, .bool false], .slice none 0 0] w fun e w' => e = .returned (.slice none 0 0) ∧ Below w.heap.size w w' := by
  have HB : Hid (Below w.heap.size w (w.alloc (.cells #[lv, .bool false] 100))) := (Below.refl _ _).alloc (Nat.le_refl _) _
  go_enter Tryz.func86, Tryz.ntmps86
  go_wp2_with fail
  refine Calls.mono (pbclone0 _) ?_
  rintro e w1 ⟨rfl, rfl⟩
  go_wp2
  go_ret
  exact ⟨rfl, HB.out⟩

theorem pmsgs0 (v : Value) (w : World) :
    Calls Tryz.prog 79 #[.agg #[.int .i64 0, .bool false], v] w fun e w' => e = .returned (.slice none 0 0) ∧ Below w.heap.size w w' := by
  have HB : Hid (Below w.heap.size w (w.alloc (.cells #[.int .i64 0, .bool false] 100))) := (Below.refl _ _).alloc (Nat.le_refl _) _
  go_enter Tryz.func79, Tryz.ntmps79
  go_wp2
  go_ret
  exact ⟨rfl, HB.out⟩

section
variable {P : Program} {ops : Array Oper} {md : Region.Mode} {C : World → Prop}

def wpAnyZ (P : Program) (md : Region.Mode) (ops : Array Oper) (C : World → Prop) (z : Nat) (E : Act → Prop) : Nat → Array Bool → Act → Prop
  | 0, listed, a => (∀ j ∈ Region.ready md ops listed, j = z) ∧ E a
  | fuel + 1, listed, a => (∃ k, k < z ∧ listed.getD k true = false) ∧ ∀ i ∈ Region.ready md ops listed, i ≠ z → qOp P ops C i (wpAnyZ P md ops C z E fuel (listed.setIfInBounds i true)) a

theorem wpAnyZ_first {E : Act → Prop} {z i : Nat} {oi : Oper} {v : Value} (hi : ops[i]? = some oi) (hiz : i < z) (hsel : ∀ (j : Nat) (o : Oper) cs b, ops[j]? = some o → o.op ≠ .select cs b) :
    ∀ (fuel : Nat) (listed : Array Bool) (a : Act),
      (∀ j oj, ops[j]? = some oj → j ≠ i → listed.getD j true = false → (∀ e ∈ oj.after, Region.binds md e = true → e.on ≠ i) → oi.apart ops oj = true) →
      i ∈ Region.ready md ops listed → YieldsIn P ops C oi v a →
      wpAnyZ P md ops C z E fuel (listed.setIfInBounds i true) (a.put oi.dst v) → wpAnyZ P md ops C z E (fuel + 1) listed a := by
  intro fuel
  induction fuel with
  | zero =>
    intro listed a _ hr hy H
    refine ⟨⟨i, hiz, (mem_ready.1 hr).1⟩, fun j hj hjz => ?_⟩
    by_cases hji : j = i
    · subst hji; exact hy.qOp hi H
    · exact absurd (H.1 j (ready_mono hj hji)) hjz
  | succ fuel ih =>
    intro listed a hfree hr hy H
    refine ⟨⟨i, hiz, (mem_ready.1 hr).1⟩, fun j hj hjz => ?_⟩
    by_cases hji : j = i
    · subst hji; exact hy.qOp hi H
    · have h1 := H.2 j (ready_mono hj hji) hjz
      obtain ⟨hjun, oj, hoj, hall⟩ := mem_ready.1 hj
      have hnot : ∀ e ∈ oj.after, Region.binds md e = true → e.on ≠ i := fun e he hb heq => by
        have h1 := hall e he hb
        have h0 := (mem_ready.1 hr).1
        rw [heq] at h1
        rcases Nat.lt_or_ge i listed.size with h' | h'
        · simp [h'] at h0 h1; rw [h0] at h1; cases h1
        · simp [Array.getElem?_eq_none h'] at h1
      have h2 := qOp_put hoj (hfree j oj hoj hji hjun hnot) (fun cs b => hsel i oi cs b hi) (fun cs b => hsel j oj cs b hoj) hy h1
      have hfree' : ∀ k ok, ops[k]? = some ok → k ≠ i → (listed.setIfInBounds j true).getD k true = false →
          (∀ e ∈ ok.after, Region.binds md e = true → e.on ≠ i) → oi.apart ops ok = true := fun k ok hk hki hun hno => by
        refine hfree k ok hk hki ?_ hno
        by_cases hjk : j = k
        · subst hjk; exact hjun
        · rw [getD_set_ne true hjk] at hun; exact hun
      refine qOp_mono (fun a' h3 => ih (listed.setIfInBounds j true) a' hfree' (ready_mono hr (Ne.symm hji)) h3.1 ?_) h2
      rw [Array.setIfInBounds_comm _ _ hji]
      exact h3.2

def lexZ (md : Region.Mode) (ops : Array Oper) (z : Nat) : Nat → Nat → Array Bool → Bool
  | 0, _, listed => (Region.ready md ops listed).all (fun j => decide (j = z))
  | fuel + 1, k, listed => (Region.ready md ops listed).contains k && Region.free md ops listed k && decide (k < z) && lexZ md ops z fuel (k + 1) (listed.setIfInBounds k true)

theorem wpAnyZ_lex {E : Act → Prop} {z : Nat} (hs : Region.noSelect ops = true) : ∀ (l : List Oper) (k : Nat) (listed : Array Bool) (a : Act), (∀ j, j < l.length → l[j]? = ops[k + j]?) →
    lexZ md ops z l.length k listed = true → wpQuiet P ops C E l a → wpAnyZ P md ops C z E l.length listed a
  | [], _, _, _, _, hB, h => ⟨fun j hj => by simpa using List.all_eq_true.1 hB j hj, h⟩
  | o :: l, k, listed, a, hl, hB, h => by
    have h0 : ops[k]? = some o := by simpa using (hl 0 (by simp)).symm
    simp only [List.length_cons, lexZ, Bool.and_eq_true] at hB
    obtain ⟨⟨⟨hr, hf⟩, hk⟩, hB'⟩ := hB
    have hst : qOp P ops C k (wpQuiet P ops C E l) a := by unfold qOp; simp only [h0]; exact h
    obtain ⟨v, hy, hK⟩ := yieldsIn_of_qOp h0 hst
    exact wpAnyZ_first h0 (of_decide_eq_true hk) (Region.noSelect_spec hs) l.length listed a (Region.free_spec h0 hf) (by simpa using hr) hy
      (wpAnyZ_lex hs l (k + 1) _ _ (fun j hj => by have := hl (j + 1) (by simp; omega); simpa [Nat.add_assoc, Nat.add_comm 1 j] using this) hB' hK)

def waited (md : Region.Mode) (ops : Array Oper) (z : Nat) : Bool :=
  decide (ops.size = z + 1) && (List.range ops.size).all (fun i => match ops[i]? with
    | some o => o.after.all (fun e => !Region.binds md e || decide (e.on < i))
    | none => false) && (List.range z).all (fun k => (List.range ops.size).any (fun i => match ops[i]? with
    | some o => o.after.any (fun e => Region.binds md e && decide (e.on = k))
    | none => false))

def Dc (md : Region.Mode) (ops : Array Oper) (listed : Array Bool) : Prop :=
  ∀ (i : Nat) (o : Oper), ops[i]? = some o → listed.getD i true = true → ∀ e ∈ o.after, Region.binds md e = true → listed.getD e.on true = true

theorem getD_set_t (l : Array Bool) (i k : Nat) (h : l.getD k true = true) : (l.setIfInBounds i true).getD k true = true := by
  by_cases hk : i = k
  · subst hk
    by_cases hi : i < l.size
    · simp [hi]
    · simp [Array.getD_eq_getD_getElem?, hi]
  · rw [getD_set_ne true hk]; exact h

theorem ready_true {i : Nat} {listed : Array Bool} (hi : i ∈ Region.ready md ops listed) : ∃ o, ops[i]? = some o ∧ listed.getD i true = false ∧ ∀ e ∈ o.after, Region.binds md e = true → listed.getD e.on true = true := by
  obtain ⟨h1, o, ho, h2⟩ := mem_ready.1 hi
  refine ⟨o, ho, h1, fun e he hb => ?_⟩
  have := h2 e he hb
  rw [Array.getD_eq_getD_getElem?] at this ⊢
  cases hq : listed[e.on]? with
  | none => simp
  | some b => rw [hq] at this; simpa using this

theorem Dc.set {i : Nat} {listed : Array Bool} (h : Dc md ops listed) (hi : i ∈ Region.ready md ops listed) (hs : listed.size = ops.size) : Dc md ops (listed.setIfInBounds i true) := by
  intro k o ho hk e he hb
  obtain ⟨oi, hoi, _, h2⟩ := ready_true hi
  refine getD_set_t _ _ _ ?_
  by_cases hki : i = k
  · subst hki
    rw [hoi] at ho
    cases ho
    exact h2 e he hb
  · rw [getD_set_ne true hki] at hk
    exact h k o ho hk e he hb

theorem all_listed {z : Nat} (hw : waited md ops z = true) {listed : Array Bool} (h : Dc md ops listed) (hz : z ∈ Region.ready md ops listed) : ∀ k, k < z → listed.getD k true = true := by
  simp only [waited, Bool.and_eq_true, decide_eq_true_eq] at hw
  obtain ⟨⟨hsz, hlt⟩, hall⟩ := hw
  have key : ∀ d k, k + d = z → d ≠ 0 → listed.getD k true = true := by
    intro d
    induction d using Nat.strongRecOn with
    | _ d ih =>
      intro k hk hd
      have h1 := List.all_eq_true.1 hall k (List.mem_range.2 (by omega))
      obtain ⟨i, hi, h2⟩ := List.any_eq_true.1 h1
      have hi' := List.mem_range.1 hi
      cases ho : ops[i]? with
      | none => rw [ho] at h2; cases h2
      | some o =>
        rw [ho] at h2
        obtain ⟨j, hj, h3⟩ := Array.any_eq_true.1 h2
        rw [Bool.and_eq_true] at h3
        have hon : o.after[j].on = k := of_decide_eq_true h3.2
        have hki : k < i := by
          have h4 := List.all_eq_true.1 hlt i hi
          rw [ho] at h4
          have h5 := Array.all_eq_true_iff_forall_mem.1 h4 o.after[j] (Array.getElem_mem hj)
          rw [h3.1] at h5
          rw [← hon]
          simpa using h5
        by_cases hiz : i = z
        · subst hiz
          obtain ⟨oz, hoz, _, h5⟩ := ready_true hz
          rw [hoz] at ho
          cases ho
          rw [← hon]
          exact h5 _ (Array.getElem_mem hj) h3.1
        · have h5 := ih (z - i) (by omega) i (by omega) (by omega)
          rw [← hon]
          exact h i o ho h5 _ (Array.getElem_mem hj) h3.1
  intro k hk
  exact key (z - k) k (by omega) (by omega)

theorem some_ready {z : Nat} (hw : waited md ops z = true) {listed : Array Bool} (hs : listed.size = ops.size) (hz : listed.getD z true = false) : ∃ k, k ∈ Region.ready md ops listed := by
  simp only [waited, Bool.and_eq_true, decide_eq_true_eq] at hw
  obtain ⟨⟨hsz, hlt⟩, _⟩ := hw
  have key : ∀ i, i ≤ z → listed.getD i true = false → ∃ k, k ∈ Region.ready md ops listed := by
    intro i
    induction i using Nat.strongRecOn with
    | _ i ih =>
      intro hi hu
      by_cases hall : ∀ j, j < i → listed.getD j true = true
      · have hio : i < ops.size := by omega
        refine ⟨i, mem_ready.2 ⟨hu, ops[i], Array.getElem?_eq_getElem hio, fun e he hb => ?_⟩⟩
        have h4 := List.all_eq_true.1 hlt i (List.mem_range.2 hio)
        rw [Array.getElem?_eq_getElem hio] at h4
        have h5 := Array.all_eq_true_iff_forall_mem.1 h4 e he
        rw [hb] at h5
        have h6 : e.on < i := by simpa using h5
        have := hall e.on h6
        have hl : e.on < listed.size := by omega
        simp [hl] at this ⊢
        exact this
      · obtain ⟨j, hj⟩ := Classical.not_forall.1 hall
        obtain ⟨h1, h2⟩ := Classical.not_imp.1 hj
        exact ih j h1 (by omega) (by simpa using h2)
  exact key z (Nat.le_refl _) hz

theorem wpAny_of_Z {z : Nat} (hw : waited md ops z = true) {E : Act → Prop} {Q : Exit → Act → World → Prop} (hE : ∀ a w, C w → E a → wpOp P ops Q z (fun a' w' => Q .normal a' w') a w) :
    ∀ (fuel : Nat) (listed : Array Bool) (a : Act) (w : World), C w → listed.size = ops.size → listed.getD z true = false → Dc md ops listed → wpAnyZ P md ops C z E fuel listed a → wpAny P md ops Q (fuel + 1) listed a w
  | 0, listed, a, w, hC, hs, hz, hd, h => by
    refine ⟨fun h0 => ?_, fun i hi => ?_⟩
    · obtain ⟨k, hk⟩ := some_ready hw hs hz
      rw [h0] at hk
      cases hk
    · obtain rfl := h.1 i hi
      refine wpOp_mono (fun a' w' h' => ⟨?_, h'⟩) (hE a w hC h.2)
      refine List.eq_nil_iff_forall_not_mem.2 fun j hj => ?_
      have hall := all_listed hw hd hi
      have hj1 := (mem_ready.1 hj).1
      have hsz : ops.size = i + 1 := by simp only [waited, Bool.and_eq_true, decide_eq_true_eq] at hw; exact hw.1.1
      have hjs : j < i + 1 := by
        obtain ⟨_, o, ho, _⟩ := mem_ready.1 hj
        have := (Array.getElem?_eq_some_iff.1 ho).1
        omega
      by_cases hji : j = i
      · subst hji
        have hl : j < listed.size := by omega
        simp [hl] at hj1
      · have := getD_set_t listed i j (hall j (by omega))
        rw [this] at hj1
        cases hj1
  | fuel + 1, listed, a, w, hC, hs, hz, hd, h => by
    refine ⟨fun h0 => ?_, fun i hi => ?_⟩
    · obtain ⟨k, hk⟩ := some_ready hw hs hz
      rw [h0] at hk
      cases hk
    · by_cases hiz : i = z
      · subst hiz
        obtain ⟨k, hk, hk2⟩ := h.1
        have := all_listed hw hd hi k hk
        rw [this] at hk2
        cases hk2
      · exact wpOp_of_qOp hC (fun a' w' hC' h' => wpAny_of_Z hw hE fuel _ a' w' hC' (by simpa using hs) (by rw [getD_set_ne true hiz]; exact hz) (hd.set hi hs) h') (h.2 i hi hiz)

theorem wp_region_last {id : Nat} {Q : Exit → Act → World → Prop} {a : Act} {w : World} (C : World → Prop) {l : List Oper} {oz : Oper} (hm : P.follows .mixedOrders = true)
    (hs : Region.noSelect (l ++ [oz]).toArray = true) (hl : lexZ .any (l ++ [oz]).toArray l.length l.length 0 (Array.replicate (l ++ [oz]).length false) = true) (hw : waited .any (l ++ [oz]).toArray l.length = true) (hC : C { w with drawn := w.drawn + 1 })
    (h : wpQuiet P (l ++ [oz]).toArray C (fun a' => ∀ w', C w' → wpOp P (l ++ [oz]).toArray Q l.length (fun a'' w'' => Q .normal a'' w'') a' w') l a) : (Code.region id (l ++ [oz]).toArray true).wp P Q a w := by
  refine wp_region_any hm ?_
  have h1 := wpAnyZ_lex (C := C) (md := .any) hs l 0 (Array.replicate (l ++ [oz]).length false) a (fun j hj => by simp [List.getElem?_append_left hj]) hl h
  have h2 := wpAny_of_Z (C := C) hw (Q := Q) (E := fun a' => ∀ w', C w' → wpOp P (l ++ [oz]).toArray Q l.length (fun a'' w'' => Q .normal a'' w'') a' w') (fun a w hc he => he w hc) l.length _ a _ hC (by simp) (by simp) (fun i o ho hi e he hb => by
    have : i < (l ++ [oz]).length := by simpa using (Array.getElem?_eq_some_iff.1 ho).1
    rw [Array.getD_eq_getD_getElem?, Array.getElem?_replicate, if_pos this] at hi
    cases hi) h1
  simpa using h2

end

theorem wpOp_listV {P : Program} {ops : Array Oper} {Q : Exit → Act → World → Prop} {i : Nat} {K : Act → World → Prop} {a : Act} {w : World} {o : Oper} (ho : ops[i]? = some o)
    (h : ∀ Q' : Exit → Act → World → Prop, (∀ a w, K a w → Q' .normal a w) → wpList P ops Q' [o] a w) : wpOp P ops Q i K a w := by
  have h1 := h (fun e a w => match e with | .normal => K a w | e => Q e a w) (fun _ _ h => h)
  unfold wpOp
  simp only [ho]
  simp only [wpList] at h1
  split
  · rename_i hw
    rw [if_pos hw] at h1
    refine h1.imp (fun h2 => ?_) (fun h2 => ⟨h2.1, h2.2⟩)
    unfold Oper.wp at *
    generalize (execOp a.eval o).run P w = r at *
    cases r with
    | ok n w' =>
      cases n <;> simp only [Oper.upon] at h2 ⊢ <;>
        first
          | exact h2
          | exact Calls.mono h2 (fun e w'' he => by cases e <;> exact he)
    | halt x w' => cases x <;> simp only [Oper.upon] at h2 ⊢ <;> exact h2
  · rename_i hw
    rw [if_neg hw] at h1
    exact h1

theorem wp_region_elast0 {P : Program} {id : Nat} {Q : Exit → Act → World → Prop} {a : Act} {w : World} {l ls : List Oper} {oz : Oper} (W0 : World) (h0 : Below W0.heap.size W0 w) (he : ls = l ++ [oz]) (hm : P.follows .mixedOrders = true)
    (hs : Region.noSelect ls.toArray = true) (hl : lexZ .any ls.toArray l.length l.length 0 (Array.replicate ls.length false) = true) (hw : waited .any ls.toArray l.length = true)
    (h : wpQuiet P ls.toArray (fun w' => ∃ x : Ext W0, w' = x.val) (fun a' => ∀ w', (∃ x : Ext W0, w' = x.val) → ∀ Q' : Exit → Act → World → Prop, (∀ a w, Q .normal a w → Q' .normal a w) → wpList P ls.toArray Q' [oz] a' w') l a) : (Code.region id ls.toArray true).wp P Q a w := by
  subst he
  refine wp_region_last (fun w' => ∃ x : Ext W0, w' = x.val) hm hs hl hw ⟨⟨_, h0.drew⟩, rfl⟩ ?_
  have mono : ∀ (l' : List Oper) (a : Act) (Q1 Q2 : Act → Prop), (∀ a, Q1 a → Q2 a) → wpQuiet P (l ++ [oz]).toArray (fun w' => ∃ x : Ext W0, w' = x.val) Q1 l' a → wpQuiet P (l ++ [oz]).toArray (fun w' => ∃ x : Ext W0, w' = x.val) Q2 l' a := by
    intro l'
    induction l' with
    | nil => intro a Q1 Q2 hq h1; exact hq _ h1
    | cons o r ih =>
      intro a Q1 Q2 hq h1
      unfold wpQuiet at h1 ⊢
      split
      · rename_i hw'
        rw [if_pos hw'] at h1
        exact Oper.quiet_mono (fun a h2 => ih a Q1 Q2 hq h2) h1
      · rename_i hw'
        rw [if_neg hw'] at h1
        exact ih _ Q1 Q2 hq h1
  refine mono l a _ _ (fun a' h1 w' hx => ?_) h
  exact wpOp_listV (o := oz) (by simp) (fun Q' hq => h1 w' hx Q' (fun a w hh => hq a w hh))

theorem wp_region_elast {P : Program} {id : Nat} {Q : Exit → Act → World → Prop} {a : Act} {w : World} {ls : List Oper} {oz : Oper} (W0 : World) (h0 : Below W0.heap.size W0 w) (hz : ls.getLast? = some oz) (hm : P.follows .mixedOrders = true)
    (hs : Region.noSelect ls.toArray = true) (hl : lexZ .any ls.toArray ls.dropLast.length ls.dropLast.length 0 (Array.replicate ls.length false) = true) (hw : waited .any ls.toArray ls.dropLast.length = true)
    (h : wpQuiet P ls.toArray (fun w' => ∃ x : Ext W0, w' = x.val) (fun a' => ∀ w', (∃ x : Ext W0, w' = x.val) → ∀ Q' : Exit → Act → World → Prop, (∀ a w, Q .normal a w → Q' .normal a w) → wpList P ls.toArray Q' [oz] a' w') ls.dropLast a) : (Code.region id ls.toArray true).wp P Q a w :=
  wp_region_elast0 W0 h0 (by obtain ⟨l', rfl⟩ := List.getLast?_eq_some_iff.1 hz; simp) hm hs hl hw h

end Go.Proofs.YtafmoceinamcdaaGreat
