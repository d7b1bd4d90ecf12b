/- Put together by a program out of these texts of mine: Bas, VOb, CkSh, CkA, CkB, CkC. -/
import Derived.Test.YtcnjjhdmnagkgaaGreatDoorRows
import Derived.WalkKit
import Derived.WalkMore
import Derived.ScopeJumps
import Derived.OpenShut
import Derived.ProofKit
import Derived.Laws.BytesArg
import Derived.Shelf.Strconv.Itoa0
import Derived.Test.YtcnjjhdmnagkgaaGreatDoorProg
import Derived.RangeFuncNested
import Derived.RangeFuncBox
import Derived.RangeFuncBound
import Derived.RangeFuncCalls
import Derived.RangeFuncLeaves
import Derived.Shelf.Abstract
import Derived.Shelf.RegionOpen
import Derived.OwnWalkIn
import Derived.TacticsInMore
import Derived.LoopNIn
import Derived.LoopIn
import Derived.Maps.AppendAt
import Derived.Deep.DeepCutAuto

namespace Go.Proofs.YtcnjjhdmnagkgaaGreatDoor
open Go.RowKit

theorem Tryz.info5 : (Tryz.prog.info? 5).map (fun i => (i.zero, i.size, i.bytes)) = some (some (.int .u8 0), 1, 1) := by kernel_rfl

theorem one_new (w : World) (v : Value) (e : TypeId) : ∀ (j : Nat) (u : Value), [v][j]? = some u → (w.alloc (.cells #[v] e)).cell? (({ block := w.heap.size, off := 0 } : Addr).add j) = some u := by
  intro j u hj
  match j, hj with
  | 0, hj => simp at hj; subst hj; simp [Addr.add]
theorem one_cell (k : IntKind) (n : Int) : ∀ u, u ∈ [Value.int k n] → u.oneCell' = true := by
  intro u hu; simp at hu; subst hu; rfl

theorem row_open {w : World} {a : Option Addr} {len cap : Nat} {zs : List Int}
    (h : (a = none ∧ len = 0 ∧ cap = 0 ∧ zs = []) ∨ ∃ x, a = some x ∧ len ≤ cap ∧ cap ≤ maxLen ∧ zs.length = cap ∧ (∀ i, i < zs.length → w.cell? (x.add i) = some (.int .u8 (zs.getD i 0))) ∧ ∀ n ∈ zs, (Lit.int .u8 n).wf = true) :
    (len : Int) ≤ 9223372036854775807 ∧ (zs.take len).length = len ∧ (∀ i, 0 ≤ (zs.take len).getD i 0 ∧ (zs.take len).getD i 0 ≤ 255) ∧
      (0 < len → ∃ b off, a = some ⟨b, off, none⟩ ∧ b < w.heap.size ∧ ∀ i, i < len → w.cell? ⟨b, off + i, none⟩ = some (.int .u8 ((zs.take len).getD i 0))) := by
  rcases h with ⟨rfl, rfl, rfl, rfl⟩ | ⟨x, rfl, hl, hm, hz, hcell, hwz⟩
  · exact ⟨by omega, rfl, fun i => by simp, fun h => absurd h (by omega)⟩
  · refine ⟨by unfold maxLen at hm; omega, by simp; omega, ?_, ?_⟩
    · intro i
      rcases Nat.lt_or_ge i (zs.take len).length with h | h
      · have hm := List.getElem_mem h
        have := bounds_u8 (hwz _ (List.mem_of_mem_take hm))
        simp only [List.getD, List.getElem?_eq_getElem h, Option.getD_some]
        omega
      · simp [List.getD, List.getElem?_eq_none h]
    · intro h0
      obtain ⟨b, off, spot⟩ := x
      have hc := hcell 0 (by omega)
      have hspot : spot = none := by simpa [Addr.add] using World.cell?_spot hc
      subst hspot
      refine ⟨b, off, rfl, ?_, ?_⟩
      · rcases Nat.lt_or_ge b w.heap.size with h | h
        · exact h
        · simp [World.cell?, Addr.add, Array.getElem?_eq_none h] at hc
      · intro i hi
        have := hcell i (by omega)
        have hp : (⟨b, off, none⟩ : Addr).add i = ⟨b, off + i, none⟩ := by unfold Addr.add; split <;> simp_all
        rw [hp] at this
        rw [this]
        simp [List.getD, hi]

def Bs (w : World) (a : Option Addr) (len cap : Nat) (zs : List Int) : Prop :=
  zs.length = len ∧ (len : Int) ≤ 9223372036854775807 ∧ (∀ i, 0 ≤ zs.getD i 0 ∧ zs.getD i 0 ≤ 255) ∧ len ≤ cap ∧ (a = none → cap = 0) ∧
    (0 < len → ∃ b off, a = some ⟨b, off, none⟩ ∧ b < w.heap.size ∧ ∀ i, i < len → w.cell? ⟨b, off + i, none⟩ = some (.int .u8 (zs.getD i 0)))

theorem Bs.below {w w' : World} {a : Option Addr} {len cap : Nat} {zs : List Int} (h : Bs w a len cap zs) {B : Nat} (hb : Below B w w') (hB : w.heap.size ≤ B) : Bs w' a len cap zs := by
  obtain ⟨h1, h2, h3, h4, h5, h6⟩ := h
  refine ⟨h1, h2, h3, h4, h5, fun hp => ?_⟩
  obtain ⟨b, off, rfl, hlt, hc⟩ := h6 hp
  exact ⟨b, off, rfl, Nat.lt_of_lt_of_le hlt hb.size, fun i hi => (hb.cell (show b < B by omega)).trans (hc i hi)⟩

theorem Bs.of_row {w : World} {a : Option Addr} {len cap : Nat} {zs : List Int}
    (h : (a = none ∧ len = 0 ∧ cap = 0 ∧ zs = []) ∨ ∃ x, a = some x ∧ len ≤ cap ∧ cap ≤ maxLen ∧ zs.length = cap ∧ (∀ i, i < zs.length → w.cell? (x.add i) = some (.int .u8 (zs.getD i 0))) ∧ ∀ n ∈ zs, (Lit.int .u8 n).wf = true) :
    Bs w a len cap (zs.take len) := by
  obtain ⟨h1, h2, h3, h4⟩ := row_open h
  refine ⟨h2, h1, h3, ?_, ?_, h4⟩
  · rcases h with ⟨_, rfl, _, _⟩ | ⟨x, _, hl, _⟩
    · exact Nat.zero_le _
    · exact hl
  · intro hn
    rcases h with ⟨_, _, rfl, _⟩ | ⟨x, hx, _⟩
    · rfl
    · rw [hn] at hx; simp at hx

theorem getD_bd {l : List Int} (h : ∀ c ∈ l, 0 ≤ c ∧ c ≤ 255) (i : Nat) : 0 ≤ l.getD i 0 ∧ l.getD i 0 ≤ 255 := by
  rcases Nat.lt_or_ge i l.length with hl | hl
  · simp only [List.getD, List.getElem?_eq_getElem hl, Option.getD_some]
    exact h _ (List.getElem_mem hl)
  · simp [List.getD, List.getElem?_eq_none hl]

theorem mem_bd {l : List Int} (h : ∀ i, 0 ≤ l.getD i 0 ∧ l.getD i 0 ≤ 255) : ∀ c ∈ l, 0 ≤ c ∧ c ≤ 255 := by
  intro c hc
  obtain ⟨i, hi, rfl⟩ := List.getElem_of_mem hc
  have := h i
  simpa [List.getD, List.getElem?_eq_getElem hi] using this

theorem ints_one (l : List Int) : ∀ u, u ∈ l.map (Value.int .u8) → u.oneCell' = true := by
  intro u hu
  obtain ⟨n, _, rfl⟩ := List.mem_map.1 hu
  rfl

theorem own_below {W W' : World} {base e sz n : Nat} {v : Value} {xs : List Value} (h : W.ownsRow base e sz v n xs) (hb : Below W.heap.size W W') : W'.ownsRow base e sz v n xs :=
  h.kept (row := none) ⟨hb.os, hb.tape, hb.output, hb.size, fun k hk _ => hb.block k hk⟩ (by cases hv : v.ownBlock <;> simp)

theorem own_base {W : World} {base base' e sz n : Nat} {v : Value} {xs : List Value} (h : W.ownsRow base e sz v n xs) (hb : base' ≤ base) : W.ownsRow base' e sz v n xs := by
  refine ⟨h.1, ?_⟩
  rcases h.2 with h | ⟨g, c, cur, h1, h2, h3⟩
  · exact .inl h
  · exact .inr ⟨g, c, cur, h1, Nat.le_trans hb h2, h3⟩

theorem own_slice {w : World} {base : Nat} {e : TypeId} {size n : Nat} {v : Value} {xs : List Value} (h : w.ownsRow base e size v n xs) : ∃ a c, v = .slice a n c := by
  rcases h.2 with ⟨rfl, rfl⟩ | ⟨g, c, cur, rfl, _⟩
  · exact ⟨none, 0, rfl⟩
  · exact ⟨some ⟨g, 0, none⟩, c, rfl⟩

theorem run_append_bs {w : World} {base n : Nat} {v : Value} {xs : List Value} {a : Option Addr} {len cap : Nat} {zs : List Int} (ty : TypeId)
    (hown : w.ownsRow base 5 1 v n xs) (hbs : Bs w a len cap zs) (hn : n + len ≤ 140737488355328) (hbase : base ≤ w.heap.size) :
    ∃ v' w', (Builtin.append_ #[32, 32] ty #[v, .slice a len cap]).run Tryz.prog w = .ok v' w' ∧ w'.ownsRow base 5 1 v' (n + len) (xs ++ zs.map (Value.int .u8)) ∧ w.grownBy w' v.ownBlock := by
  obtain ⟨i0, hi, hz0, hz1, hz2⟩ := info_parts Tryz.info5
  obtain ⟨h1, h2, h3, h4, h5, h6⟩ := hbs
  cases a with
  | none =>
    have hc := h5 rfl
    have hl : len = 0 := by omega
    subst hc hl
    have hz : zs = [] := List.eq_nil_of_length_eq_zero h1
    subst hz
    refine ⟨v, w, run_append_owned_none w base 32 ty 5 i0 1 Tryz.underlying32 hi v n xs hown, by simpa using hown, ⟨rfl, rfl, rfl, Nat.le_refl _, fun _ _ _ => rfl⟩⟩
  | some ad =>
    obtain ⟨v', w', hr, ho, hg, _⟩ := run_append_own (P := Tryz.prog) w base 32 ty 5 i0 (.int .u8 0) 1 1 Tryz.underlying32 hi hz0 hz1 hz2 rfl (by decide) v n xs hown ad len cap (zs.map (Value.int .u8)) (by simp [h1])
      (fun j u hj => by
        rcases Nat.lt_or_ge j len with h | h
        · obtain ⟨b, off, e, _, hc⟩ := h6 (by omega)
          simp at e
          subst e
          have hp : (⟨b, off, none⟩ : Addr).add j = ⟨b, off + j, none⟩ := by unfold Addr.add; split <;> simp_all
          rw [hp, hc j h]
          simp [List.getElem?_eq_getElem (show j < zs.length by omega), List.getD] at hj ⊢
          exact hj
        · simp [List.getElem?_eq_none (show zs.length ≤ j by omega)] at hj)
      (ints_one zs) (by unfold maxLen; omega) (by omega) hbase
    exact ⟨v', w', hr, ho, hg⟩

theorem wp_append_bs {w : World} {o : Oper} {f : Act} {K : Act → World → Prop} {Q : Exit → Act → World → Prop} (s x : Operand)
    (ho : o.op = .call { callee := .builtin .append, args := #[s, x], argTypes := #[32, 32] }) (base : Nat) (v : Value) (n : Nat) (xs : List Value) (a : Option Addr) (len cap : Nat) (zs : List Int)
    (hs : f.eval s = v) (hx : f.eval x = .slice a len cap) (hown : w.ownsRow base 5 1 v n xs) (hbs : Bs w a len cap zs) (hn : n + len ≤ 140737488355328) (hbase : base ≤ w.heap.size)
    (h : ∀ v' w', w'.ownsRow base 5 1 v' (n + len) (xs ++ zs.map (Value.int .u8)) → w.grownBy w' v.ownBlock → K (f.put o.dst v') w') : o.wp Tryz.prog f w K Q := by
  obtain ⟨v', w', hrun, h1, h2⟩ := run_append_bs (ty := o.type) hown hbs hn hbase
  unfold Oper.wp
  simp [execOp, ho, resolve, invoke, builtin, hs, hx, hrun, Result.andThen]
  exact h v' w' h1 h2

theorem wpList_append_bs {w : World} {ops : Array Oper} {rest : List Oper} {o : Oper} {f : Act} {Q : Exit → Act → World → Prop} (hgd : o.guard = none) (s x : Operand)
    (ho : o.op = .call { callee := .builtin .append, args := #[s, x], argTypes := #[32, 32] }) (base : Nat) (v : Value) (n : Nat) (xs : List Value) (a : Option Addr) (len cap : Nat) (zs : List Int)
    (hs : f.eval s = v) (hx : f.eval x = .slice a len cap) (hown : w.ownsRow base 5 1 v n xs) (hbs : Bs w a len cap zs) (hn : n + len ≤ 140737488355328) (hbase : base ≤ w.heap.size)
    (h : ∀ v' w', w'.ownsRow base 5 1 v' (n + len) (xs ++ zs.map (Value.int .u8)) → w.grownBy w' v.ownBlock → wpList Tryz.prog ops Q rest (f.put o.dst v') w') : wpList Tryz.prog ops Q (o :: rest) f w := by
  refine wpList_plain hgd fun K hK => ?_
  exact wp_append_bs s x ho base v n xs a len cap zs hs hx hown hbs hn hbase (fun v' w' h1 h2 => hK _ _ (h v' w' h1 h2))

open Go.ChangeShapes Go.WideShapes Go.ChangeAt
theorem bs_open {H : Type} {enc : TypeId × Value → H} {W : World} {a : Option Addr} {len cap fuel : Nat} {x : DataW H × List MemPlace}
    (hf : DataW.trod enc Tryz.prog W 0 (fun _ => true) true fuel 32 [.slice a len cap] = some x) : ∃ zs, Bs W a len cap zs := by
  rcases open_ints Tryz.underlying32 Tryz.underlying5 (by kernel_rfl) hf with ⟨hcs, _⟩ | ⟨y, l, c, zs, hcs, _, hl, hm, hz, _, hcell, hwz⟩
  · simp at hcs
    obtain ⟨rfl, rfl, rfl⟩ := hcs
    exact ⟨_, Bs.of_row (zs := []) (.inl ⟨rfl, rfl, rfl, rfl⟩)⟩
  · simp at hcs
    obtain ⟨rfl, rfl, rfl⟩ := hcs
    exact ⟨_, Bs.of_row (zs := zs) (.inr ⟨_, rfl, hl, hm, by simpa using hz, hcell, hwz⟩)⟩

theorem u8_inj {a b : Int} (ha : 0 ≤ a ∧ a ≤ 255) (hb : 0 ≤ b ∧ b ≤ 255) (h : UInt8.ofNat a.toNat = UInt8.ofNat b.toNat) : a = b := by
  have e := congrArg UInt8.toNat h
  simp only [UInt8.toNat_ofNat'] at e
  omega

theorem u8s_inj : ∀ (a b : List Int), (∀ c ∈ a, 0 ≤ c ∧ c ≤ 255) → (∀ c ∈ b, 0 ≤ c ∧ c ≤ 255) → (a.map fun n => UInt8.ofNat n.toNat) = (b.map fun n => UInt8.ofNat n.toNat) → a = b
  | [], [], _, _, _ => rfl
  | [], y :: b, _, _, h => by simp at h
  | x :: a, [], _, _, h => by simp at h
  | x :: a, y :: b, ha, hb, h => by
    simp only [List.map_cons, List.cons.injEq] at h
    rw [u8_inj (ha x (by simp)) (hb y (by simp)) h.1, u8s_inj a b (fun c hc => ha c (by simp [hc])) (fun c hc => hb c (by simp [hc])) h.2]

theorem str_eq {z1 z2 : List Int} (h1 : ∀ c ∈ z1, 0 ≤ c ∧ c ≤ 255) (h2 : ∀ c ∈ z2, 0 ≤ c ∧ c ≤ 255) : ((strOfNums z1).toList == (strOfNums z2).toList) = (z1 == z2) := by
  rw [ByteArray.toList_eq, ByteArray.toList_eq, strOfNums_data, strOfNums_data, Bool.eq_iff_iff]
  simp only [beq_iff_eq]
  exact ⟨u8s_inj z1 z2 h1 h2, fun h => by rw [h]⟩

theorem ret_bool {a b : Bool} (h : a = b) : Ending.returned (.bool a) = .returned (.bool b) := by rw [h]

end Go.Proofs.YtcnjjhdmnagkgaaGreatDoor

namespace Go.Proofs.YtcnjjhdmnagkgaaGreatDoor
open Go.RowKit
set_option linter.unusedVariables false
set_option linter.unusedSimpArgs false

structure Ob (w : World) (b : Nat) (c : Array Value) (T : TypeId) : Prop where
  eq : w.heap[b]? = some (.cells c T (0, 0))

theorem Ob.new (w : World) (c : Array Value) (T : TypeId) : Ob (w.alloc (.cells c T)) w.heap.size c T := ⟨heap_alloc_new w _⟩

theorem Ob.lt {w : World} {b : Nat} {c : Array Value} {T : TypeId} (h : Ob w b c T) : b < w.heap.size := (Array.getElem?_eq_some_iff.1 h.eq).1

theorem Ob.below {w w' : World} {b B : Nat} {c : Array Value} {T : TypeId} (h : Ob w b c T) (hb : Below B w w') (hB : b < B) : Ob w' b c T := ⟨(hb.block b hB).trans h.eq⟩

theorem Ob.alloc {w : World} {b : Nat} {c : Array Value} {T : TypeId} (h : Ob w b c T) (o : Obj) : Ob (w.alloc o) b c T := ⟨(Below.heap_alloc w o b h.lt).trans h.eq⟩

theorem Ob.set {w : World} {b : Nat} {c : Array Value} {T : TypeId} (h : Ob w b c T) (j : Nat) (v : Value) : Ob (w.setCell ⟨b, j, none⟩ v) b (c.setIfInBounds j v) T := by
  constructor
  rw [setCell_eq_setRow w b j c T (0, 0) v h.eq]
  exact setRow_heap w b c _ T _ h.eq

theorem Ob.other {w : World} {b : Nat} {c : Array Value} {T : TypeId} (h : Ob w b c T) {b' : Nat} (hne : b ≠ b') (j : Nat) (v : Value) : Ob (w.setCell ⟨b', j, none⟩ v) b c T := ⟨(heap_setCell_other _ _ _ _ (by simpa using hne)).trans h.eq⟩

theorem Ob.cell {w : World} {b : Nat} {c : Array Value} {T : TypeId} (h : Ob w b c T) (j : Nat) {v : Value} (hv : c[j]? = some v) : w.cell? ⟨b, j, none⟩ = some v := by
  simp [World.cell?, h.eq]
  simpa using hv

theorem Ob.frozen {w : World} {b : Nat} {c : Array Value} {T : TypeId} (h : Ob w b c T) (j : Nat) : w.frozen? ⟨b, j, none⟩ = false := by
  simp [World.frozen?, h.eq]

theorem ob1 {w : World} {b : Nat} {T : TypeId} {x0 : Value} (h : Ob w b #[x0] T) :
    (w.cell? ⟨b, 0, none⟩ = some x0) ∧ (w.frozen? ⟨b, 0, none⟩ = false) ∧ b < w.heap.size :=
  ⟨h.cell 0 rfl, h.frozen 0, h.lt⟩

theorem ob2 {w : World} {b : Nat} {T : TypeId} {x0 x1 : Value} (h : Ob w b #[x0, x1] T) :
    (w.cell? ⟨b, 0, none⟩ = some x0 ∧ w.cell? ⟨b, 1, none⟩ = some x1) ∧ (w.frozen? ⟨b, 0, none⟩ = false ∧ w.frozen? ⟨b, 1, none⟩ = false) ∧ b < w.heap.size :=
  ⟨⟨h.cell 0 rfl, h.cell 1 rfl⟩, ⟨h.frozen 0, h.frozen 1⟩, h.lt⟩

theorem ob3 {w : World} {b : Nat} {T : TypeId} {x0 x1 x2 : Value} (h : Ob w b #[x0, x1, x2] T) :
    (w.cell? ⟨b, 0, none⟩ = some x0 ∧ w.cell? ⟨b, 1, none⟩ = some x1 ∧ w.cell? ⟨b, 2, none⟩ = some x2) ∧ (w.frozen? ⟨b, 0, none⟩ = false ∧ w.frozen? ⟨b, 1, none⟩ = false ∧ w.frozen? ⟨b, 2, none⟩ = false) ∧ b < w.heap.size :=
  ⟨⟨h.cell 0 rfl, h.cell 1 rfl, h.cell 2 rfl⟩, ⟨h.frozen 0, h.frozen 1, h.frozen 2⟩, h.lt⟩

theorem ob5 {w : World} {b : Nat} {T : TypeId} {x0 x1 x2 x3 x4 : Value} (h : Ob w b #[x0, x1, x2, x3, x4] T) :
    (w.cell? ⟨b, 0, none⟩ = some x0 ∧ w.cell? ⟨b, 1, none⟩ = some x1 ∧ w.cell? ⟨b, 2, none⟩ = some x2 ∧ w.cell? ⟨b, 3, none⟩ = some x3 ∧ w.cell? ⟨b, 4, none⟩ = some x4) ∧ (w.frozen? ⟨b, 0, none⟩ = false ∧ w.frozen? ⟨b, 1, none⟩ = false ∧ w.frozen? ⟨b, 2, none⟩ = false ∧ w.frozen? ⟨b, 3, none⟩ = false ∧ w.frozen? ⟨b, 4, none⟩ = false) ∧ b < w.heap.size :=
  ⟨⟨h.cell 0 rfl, h.cell 1 rfl, h.cell 2 rfl, h.cell 3 rfl, h.cell 4 rfl⟩, ⟨h.frozen 0, h.frozen 1, h.frozen 2, h.frozen 3, h.frozen 4⟩, h.lt⟩

theorem ob11 {w : World} {b : Nat} {T : TypeId} {x0 x1 x2 x3 x4 x5 x6 x7 x8 x9 x10 : Value} (h : Ob w b #[x0, x1, x2, x3, x4, x5, x6, x7, x8, x9, x10] T) :
    (w.cell? ⟨b, 0, none⟩ = some x0 ∧ w.cell? ⟨b, 1, none⟩ = some x1 ∧ w.cell? ⟨b, 2, none⟩ = some x2 ∧ w.cell? ⟨b, 3, none⟩ = some x3 ∧ w.cell? ⟨b, 4, none⟩ = some x4 ∧ w.cell? ⟨b, 5, none⟩ = some x5 ∧ w.cell? ⟨b, 6, none⟩ = some x6 ∧ w.cell? ⟨b, 7, none⟩ = some x7 ∧ w.cell? ⟨b, 8, none⟩ = some x8 ∧ w.cell? ⟨b, 9, none⟩ = some x9 ∧ w.cell? ⟨b, 10, none⟩ = some x10) ∧ (w.frozen? ⟨b, 0, none⟩ = false ∧ w.frozen? ⟨b, 1, none⟩ = false ∧ w.frozen? ⟨b, 2, none⟩ = false ∧ w.frozen? ⟨b, 3, none⟩ = false ∧ w.frozen? ⟨b, 4, none⟩ = false ∧ w.frozen? ⟨b, 5, none⟩ = false ∧ w.frozen? ⟨b, 6, none⟩ = false ∧ w.frozen? ⟨b, 7, none⟩ = false ∧ w.frozen? ⟨b, 8, none⟩ = false ∧ w.frozen? ⟨b, 9, none⟩ = false ∧ w.frozen? ⟨b, 10, none⟩ = false) ∧ b < w.heap.size :=
  ⟨⟨h.cell 0 rfl, h.cell 1 rfl, h.cell 2 rfl, h.cell 3 rfl, h.cell 4 rfl, h.cell 5 rfl, h.cell 6 rfl, h.cell 7 rfl, h.cell 8 rfl, h.cell 9 rfl, h.cell 10 rfl⟩, ⟨h.frozen 0, h.frozen 1, h.frozen 2, h.frozen 3, h.frozen 4, h.frozen 5, h.frozen 6, h.frozen 7, h.frozen 8, h.frozen 9, h.frozen 10⟩, h.lt⟩

theorem ob13 {w : World} {b : Nat} {T : TypeId} {x0 x1 x2 x3 x4 x5 x6 x7 x8 x9 x10 x11 x12 : Value} (h : Ob w b #[x0, x1, x2, x3, x4, x5, x6, x7, x8, x9, x10, x11, x12] T) :
    (w.cell? ⟨b, 0, none⟩ = some x0 ∧ w.cell? ⟨b, 1, none⟩ = some x1 ∧ w.cell? ⟨b, 2, none⟩ = some x2 ∧ w.cell? ⟨b, 3, none⟩ = some x3 ∧ w.cell? ⟨b, 4, none⟩ = some x4 ∧ w.cell? ⟨b, 5, none⟩ = some x5 ∧ w.cell? ⟨b, 6, none⟩ = some x6 ∧ w.cell? ⟨b, 7, none⟩ = some x7 ∧ w.cell? ⟨b, 8, none⟩ = some x8 ∧ w.cell? ⟨b, 9, none⟩ = some x9 ∧ w.cell? ⟨b, 10, none⟩ = some x10 ∧ w.cell? ⟨b, 11, none⟩ = some x11 ∧ w.cell? ⟨b, 12, none⟩ = some x12) ∧ (w.frozen? ⟨b, 0, none⟩ = false ∧ w.frozen? ⟨b, 1, none⟩ = false ∧ w.frozen? ⟨b, 2, none⟩ = false ∧ w.frozen? ⟨b, 3, none⟩ = false ∧ w.frozen? ⟨b, 4, none⟩ = false ∧ w.frozen? ⟨b, 5, none⟩ = false ∧ w.frozen? ⟨b, 6, none⟩ = false ∧ w.frozen? ⟨b, 7, none⟩ = false ∧ w.frozen? ⟨b, 8, none⟩ = false ∧ w.frozen? ⟨b, 9, none⟩ = false ∧ w.frozen? ⟨b, 10, none⟩ = false ∧ w.frozen? ⟨b, 11, none⟩ = false ∧ w.frozen? ⟨b, 12, none⟩ = false) ∧ b < w.heap.size :=
  ⟨⟨h.cell 0 rfl, h.cell 1 rfl, h.cell 2 rfl, h.cell 3 rfl, h.cell 4 rfl, h.cell 5 rfl, h.cell 6 rfl, h.cell 7 rfl, h.cell 8 rfl, h.cell 9 rfl, h.cell 10 rfl, h.cell 11 rfl, h.cell 12 rfl⟩, ⟨h.frozen 0, h.frozen 1, h.frozen 2, h.frozen 3, h.frozen 4, h.frozen 5, h.frozen 6, h.frozen 7, h.frozen 8, h.frozen 9, h.frozen 10, h.frozen 11, h.frozen 12⟩, h.lt⟩

theorem Ob.grown {w w' : World} {b : Nat} {c : Array Value} {T : TypeId} (h : Ob w b c T) {row : Option Nat} (hg : w.grownBy w' row) (hne : some b ≠ row) : Ob w' b c T := ⟨(hg.block b h.lt hne).trans h.eq⟩

theorem Ob.drew {w : World} {b : Nat} {c : Array Value} {T : TypeId} (h : Ob w b c T) : Ob w.drew b c T := ⟨h.eq⟩

end Go.Proofs.YtcnjjhdmnagkgaaGreatDoor

namespace Go.Proofs.YtcnjjhdmnagkgaaGreatDoor
open Go.Shelf

def Sh.lays129_ren : Go.Shelf.Ren := ⟨fun | 129 => 200 | n => n, fun | 53 => 77 | 3 => 3 | 4 => 4 | 46 => 134 | 5 => 5 | 9 => 9 | n => n, fun | n => n⟩

theorem Sh.lays129 : Go.Proofs.Lays.n129 Tryz.prog Sh.lays129_ren := {
  mixed := by kernel_rfl
  f129 := Tryz.func200.trans (congrArg some (by kernel_rfl))
  t3 := Tryz.underlying3
  a3 := Tryz.isAgg3
  z3 := Tryz.sizeOf3
  v3 := Tryz.zeroValue3
  t4 := Tryz.underlying4
  a4 := Tryz.isAgg4
  z4 := Tryz.sizeOf4
  v4 := Tryz.zeroValue4
  t5 := Tryz.underlying5
  a5 := Tryz.isAgg5
  z5 := Tryz.sizeOf5
  v5 := Tryz.zeroValue5
  t9 := Tryz.underlying9
  a9 := Tryz.isAgg9
  z9 := Tryz.sizeOf9
  v9 := Tryz.zeroValue9
  t46 := Tryz.underlying134
  a46 := Tryz.isAgg134
  z46 := Tryz.sizeOf134
  v46 := Tryz.zeroValue134
  t53 := Tryz.underlying77
  a53 := Tryz.isAgg77
  z53 := Tryz.sizeOf77
  v53 := Tryz.zeroValue77 }

theorem Sh.bits_Len64 (x : Int) (w : World) (h0 : 0 ≤ x) (h1 : x ≤ 18446744073709551615) :
    Calls Tryz.prog 200 #[.int .u64 x] w fun e w' => e = .returned (.int .i64 (Lib.bitLen x.toNat)) ∧ w' = w := Any.bits_Len64 Sh.lays129 x w h0 h1

end Go.Proofs.YtcnjjhdmnagkgaaGreatDoor

namespace Go.Proofs.YtcnjjhdmnagkgaaGreatDoor
open Go.RowKit Go.Shelf
set_option linter.unusedVariables false
set_option linter.unusedSimpArgs false

attribute [local go_sem] Oper.semAt_some

set_option maxRecDepth 10000 in
set_option maxHeartbeats 1000000 in
theorem ckIns (f : Value) (W : World) :
    Calls Tryz.prog 271 #[.slice none 0 0, .int .i64 0, .int .i64 0, f] W fun e w' => e = .returned (.tuple #[]) ∧ W = w' := by
  go_enter Tryz.func271, Tryz.ntmps271
  go_wp2
  go_loopw [8] (fun v wr => v = .int .i64 1 ∧ W = wr) (fun _ _ => 0)
  case atStart => exact ⟨rfl, rfl⟩
  case round =>
    obtain ⟨rfl, rfl⟩ := hrel
    go_wp2
    go_end0
    exact ⟨rfl, rfl⟩

set_option maxRecDepth 100000 in
set_option maxHeartbeats 4000000 in
theorem ckPdq (l : Int) (f : Value) (W : World) :
    Calls Tryz.prog 261 #[.slice none 0 0, .int .i64 0, .int .i64 0, .int .i64 l, f] W fun e w' => e = .returned (.tuple #[]) ∧ W = w' := by
  have Q : Hid _ := ckIns f
  go_enter Tryz.func261, Tryz.ntmps261
  go_wp2
  go_loopw [1, 2, 12] (fun v1 v2 v wr => v1 = .int .i64 0 ∧ v2 = .int .i64 0 ∧ W = wr) (fun _ _ _ _ => 0)
  case atStart => exact ⟨rfl, rfl, rfl⟩
  case round =>
    obtain ⟨rfl, rfl, rfl⟩ := hrel
    go_wp2_with fail
    refine Calls.mono (Q.out _) ?_
    rintro e w1 ⟨rfl, rfl⟩
    go_wp2
    refine bodyPost_ret (results_none rfl _ _ _) rfl ?_
    exact ⟨rfl, rfl⟩

set_option maxRecDepth 10000 in
set_option maxHeartbeats 1000000 in
theorem ckLen (W : World) : Calls Tryz.prog 153 #[.int .u64 0] W fun e w' => e = .returned (.int .i64 0) ∧ W = w' := by
  have Q : Hid _ := Sh.bits_Len64 0 W (by decide) (by decide)
  go_enter Tryz.func153, Tryz.ntmps153
  go_wp2_with fail
  refine Calls.mono Q.out ?_
  rintro e w1 ⟨rfl, rfl⟩
  go_wp2
  go_ret
  exact ⟨by rfl, rfl⟩

set_option maxRecDepth 10000 in
set_option maxHeartbeats 1000000 in
theorem ckSortF (f : Value) (W : World) :
    Calls Tryz.prog 246 #[.slice none 0 0, f] W fun e w' => e = .returned (.tuple #[]) ∧ W = w' := by
  have Q : Hid _ := ckPdq 0 f
  have QL : Hid _ := ckLen
  go_enter Tryz.func246, Tryz.ntmps246
  go_wp2_with fail
  refine Calls.mono (QL.out _) ?_
  rintro e w1 ⟨rfl, rfl⟩
  go_wp2_with fail
  refine Calls.mono (Q.out _) ?_
  rintro e w1 ⟨rfl, rfl⟩
  go_wp2
  go_end0
  exact ⟨rfl, rfl⟩

def KT (_ _ : World) : Prop := True

theorem kt_t {A B C : World} (_ : KT A B) (_ : KT B C) : KT A C := trivial

theorem kt_b {w : World} (W : World) (l : Nat) (o o' : Obj) (_ : w.heap.size ≤ l) (_ : W.heap[l]? = some o) (_ : o.isCells = false) (_ : o.isWalk = false) : KT W (W.putObj l o') := trivial

def noEnc (x : Empty) : Array Value := x.elim

theorem seq_none {P : Program} {gf : Nat} {lb : Array Value} {w0 : World} {n : Nat} (h : ∀ (y : Value) (W : World), Below w0.heap.size w0 W → Calls P gf (#[y] ++ lb) W fun e w' => e = .returned (.tuple #[]) ∧ W = w') :
    SeqStopsK Fence.wide n P gf lb noEnc KT (fun _ => True) (fun _ => False) 0 w0 := fun l J Jx W hW _ _ _ h0 =>
  CallsIn.mono (callsIn_wide.2 (h _ W hW)) (by rintro e w' ⟨rfl, rfl⟩; exact ⟨⟨_, rfl⟩, .inl ⟨[], trivial, h0⟩⟩)

set_option maxRecDepth 10000 in
set_option maxHeartbeats 1000000 in
theorem ckVal1 (y : Value) (B : Nat) (W : World) (h : W.cell? ⟨B, 0, none⟩ = some (.slice none 0 0)) (hl : B < W.heap.size) :
    Calls Tryz.prog 247 #[y, .pointer (some ⟨B, 0, none⟩)] W fun e w' => e = .returned (.tuple #[]) ∧ W = w' := by
  go_enter Tryz.func247, Tryz.ntmps247
  go_wp2
  go_loopw [7] (fun v wr => v = .int .i64 0 ∧ W = wr) (fun _ _ => 0)
  case atStart => exact ⟨rfl, rfl⟩
  case round =>
    obtain ⟨rfl, rfl⟩ := hrel
    go_wp2
    go_end0
    exact ⟨rfl, rfl⟩

set_option maxRecDepth 10000 in
set_option maxHeartbeats 1000000 in
theorem ckValues (W : World) :
    Calls Tryz.prog 206 #[.slice none 0 0] W fun e w' => e = .returned (.func (.func 247) #[] #[.pointer (some ⟨W.heap.size, 0, none⟩)]) ∧ w' = W.alloc (.cells #[.slice none 0 0] 38) := by
  go_enter Tryz.func206, Tryz.ntmps206
  go_wp2
  go_ret
  exact ⟨rfl, rfl⟩

set_option maxRecDepth 100000 in
set_option maxHeartbeats 2000000 in
theorem ckApp (B : Nat) (w : World) (h : w.cell? ⟨B, 0, none⟩ = some (.slice none 0 0)) (hl : B < w.heap.size) :
    Calls Tryz.prog 260 #[.slice none 0 0, .func (.func 247) #[] #[.pointer (some ⟨B, 0, none⟩)]] w fun e W' => e = .returned (.slice none 0 0) ∧ Below w.heap.size w W' := by
  refine (callsIn_wide (n := 4)).1 ?_
  refine callsIn_of_wp_marks Tryz.func260 rfl trivial ?_ rfl
  simp only [Tryz.ntmps260, List.size_toArray, List.length_cons, List.length_nil, Nat.reduceAdd, Nat.reduceSub, Array.replicate_succ, Array.replicate_zero, List.push_toArray, List.append_toArray, List.nil_append, List.cons_append]
  gi_wp2
  obtain ⟨W0, hW0⟩ : ∃ W0, w.alloc (.cells #[.slice none 0 0] 38) = W0 := ⟨_, rfl⟩
  have b0 : Boxed W0 w.heap.size 38 (.slice none 0 0) := by rw [← hW0]; exact Boxed.new w _ _
  have hB0 : Below w.heap.size w W0 := by rw [← hW0]; exact (Below.refl _ _).alloc (Nat.le_refl _) _
  have hc0 := (hB0.cell (p := ⟨B, 0, none⟩) hl).trans h
  have hs0 := hB0.size
  rw [hW0]
  refine wpIn_rangeFunc_ownH rfl (by omega) (gf := 247) (lb := #[.pointer (some ⟨B, 0, none⟩)]) rfl trivial (enters_of Tryz.func247 (by kernel_rfl) rfl)
    (seq_none (w0 := W0) (fun y W hW => ckVal1 y B W ((hW.cell (p := ⟨B, 0, none⟩) (by show B < _; omega)).trans hc0) (by have := hW.size; omega))) kt_t kt_b (Below.refl _ _) (fun x => x.elim)
    (fun _ W => Boxed W w.heap.size 38 (.slice none 0 0) ∧ Below w.heap.size w W)
    (fun _ _ _ => False)
    (OwnFrom.and (Own.from (boxed_own _ _ _) _) (ownFrom_below (Nat.le_refl _) (by omega)))
    (fun c s X Y row hs hg hr => hs)
    ⟨b0, hB0⟩
    (fun x _ _ => x.elim)
    (fun x => x.elim)
    ?assign ?body ?done ?stop
  case assign =>
    intro l pre x
    exact x.elim
  case body =>
    intro l pre x
    exact x.elim
  case done =>
    rintro D xs W hD _ ⟨b0, hB⟩ hK
    have c0 := b0.cell
    have f0 := b0.frozen
    have l0 := b0.lt
    gi_wp2
    refine ⟨by simp, .inl ⟨_, _, rfl, run_takeDeferred hK, ?_⟩⟩
    refine ⟨.slice none 0 0, ?_, rfl, hB.trans (belowK_b (w := w) (Nat.le_refl _) W D _ _ (by omega) hK rfl rfl)⟩
    simp [results, Tryz.f260, go_sem]
  case stop =>
    rintro D c pre W hD hS
    exact hS.elim

end Go.Proofs.YtcnjjhdmnagkgaaGreatDoor

namespace Go.Proofs.YtcnjjhdmnagkgaaGreatDoor
open Go.RowKit
set_option linter.unusedVariables false
set_option linter.unusedSimpArgs false

set_option maxRecDepth 10000 in
set_option maxHeartbeats 1000000 in
theorem ckCollect (B : Nat) (W : World) (h : W.cell? ⟨B, 0, none⟩ = some (.slice none 0 0)) (hl : B < W.heap.size) :
    Calls Tryz.prog 245 #[.func (.func 247) #[] #[.pointer (some ⟨B, 0, none⟩)]] W fun e w' => e = .returned (.slice none 0 0) ∧ Below W.heap.size W w' := by
  have Q : Hid _ := ckApp B W h hl
  clear h hl
  go_enter Tryz.func245, Tryz.ntmps245
  go_wp2_with fail
  refine Calls.mono Q.out ?_
  rintro e w1 ⟨rfl, hb⟩
  go_wp2
  go_ret
  exact ⟨rfl, hb⟩

set_option maxRecDepth 10000 in
set_option maxHeartbeats 1000000 in
theorem ckSorted (f : Value) (B : Nat) (W : World) (h : W.cell? ⟨B, 0, none⟩ = some (.slice none 0 0)) (hl : B < W.heap.size) :
    Calls Tryz.prog 205 #[.func (.func 247) #[] #[.pointer (some ⟨B, 0, none⟩)], f] W fun e w' => e = .returned (.slice none 0 0) ∧ Below W.heap.size W w' := by
  have Q : Hid _ := ckCollect B W h hl
  have QS : Hid _ := ckSortF f
  clear h hl
  go_enter Tryz.func205, Tryz.ntmps205
  go_wp2_with fail
  refine Calls.mono Q.out ?_
  rintro e w1 ⟨rfl, hb⟩
  go_wp2_with fail
  refine Calls.mono (QS.out _) ?_
  rintro e w2 ⟨rfl, rfl⟩
  go_wp2
  go_ret
  exact ⟨rfl, hb⟩

set_option maxRecDepth 10000 in
set_option maxHeartbeats 1000000 in
theorem ckByFrom (W : World) : Calls Tryz.prog 160 #[.slice none 0 0] W fun e w' => e = .returned (.slice none 0 0) ∧ Below W.heap.size W w' := by
  have Q : Hid _ := ckValues W
  obtain ⟨w1, hw1⟩ : ∃ w1, W.alloc (.cells #[.slice none 0 0] 38) = w1 := ⟨_, rfl⟩
  have hb1 : Below W.heap.size W w1 := by rw [← hw1]; exact (Below.refl _ _).alloc (Nat.le_refl _) _
  have c1 : w1.cell? ⟨W.heap.size, 0, none⟩ = some (.slice none 0 0) := by rw [← hw1]; simp
  have l1 : W.heap.size < w1.heap.size := by rw [← hw1]; simp
  have QS : Hid _ := fun f => ckSorted f W.heap.size w1 c1 l1
  have HW : Hid _ := hw1
  have HB : Hid _ := hb1
  clear hw1 hb1 c1 l1
  go_enter Tryz.func160, Tryz.ntmps160
  go_wp2_with fail
  refine Calls.mono Q.out ?_
  rintro e w2 ⟨rfl, rfl⟩
  rw [HW.out]
  go_wp2_with fail
  refine Calls.mono (QS.out _) ?_
  rintro e w2 ⟨rfl, hb2⟩
  go_wp2
  go_ret
  exact ⟨rfl, HB.out.trans (hb2.mono HB.out.size)⟩

set_option maxRecDepth 10000 in
set_option maxHeartbeats 1000000 in
theorem ckRangesFit (W : World) : Calls Tryz.prog 117 #[.slice none 0 0] W fun e w' => e = .returned (.bool true) ∧ Below W.heap.size W w' := by
  have Q : Hid _ := ckByFrom W
  go_enter Tryz.func117, Tryz.ntmps117
  go_wp2_with fail
  refine Calls.mono Q.out ?_
  rintro e w1 ⟨rfl, hb⟩
  have HB : Hid _ := hb
  clear hb Q
  go_wp2
  go_loopw [9] (fun v wr => v = .int .i64 0 ∧ w1 = wr) (fun _ _ => 0)
  case atStart => exact ⟨rfl, rfl⟩
  case round =>
    obtain ⟨rfl, rfl⟩ := hrel
    go_wp2
    go_ret
    exact ⟨rfl, HB.out⟩

set_option maxRecDepth 10000 in
set_option maxHeartbeats 1000000 in
theorem ckNumbersOf (W : World) : Calls Tryz.prog 122 #[.slice none 0 0] W fun e w' => e = .returned (.slice none 0 0) ∧ Below W.heap.size W w' := by
  have Q : Hid _ := ckByFrom W
  go_enter Tryz.func122, Tryz.ntmps122
  go_wp2_with fail
  refine Calls.mono Q.out ?_
  rintro e w1 ⟨rfl, hb⟩
  have HB : Hid _ := hb
  clear hb Q
  go_wp2
  go_loopw [9] (fun v wr => v = .int .i64 0 ∧ w1 = wr) (fun _ _ => 0)
  case atStart => exact ⟨rfl, rfl⟩
  case round =>
    obtain ⟨rfl, rfl⟩ := hrel
    go_wp2
    go_ret
    exact ⟨rfl, HB.out⟩

set_option maxRecDepth 10000 in
set_option maxHeartbeats 1000000 in
theorem ckBin (n : Int) (f : Value) (W : World) : Calls Tryz.prog 164 #[.slice none 0 0, .int .i64 n, f] W fun e w' => e = .returned (.tuple #[.int .i64 0, .bool false]) ∧ W = w' := by
  go_enter Tryz.func164, Tryz.ntmps164
  go_wp2
  go_loopw [9, 10] (fun v v2 wr => v = .int .i64 0 ∧ v2 = .int .i64 0 ∧ W = wr) (fun _ _ _ => 0)
  case atStart => exact ⟨rfl, rfl, rfl⟩
  case round =>
    obtain ⟨rfl, rfl, rfl⟩ := hrel
    go_wp2
    go_ret2
    exact ⟨rfl, rfl⟩

set_option maxRecDepth 10000 in
set_option maxHeartbeats 1000000 in
theorem ckHas (n : Int) (W : World) : Calls Tryz.prog 125 #[.slice none 0 0, .int .i64 n] W fun e w' => e = .returned (.bool false) ∧ W = w' := by
  have Q : Hid _ := ckBin n
  go_enter Tryz.func125, Tryz.ntmps125
  go_wp2_with fail
  refine Calls.mono (Q.out _ _) ?_
  rintro e w1 ⟨rfl, rfl⟩
  go_wp2
  go_ret
  exact ⟨rfl, rfl⟩

end Go.Proofs.YtcnjjhdmnagkgaaGreatDoor

namespace Go.Proofs.YtcnjjhdmnagkgaaGreatDoor
open Go.RowKit Go.Shelf
set_option linter.unusedVariables false
set_option linter.unusedSimpArgs false

attribute [local go_sem] Oper.semAt_some

set_option maxRecDepth 10000 in
set_option maxHeartbeats 1000000 in
theorem ckGrow (W : World) : Calls Tryz.prog 161 #[.slice none 0 0, .int .i64 0] W fun e w' => e = .returned (.slice none 0 0) ∧ W = w' := by
  go_enter Tryz.func161, Tryz.ntmps161
  go_wp2
  go_ret
  exact ⟨rfl, rfl⟩

set_option maxRecDepth 10000 in
set_option maxHeartbeats 1000000 in
theorem ckConcat (B c : Nat) (W : World) (h0 : W.cell? ⟨B, 0, none⟩ = some (.slice none 0 0)) (h1 : W.cell? ⟨B, 1, none⟩ = some (.slice none 0 0)) (hl : B < W.heap.size) :
    Calls Tryz.prog 118 #[.slice (some ⟨B, 0, none⟩) 2 c] W fun e w' => e = .returned (.slice none 0 0) ∧ W = w' := by
  have Q : Hid _ := ckGrow
  go_enter Tryz.func118, Tryz.ntmps118
  go_wp2
  go_loopw [3, 11] (fun s v wr => s = .int .i64 0 ∧ (v = .int .i64 0 ∨ v = .int .i64 1 ∨ v = .int .i64 2) ∧ W = wr) (fun _ v _ => 2 - (intOf v).toNat)
  case atStart => exact ⟨rfl, .inl rfl, rfl⟩
  case round =>
    obtain ⟨rfl, hv, rfl⟩ := hrel
    rcases hv with rfl | rfl | rfl
    · go_wp2
      go_roundw
      case rel => first | exact ⟨rfl, .inr (.inl rfl), trivial⟩ | exact ⟨rfl, .inr (.inl rfl), rfl⟩ | ((repeat apply Exists.intro); exact ⟨⟨rfl, .inr (.inl rfl), rfl⟩, rfl⟩)
      case measure => simp [intOf]
    · go_wp2
      go_roundw
      case rel => first | exact ⟨rfl, .inr (.inr rfl), trivial⟩ | exact ⟨rfl, .inr (.inr rfl), rfl⟩ | ((repeat apply Exists.intro); exact ⟨⟨rfl, .inr (.inr rfl), rfl⟩, rfl⟩)
      case measure => simp [intOf]
    · go_wp2_with fail
      refine Calls.mono (Q.out _) ?_
      rintro e w1 ⟨rfl, rfl⟩
      go_wp2
      go_loopw [6, 27] (fun s v wr => s = .slice none 0 0 ∧ (v = .int .i64 0 ∨ v = .int .i64 1 ∨ v = .int .i64 2) ∧ W = wr) (fun _ v _ => 2 - (intOf v).toNat)
      case atStart => exact ⟨rfl, .inl rfl, rfl⟩
      case round =>
        obtain ⟨rfl, hv, rfl⟩ := hrel
        rcases hv with rfl | rfl | rfl
        · go_wp2
          go_roundw
          case rel => first | exact ⟨rfl, .inr (.inl rfl), trivial⟩ | exact ⟨rfl, .inr (.inl rfl), rfl⟩ | ((repeat apply Exists.intro); exact ⟨⟨rfl, .inr (.inl rfl), rfl⟩, rfl⟩)
          case measure => simp [intOf]
        · go_wp2
          go_roundw
          case rel => first | exact ⟨rfl, .inr (.inr rfl), trivial⟩ | exact ⟨rfl, .inr (.inr rfl), rfl⟩ | ((repeat apply Exists.intro); exact ⟨⟨rfl, .inr (.inr rfl), rfl⟩, rfl⟩)
          case measure => simp [intOf]
        · go_wp2
          go_ret
          exact ⟨rfl, rfl⟩

set_option maxRecDepth 10000 in
set_option maxHeartbeats 1000000 in
theorem ckFl1 (y : Value) (B : Nat) (W : World) (h : W.cell? ⟨B, 0, none⟩ = some (.slice none 0 0)) (hl : B < W.heap.size) :
    Calls Tryz.prog 248 #[y, .pointer (some ⟨B, 0, none⟩)] W fun e w' => e = .returned (.tuple #[]) ∧ W = w' := by
  go_enter Tryz.func248, Tryz.ntmps248
  go_wp2
  go_loopw [3] (fun v wr => v = .int .i64 0 ∧ W = wr) (fun _ _ => 0)
  case atStart => exact ⟨rfl, rfl⟩
  case round =>
    obtain ⟨rfl, rfl⟩ := hrel
    go_wp2
    go_end0
    exact ⟨rfl, rfl⟩

set_option maxRecDepth 10000 in
set_option maxHeartbeats 1000000 in
theorem ckFields (w : World) :
    Calls Tryz.prog 208 #[.slice none 0 0] w fun e w' => e = .returned (.func (.func 248) #[] #[.pointer (some ⟨w.heap.size, 0, none⟩)]) ∧ w' = w.alloc (.cells #[.slice none 0 0] 32) := by
  go_enter Tryz.func208, Tryz.ntmps208
  go_wp2
  go_ret
  exact ⟨rfl, rfl⟩

set_option maxRecDepth 100000 in
set_option maxHeartbeats 2000000 in
theorem ckRead (w : World) :
    Calls Tryz.prog 162 #[.slice none 0 0] w fun e W' => e = .returned (.tuple #[.slice none 0 0, .int .i64 0, .int .i64 0]) ∧ Below w.heap.size w W' := by
  refine (callsIn_wide (n := 4)).1 ?_
  refine callsIn_of_wp_marks Tryz.func162 rfl trivial ?_ rfl
  simp only [Tryz.ntmps162, List.size_toArray, List.length_cons, List.length_nil, Nat.reduceAdd, Nat.reduceSub, Array.replicate_succ, Array.replicate_zero, List.push_toArray, List.append_toArray, List.nil_append, List.cons_append]
  gi_wp2_with (refine ⟨trivial, ?_⟩; gi_at_call 208; refine CallsIn.mono (callsIn_wide.2 (ckFields _)) ?_; rintro e w' ⟨rfl, rfl⟩)
  obtain ⟨W0, hW0⟩ : ∃ W0, ((((w.alloc (.cells #[.slice none 0 0] 213)).alloc (.cells #[.int .i64 0] 3)).alloc (.cells #[.int .i64 0] 25)).alloc (.cells #[.slice none 0 0] 213)).alloc (.cells #[.slice none 0 0] 32) = W0 := ⟨_, rfl⟩
  have b0 : Boxed W0 w.heap.size 213 (.slice none 0 0) := by rw [← hW0]; exact ((((Boxed.new w _ _).alloc _).alloc _).alloc _).alloc _
  have b1 : Boxed W0 (w.heap.size + 1) 3 (.int .i64 0) := by rw [← hW0]; have := Boxed.new (w.alloc (.cells #[.slice none 0 0] 213)) 3 (.int .i64 0); rw [World.size_alloc] at this; exact (((this).alloc _).alloc _).alloc _
  have b2 : Boxed W0 (w.heap.size + 1 + 1) 25 (.int .i64 0) := by rw [← hW0]; have := Boxed.new ((w.alloc (.cells #[.slice none 0 0] 213)).alloc (.cells #[.int .i64 0] 3)) 25 (.int .i64 0); simp only [World.size_alloc] at this; exact ((this).alloc _).alloc _
  have b3 : Boxed W0 (w.heap.size + 1 + 1 + 1) 213 (.slice none 0 0) := by rw [← hW0]; have := Boxed.new (((w.alloc (.cells #[.slice none 0 0] 213)).alloc (.cells #[.int .i64 0] 3)).alloc (.cells #[.int .i64 0] 25)) 213 (.slice none 0 0); simp only [World.size_alloc] at this; exact (this).alloc _
  have b4 : Boxed W0 (w.heap.size + 1 + 1 + 1 + 1) 32 (.slice none 0 0) := by rw [← hW0]; have := Boxed.new ((((w.alloc (.cells #[.slice none 0 0] 213)).alloc (.cells #[.int .i64 0] 3)).alloc (.cells #[.int .i64 0] 25)).alloc (.cells #[.slice none 0 0] 213)) 32 (.slice none 0 0); simp only [World.size_alloc] at this; exact this
  have hsz : W0.heap.size = w.heap.size + 5 := by rw [← hW0]; simp
  have hB0 : Below w.heap.size w W0 := by rw [← hW0]; exact (((((Below.refl _ _).alloc (Nat.le_refl _) _).alloc (by simp) _).alloc (by simp; omega) _).alloc (by simp; omega) _).alloc (by simp; omega) _
  have c4 := b4.cell
  rw [hW0]
  refine wpIn_rangeFunc_ownH rfl (by omega) (gf := 248) (lb := #[.pointer (some ⟨w.heap.size + 1 + 1 + 1 + 1, 0, none⟩)]) rfl trivial (enters_of Tryz.func248 (by kernel_rfl) rfl)
    (seq_none (w0 := W0) (fun y W hW => ckFl1 y (w.heap.size + 1 + 1 + 1 + 1) W ((hW.cell (p := ⟨w.heap.size + 1 + 1 + 1 + 1, 0, none⟩) (by show w.heap.size + 1 + 1 + 1 + 1 < _; omega)).trans c4) (by have := hW.size; omega))) kt_t kt_b (Below.refl _ _) (fun x => x.elim)
    (fun _ W => (Boxed W w.heap.size 213 (.slice none 0 0) ∧ Boxed W (w.heap.size + 1) 3 (.int .i64 0) ∧ Boxed W (w.heap.size + 1 + 1) 25 (.int .i64 0) ∧ Boxed W (w.heap.size + 1 + 1 + 1) 213 (.slice none 0 0)) ∧ Below w.heap.size w W)
    (fun _ _ _ => False)
    (OwnFrom.and (OwnFrom.and (Own.from (boxed_own _ _ _) _) (OwnFrom.and (Own.from (boxed_own _ _ _) _) (OwnFrom.and (Own.from (boxed_own _ _ _) _) (Own.from (boxed_own _ _ _) _)))) (ownFrom_below (Nat.le_refl _) (by omega)))
    (fun c s X Y row hs hg hr => hs)
    ⟨⟨b0, b1, b2, b3⟩, hB0⟩
    (fun x _ _ => x.elim)
    (fun x => x.elim)
    ?assign ?body ?done ?stop
  case assign =>
    intro l pre x
    exact x.elim
  case body =>
    intro l pre x
    exact x.elim
  case done =>
    rintro D xs W hD _ ⟨⟨b0, b1, b2, b3⟩, hB⟩ hK
    have c0 := b0.cell
    have c1 := b1.cell
    have c2 := b2.cell
    have c3 := b3.cell
    have f0 := b0.frozen
    have f1 := b1.frozen
    have f2 := b2.frozen
    gi_wp2
    have d0 := ((b0.set (.slice none 0 0)).other (B' := w.heap.size + 1) (by omega) (.int .i64 0)).other (B' := w.heap.size + 1 + 1) (by omega) (.int .i64 0)
    have d1 := ((b1.other (B' := w.heap.size) (by omega) (.slice none 0 0)).set (.int .i64 0)).other (B' := w.heap.size + 1 + 1) (by omega) (.int .i64 0)
    have d2 := ((b2.other (B' := w.heap.size) (by omega) (.slice none 0 0)).other (B' := w.heap.size + 1) (by omega) (.int .i64 0)).set (.int .i64 0)
    have hK' := (((KeepsOthers.setCell W ⟨w.heap.size, 0, none⟩ (.slice none 0 0)).trans (KeepsOthers.setCell _ ⟨w.heap.size + 1, 0, none⟩ (.int .i64 0))).trans (KeepsOthers.setCell _ ⟨w.heap.size + 1 + 1, 0, none⟩ (.int .i64 0))).same D _ hK rfl
    refine ⟨by simp, .inl ⟨_, _, rfl, run_takeDeferred hK', ?_⟩⟩
    have h0 := cell_kept d0.cell (grownBy_putObj' _ D (.deferred none)) (fun r e => by cases e; exact ⟨_, hK', rfl⟩)
    have h1 := cell_kept d1.cell (grownBy_putObj' _ D (.deferred none)) (fun r e => by cases e; exact ⟨_, hK', rfl⟩)
    have h2 := cell_kept d2.cell (grownBy_putObj' _ D (.deferred none)) (fun r e => by cases e; exact ⟨_, hK', rfl⟩)
    refine ⟨.tuple #[.slice none 0 0, .int .i64 0, .int .i64 0], ?_, rfl, ?_⟩
    · simp [results, Tryz.f162, go_sem, h0, h1, h2]
    · exact (((hB.setCell (p := ⟨w.heap.size, 0, none⟩) (Nat.le_refl _) _).setCell (p := ⟨w.heap.size + 1, 0, none⟩) (by simp) _).setCell (p := ⟨w.heap.size + 1 + 1, 0, none⟩) (by simp; omega) _).trans (belowK_b (w := w) (Nat.le_refl _) _ D _ _ (by omega) hK' rfl rfl)
  case stop =>
    rintro D c pre W hD hS
    exact hS.elim

set_option maxRecDepth 10000 in
set_option maxHeartbeats 1000000 in
theorem ckEntry (v0 v1 v2 v3 v4 v5 v6 v7 v8 v10 : Value) (w : World) :
    Calls Tryz.prog 119 #[.agg #[v0, v1, v2, v3, v4, v5, v6, v7, v8, .slice none 0 0, v10]] w fun e W' => e = .returned (.bool false) ∧ Below w.heap.size w W' := by
  obtain ⟨w1, hw1⟩ : ∃ w1, w.alloc (.cells #[v0, v1, v2, v3, v4, v5, v6, v7, v8, .slice none 0 0, v10] 42) = w1 := ⟨_, rfl⟩
  have hb1 : Below w.heap.size w w1 := by rw [← hw1]; exact (Below.refl _ _).alloc (Nat.le_refl _) _
  have o1 : Ob w1 w.heap.size #[v0, v1, v2, v3, v4, v5, v6, v7, v8, .slice none 0 0, v10] 42 := by rw [← hw1]; exact Ob.new _ _ _
  have c9 : w1.cell? ⟨w.heap.size, 9, none⟩ = some (.slice none 0 0) := o1.cell 9 rfl
  have hl := o1.lt
  have Q : Hid _ := ckRead w1
  have HW : Hid _ := hw1
  have HB : Hid _ := hb1
  clear hw1 hb1 o1
  go_enter Tryz.func119, Tryz.ntmps119
  go_upto_region 1 with fail
  rw [HW.out]
  go_wp2_with fail
  refine Calls.mono Q.out ?_
  rintro e w2 ⟨rfl, hb2⟩
  have HB2 : Hid _ := HB.out.trans (hb2.mono HB.out.size)
  clear hb2 Q HW HB
  go_wp2
  go_loopw [6, 18] (fun b v wr => b = .bool false ∧ v = .int .i64 0 ∧ w2 = wr) (fun _ _ _ => 0)
  case atStart => exact ⟨rfl, rfl, rfl⟩
  case round =>
    obtain ⟨rfl, rfl, rfl⟩ := hrel
    go_wp2
    go_ret
    exact ⟨rfl, HB2.out⟩

end Go.Proofs.YtcnjjhdmnagkgaaGreatDoor
