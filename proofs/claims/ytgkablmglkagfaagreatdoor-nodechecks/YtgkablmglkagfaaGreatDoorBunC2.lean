/- Put together by a program out of these texts of mine: Bas, URef, QRef, QEsc, QTak, LRef, LRef2, QNum. -/
import Derived.Test.YtgkablmglkagfaaGreatDoorRows
import Derived.WalkKit
import Derived.WalkMore
import Derived.ScopeJumps
import Derived.OpenShut
import Derived.ProofKit
import Derived.Laws.BytesArg
import Derived.Deep.QuietTactic
import Derived.BigQuiet
import Derived.WalkSmall
import Derived.Test.YtgkablmglkagfaaGreatDoorBunC1

/- What every layer's texts lean on: bytes that are read ('Bs'), rows of the call's own, appends, and how a slice of bytes is opened. -/
namespace Go.Proofs.YtgkablmglkagfaaGreatDoor
open Go.RowKit

theorem ret_int {k : IntKind} {a b : Int} (h : a = b) : Ending.returned (.int k a) = .returned (.int k b) := by rw [h]

theorem Tryz.info5 : (Tryz.prog.info? 5).map (fun i => (i.zero, i.size, i.bytes)) = some (some (.int .u8 0), 1, 1) := by kernel_rfl

theorem one_new (w : World) (v : Value) (e : TypeId) : ∀ (j : Nat) (u : Value), [v][j]? = some u → (w.alloc (.cells #[v] e)).cell? (({ block := w.heap.size, off := 0 } : Addr).add j) = some u := by
  intro j u hj
  match j, hj with
  | 0, hj => simp at hj; subst hj; simp [Addr.add]
theorem one_cell (k : IntKind) (n : Int) : ∀ u, u ∈ [Value.int k n] → u.oneCell' = true := by
  intro u hu; simp at hu; subst hu; rfl

theorem owns_shape {w : World} {base : Nat} {e : TypeId} {size n : Nat} {v : Value} {xs : List Value} (h : w.ownsRow base e size v n xs) (hv : ¬ v = .slice none 0 0) : ∃ g c, v = .slice (some ⟨g, 0, none⟩) n c := by
  rcases h.2 with ⟨rfl, _⟩ | ⟨g, c, _, rfl, _⟩
  · exact absurd rfl hv
  · exact ⟨g, c, rfl⟩

/-- A scope that goes back to one label: what holds at the label; a measure that each pass lowers; the way to the label. -/
theorem wp_scope_loop {P : Program} {a : Act} {w : World} {Q : Exit → Act → World → Prop} {c r : Code} (l : Nat) (J : Act → World → Prop) (μ : Act → World → Nat) (hf : findLabel c l = some (Code.skip.seq r))
    (first : Hid (∀ a w, J a w → r.wp P (Exit.jump l J Q) a w) → c.wp P (Exit.jump l J Q) a w)
    (pass : ∀ a w, J a w → r.wp P (Exit.jump l (fun a' w' => J a' w' ∧ μ a' w' < μ a w) Q) a w) : (Code.scope c).wp P Q a w :=
  wp_scope_jumps l J μ hf (first (fun a w h => wp_mono (pass a w h) (by
    intro e a w h
    cases e with
    | goto l' => exact ⟨h.1, h.2.1⟩
    | _ => exact h))) (fun a w h => wp_seq (wp_skip (pass a w h)))

theorem row_open {w : World} {a : Option Addr} {len cap : Nat} {zs : List Int}
    (h : (a = none ∧ len = 0 ∧ cap = 0 ∧ zs = []) ∨ ∃ x, a = some x ∧ len ≤ cap ∧ cap ≤ maxLen ∧ zs.length = cap ∧ (∀ i, i < zs.length → w.cell? (x.add i) = some (.int .u8 (zs.getD i 0))) ∧ ∀ n ∈ zs, (Lit.int .u8 n).wf = true) :
    (len : Int) ≤ 9223372036854775807 ∧ (zs.take len).length = len ∧ (∀ i, 0 ≤ (zs.take len).getD i 0 ∧ (zs.take len).getD i 0 ≤ 255) ∧
      (0 < len → ∃ b off, a = some ⟨b, off, none⟩ ∧ b < w.heap.size ∧ ∀ i, i < len → w.cell? ⟨b, off + i, none⟩ = some (.int .u8 ((zs.take len).getD i 0))) := by
  rcases h with ⟨rfl, rfl, rfl, rfl⟩ | ⟨x, rfl, hl, hm, hz, hcell, hwz⟩
  · exact ⟨by omega, rfl, fun i => by simp, fun h => absurd h (by omega)⟩
  · refine ⟨by unfold maxLen at hm; omega, by simp; omega, ?_, ?_⟩
    · intro i
      rcases Nat.lt_or_ge i (zs.take len).length with h | h
      · have hm := List.getElem_mem h
        have := bounds_u8 (hwz _ (List.mem_of_mem_take hm))
        simp only [List.getD, List.getElem?_eq_getElem h, Option.getD_some]
        omega
      · simp [List.getD, List.getElem?_eq_none h]
    · intro h0
      obtain ⟨b, off, spot⟩ := x
      have hc := hcell 0 (by omega)
      have hspot : spot = none := by simpa [Addr.add] using World.cell?_spot hc
      subst hspot
      refine ⟨b, off, rfl, ?_, ?_⟩
      · rcases Nat.lt_or_ge b w.heap.size with h | h
        · exact h
        · simp [World.cell?, Addr.add, Array.getElem?_eq_none h] at hc
      · intro i hi
        have := hcell i (by omega)
        have hp : (⟨b, off, none⟩ : Addr).add i = ⟨b, off + i, none⟩ := by unfold Addr.add; split <;> simp_all
        rw [hp] at this
        rw [this]
        simp [List.getD, hi]

theorem row_below {w w1 : World} {b off len : Nat} {zs : List Int} (hb : Below w.heap.size w w1) (hlt : b < w.heap.size)
    (h : ∀ i, i < len → w.cell? ⟨b, off + i, none⟩ = some (.int .u8 (zs.getD i 0))) : ∀ i, i < len → w1.cell? ⟨b, off + i, none⟩ = some (.int .u8 (zs.getD i 0)) :=
  fun i hi => (hb.cell hlt).trans (h i hi)

/-- The slice at a, of len bytes, room for cap, holds the numbers zs in the world w. -/
def Bs (w : World) (a : Option Addr) (len cap : Nat) (zs : List Int) : Prop :=
  zs.length = len ∧ (len : Int) ≤ 9223372036854775807 ∧ (∀ i, 0 ≤ zs.getD i 0 ∧ zs.getD i 0 ≤ 255) ∧ len ≤ cap ∧ (a = none → cap = 0) ∧
    (0 < len → ∃ b off, a = some ⟨b, off, none⟩ ∧ b < w.heap.size ∧ ∀ i, i < len → w.cell? ⟨b, off + i, none⟩ = some (.int .u8 (zs.getD i 0)))

theorem Bs.below {w w' : World} {a : Option Addr} {len cap : Nat} {zs : List Int} (h : Bs w a len cap zs) {B : Nat} (hb : Below B w w') (hB : w.heap.size ≤ B) : Bs w' a len cap zs := by
  obtain ⟨h1, h2, h3, h4, h5, h6⟩ := h
  refine ⟨h1, h2, h3, h4, h5, fun hp => ?_⟩
  obtain ⟨b, off, rfl, hlt, hc⟩ := h6 hp
  exact ⟨b, off, rfl, Nat.lt_of_lt_of_le hlt hb.size, fun i hi => (hb.cell (show b < B by omega)).trans (hc i hi)⟩

theorem Bs.of_row {w : World} {a : Option Addr} {len cap : Nat} {zs : List Int}
    (h : (a = none ∧ len = 0 ∧ cap = 0 ∧ zs = []) ∨ ∃ x, a = some x ∧ len ≤ cap ∧ cap ≤ maxLen ∧ zs.length = cap ∧ (∀ i, i < zs.length → w.cell? (x.add i) = some (.int .u8 (zs.getD i 0))) ∧ ∀ n ∈ zs, (Lit.int .u8 n).wf = true) :
    Bs w a len cap (zs.take len) := by
  obtain ⟨h1, h2, h3, h4⟩ := row_open h
  refine ⟨h2, h1, h3, ?_, ?_, h4⟩
  · rcases h with ⟨_, rfl, _, _⟩ | ⟨x, _, hl, _⟩
    · exact Nat.zero_le _
    · exact hl
  · intro hn
    rcases h with ⟨_, _, rfl, _⟩ | ⟨x, hx, _⟩
    · rfl
    · rw [hn] at hx; simp at hx

theorem getD_bd {l : List Int} (h : ∀ c ∈ l, 0 ≤ c ∧ c ≤ 255) (i : Nat) : 0 ≤ l.getD i 0 ∧ l.getD i 0 ≤ 255 := by
  rcases Nat.lt_or_ge i l.length with hl | hl
  · simp only [List.getD, List.getElem?_eq_getElem hl, Option.getD_some]
    exact h _ (List.getElem_mem hl)
  · simp [List.getD, List.getElem?_eq_none hl]

theorem mem_bd {l : List Int} (h : ∀ i, 0 ≤ l.getD i 0 ∧ l.getD i 0 ≤ 255) : ∀ c ∈ l, 0 ≤ c ∧ c ≤ 255 := by
  intro c hc
  obtain ⟨i, hi, rfl⟩ := List.getElem_of_mem hc
  have := h i
  simpa [List.getD, List.getElem?_eq_getElem hi] using this

theorem Bs.mem {w : World} {a : Option Addr} {len cap : Nat} {zs : List Int} (h : Bs w a len cap zs) : ∀ c ∈ zs, 0 ≤ c ∧ c ≤ 255 := mem_bd h.2.2.1

/-- What the call itself has made. -/
theorem Bs.of_owns {w : World} {base n : Nat} {a : Option Addr} {len cap : Nat} {zs : List Int} (h : w.ownsRow base 5 1 (.slice a len cap) n (zs.map (Value.int .u8))) (hb : ∀ c ∈ zs, 0 ≤ c ∧ c ≤ 255) : Bs w a len cap zs := by
  have hz := h.1
  simp at hz
  rcases h.2 with ⟨he, hn⟩ | ⟨g, c, cur, he, hg, hh, h1, h2, h3, h4⟩
  · simp at he
    obtain ⟨rfl, rfl, rfl⟩ := he
    have : zs = [] := List.eq_nil_of_length_eq_zero (by omega)
    subst this
    exact ⟨rfl, by omega, fun i => by simp, Nat.le_refl _, fun _ => rfl, fun h => absurd h (by omega)⟩
  · simp at he
    obtain ⟨rfl, rfl, rfl⟩ := he
    refine ⟨hz, by unfold maxLen at h2; omega, getD_bd hb, h1, fun h => by simp at h, fun hp => ⟨g, 0, rfl, ?_, fun i hi => ?_⟩⟩
    · exact (h.lt g rfl).2
    · have := h.cellAt i (by omega)
      rw [Nat.zero_add, this]
      simp [List.getElem?_eq_getElem (show i < zs.length by omega), List.getD]

/-- Its numbers as a text. -/
theorem Bs.conv {w : World} {a : Option Addr} {len cap : Nat} {zs : List Int} (h : Bs w a len cap zs) :
    (convert 77 9 (.slice a len cap)).run Tryz.prog w = .ok (.string (strOfNums zs)) w := by
  obtain ⟨h1, h2, h3, h4, h5, h6⟩ := h
  by_cases hp : 0 < len
  · obtain ⟨b, off, rfl, _, hc⟩ := h6 hp
    exact run_convert_bytes_arg w 77 5 Tryz.underlying77 Tryz.underlying5 b off len cap zs h1 hc 9 Tryz.underlying9
  · have hl : len = 0 := by omega
    subst hl
    have hz : zs = [] := List.eq_nil_of_length_eq_zero h1
    subst hz
    cases a with
    | none => exact run_convert_bytes_nil w 77 5 Tryz.underlying77 Tryz.underlying5 0 cap 9 Tryz.underlying9
    | some x =>
      rw [run_convert_bytes_string w 77 9 5 _ 0 cap Tryz.underlying77 Tryz.underlying5 Tryz.underlying9]
      have hl := run_loadCells_list (P := Tryz.prog) w x [] (fun j v hj => by simp at hj)
      exact run_bytesToString w x 0 cap [] (by simpa using hl)

/-- A piece of it: 's[l:h]', the address as the walk spells it. -/
theorem Bs.cut {w : World} {a : Option Addr} {len cap : Nat} {zs : List Int} (h : Bs w a len cap zs) (l k : Nat) (hl : l ≤ k) (hk : k ≤ len) :
    Bs w (if cap = l then a else a.map (·.add l)) (k - l) (cap - l) ((zs.take k).drop l) := by
  obtain ⟨h1, h2, h3, h4, h5, h6⟩ := h
  refine ⟨by simp; omega, by omega, ?_, by omega, ?_, ?_⟩
  · have hm := mem_bd h3
    exact getD_bd (fun c hc => hm c (List.mem_of_mem_take (List.mem_of_mem_drop hc)))
  · intro hn
    by_cases e : cap = l
    · omega
    · rw [if_neg e] at hn
      cases a with
      | none => have := h5 rfl; omega
      | some x => simp at hn
  · intro hp
    obtain ⟨b, off, rfl, hlt, hc⟩ := h6 (by omega)
    have e : ¬ cap = l := by omega
    have hadd : (⟨b, off, none⟩ : Addr).add l = ⟨b, off + l, none⟩ := by unfold Addr.add; split <;> simp_all
    refine ⟨b, off + l, by rw [if_neg e]; simp [hadd], hlt, fun i hi => ?_⟩
    have := hc (l + i) (by omega)
    rw [show off + l + i = off + (l + i) by omega, this]
    simp [List.getD, List.getElem?_drop, show l + i < k by omega]

theorem ints_one (l : List Int) : ∀ u, u ∈ l.map (Value.int .u8) → u.oneCell' = true := by
  intro u hu
  obtain ⟨n, _, rfl⟩ := List.mem_map.1 hu
  rfl

/-- An owned row stays owned behind a call that turns nothing that was there. -/
theorem own_below {W W' : World} {base e sz n : Nat} {v : Value} {xs : List Value} (h : W.ownsRow base e sz v n xs) (hb : Below W.heap.size W W') : W'.ownsRow base e sz v n xs :=
  h.kept (row := none) ⟨hb.os, hb.tape, hb.output, hb.size, fun k hk _ => hb.block k hk⟩ (by cases hv : v.ownBlock <;> simp)

theorem own_base {W : World} {base base' e sz n : Nat} {v : Value} {xs : List Value} (h : W.ownsRow base e sz v n xs) (hb : base' ≤ base) : W.ownsRow base' e sz v n xs := by
  refine ⟨h.1, ?_⟩
  rcases h.2 with h | ⟨g, c, cur, h1, h2, h3⟩
  · exact .inl h
  · exact .inr ⟨g, c, cur, h1, Nat.le_trans hb h2, h3⟩

theorem own_pos {w : World} {base : Nat} {e : TypeId} {size n : Nat} {v : Value} {xs : List Value} (h : w.ownsRow base e size v n xs) (hn : 0 < n) : ∃ g c, v = .slice (some ⟨g, 0, none⟩) n c :=
  owns_shape h (fun hv => by
    rcases h.2 with ⟨_, h0⟩ | ⟨g, c, cur, h1, _⟩
    · omega
    · rw [h1] at hv; simp at hv)

/-- An owned row's value is a slice of its length. -/
theorem own_slice {w : World} {base : Nat} {e : TypeId} {size n : Nat} {v : Value} {xs : List Value} (h : w.ownsRow base e size v n xs) : ∃ a c, v = .slice a n c := by
  rcases h.2 with ⟨rfl, rfl⟩ | ⟨g, c, cur, rfl, _⟩
  · exact ⟨none, 0, rfl⟩
  · exact ⟨some ⟨g, 0, none⟩, c, rfl⟩

theorem run_append_bs {w : World} {base n : Nat} {v : Value} {xs : List Value} {a : Option Addr} {len cap : Nat} {zs : List Int} (ty : TypeId)
    (hown : w.ownsRow base 5 1 v n xs) (hbs : Bs w a len cap zs) (hn : n + len ≤ 140737488355328) (hbase : base ≤ w.heap.size) :
    ∃ v' w', (Builtin.append_ #[77, 77] ty #[v, .slice a len cap]).run Tryz.prog w = .ok v' w' ∧ w'.ownsRow base 5 1 v' (n + len) (xs ++ zs.map (Value.int .u8)) ∧ w.grownBy w' v.ownBlock := by
  obtain ⟨i0, hi, hz0, hz1, hz2⟩ := info_parts Tryz.info5
  obtain ⟨h1, h2, h3, h4, h5, h6⟩ := hbs
  cases a with
  | none =>
    have hc := h5 rfl
    have hl : len = 0 := by omega
    subst hc hl
    have hz : zs = [] := List.eq_nil_of_length_eq_zero h1
    subst hz
    refine ⟨v, w, run_append_owned_none w base 77 ty 5 i0 1 Tryz.underlying77 hi v n xs hown, by simpa using hown, ⟨rfl, rfl, rfl, Nat.le_refl _, fun _ _ _ => rfl⟩⟩
  | some ad =>
    obtain ⟨v', w', hr, ho, hg, _⟩ := run_append_own (P := Tryz.prog) w base 77 ty 5 i0 (.int .u8 0) 1 1 Tryz.underlying77 hi hz0 hz1 hz2 rfl (by decide) v n xs hown ad len cap (zs.map (Value.int .u8)) (by simp [h1])
      (fun j u hj => by
        rcases Nat.lt_or_ge j len with h | h
        · obtain ⟨b, off, e, _, hc⟩ := h6 (by omega)
          simp at e
          subst e
          have hp : (⟨b, off, none⟩ : Addr).add j = ⟨b, off + j, none⟩ := by unfold Addr.add; split <;> simp_all
          rw [hp, hc j h]
          simp [List.getElem?_eq_getElem (show j < zs.length by omega), List.getD] at hj ⊢
          exact hj
        · simp [List.getElem?_eq_none (show zs.length ≤ j by omega)] at hj)
      (ints_one zs) (by unfold maxLen; omega) (by omega) hbase
    exact ⟨v', w', hr, ho, hg⟩

theorem wp_append_bs {w : World} {o : Oper} {f : Act} {K : Act → World → Prop} {Q : Exit → Act → World → Prop} (s x : Operand)
    (ho : o.op = .call { callee := .builtin .append, args := #[s, x], argTypes := #[77, 77] }) (base : Nat) (v : Value) (n : Nat) (xs : List Value) (a : Option Addr) (len cap : Nat) (zs : List Int)
    (hs : f.eval s = v) (hx : f.eval x = .slice a len cap) (hown : w.ownsRow base 5 1 v n xs) (hbs : Bs w a len cap zs) (hn : n + len ≤ 140737488355328) (hbase : base ≤ w.heap.size)
    (h : ∀ v' w', w'.ownsRow base 5 1 v' (n + len) (xs ++ zs.map (Value.int .u8)) → w.grownBy w' v.ownBlock → K (f.put o.dst v') w') : o.wp Tryz.prog f w K Q := by
  obtain ⟨v', w', hrun, h1, h2⟩ := run_append_bs (ty := o.type) hown hbs hn hbase
  unfold Oper.wp
  simp [execOp, ho, resolve, invoke, builtin, hs, hx, hrun, Result.andThen]
  exact h v' w' h1 h2

theorem wpList_append_bs {w : World} {ops : Array Oper} {rest : List Oper} {o : Oper} {f : Act} {Q : Exit → Act → World → Prop} (hgd : o.guard = none) (s x : Operand)
    (ho : o.op = .call { callee := .builtin .append, args := #[s, x], argTypes := #[77, 77] }) (base : Nat) (v : Value) (n : Nat) (xs : List Value) (a : Option Addr) (len cap : Nat) (zs : List Int)
    (hs : f.eval s = v) (hx : f.eval x = .slice a len cap) (hown : w.ownsRow base 5 1 v n xs) (hbs : Bs w a len cap zs) (hn : n + len ≤ 140737488355328) (hbase : base ≤ w.heap.size)
    (h : ∀ v' w', w'.ownsRow base 5 1 v' (n + len) (xs ++ zs.map (Value.int .u8)) → w.grownBy w' v.ownBlock → wpList Tryz.prog ops Q rest (f.put o.dst v') w') : wpList Tryz.prog ops Q (o :: rest) f w := by
  refine wpList_plain hgd fun K hK => ?_
  exact wp_append_bs s x ho base v n xs a len cap zs hs hx hown hbs hn hbase (fun v' w' h1 h2 => hK _ _ (h v' w' h1 h2))

theorem step_append_bs {w : World} {ops : Array Oper} {o : Oper} {f : Act} {K : Act → World → Prop} {Q : Exit → Act → World → Prop} {E : Prop} (hgd : o.guard = none) (s x : Operand)
    (ho : o.op = .call { callee := .builtin .append, args := #[s, x], argTypes := #[77, 77] }) (base : Nat) (v : Value) (n : Nat) (xs : List Value) (a : Option Addr) (len cap : Nat) (zs : List Int)
    (hs : f.eval s = v) (hx : f.eval x = .slice a len cap) (hown : w.ownsRow base 5 1 v n xs) (hbs : Bs w a len cap zs) (hn : n + len ≤ 140737488355328) (hbase : base ≤ w.heap.size)
    (h : ∀ v' w', w'.ownsRow base 5 1 v' (n + len) (xs ++ zs.map (Value.int .u8)) → w.grownBy w' v.ownBlock → K (f.put o.dst v') w') :
    if Region.wanted o (yielded ops f.tmps) = true then Oper.wp Tryz.prog o f w K Q else E := by
  have hw : Region.wanted o (yielded ops f.tmps) = true := by simp [Region.wanted, hgd]
  rw [if_pos hw]
  exact wp_append_bs s x ho base v n xs a len cap zs hs hx hown hbs hn hbase h

open Go.ChangeShapes Go.WideShapes Go.ChangeAt
theorem bs_open {H : Type} {enc : TypeId × Value → H} {W : World} {a : Option Addr} {len cap fuel : Nat} {x : DataW H × List MemPlace}
    (hf : DataW.trod enc Tryz.prog W 0 (fun _ => true) true fuel 77 [.slice a len cap] = some x) : ∃ zs, Bs W a len cap zs := by
  rcases open_ints Tryz.underlying77 Tryz.underlying5 (by kernel_rfl) hf with ⟨hcs, _⟩ | ⟨y, l, c, zs, hcs, _, hl, hm, hz, _, hcell, hwz⟩
  · simp at hcs
    obtain ⟨rfl, rfl, rfl⟩ := hcs
    exact ⟨_, Bs.of_row (zs := []) (.inl ⟨rfl, rfl, rfl, rfl⟩)⟩
  · simp at hcs
    obtain ⟨rfl, rfl, rfl⟩ := hcs
    exact ⟨_, Bs.of_row (zs := zs) (.inr ⟨_, rfl, hl, hm, by simpa using hz, hcell, hwz⟩)⟩

theorem u8_inj {a b : Int} (ha : 0 ≤ a ∧ a ≤ 255) (hb : 0 ≤ b ∧ b ≤ 255) (h : UInt8.ofNat a.toNat = UInt8.ofNat b.toNat) : a = b := by
  have e := congrArg UInt8.toNat h
  simp only [UInt8.toNat_ofNat'] at e
  omega

theorem u8s_inj : ∀ (a b : List Int), (∀ c ∈ a, 0 ≤ c ∧ c ≤ 255) → (∀ c ∈ b, 0 ≤ c ∧ c ≤ 255) → (a.map fun n => UInt8.ofNat n.toNat) = (b.map fun n => UInt8.ofNat n.toNat) → a = b
  | [], [], _, _, _ => rfl
  | [], y :: b, _, _, h => by simp at h
  | x :: a, [], _, _, h => by simp at h
  | x :: a, y :: b, ha, hb, h => by
    simp only [List.map_cons, List.cons.injEq] at h
    rw [u8_inj (ha x (by simp)) (hb y (by simp)) h.1, u8s_inj a b (fun c hc => ha c (by simp [hc])) (fun c hc => hb c (by simp [hc])) h.2]

/-- Two texts of bytes are one where the bytes are. -/
theorem str_eq {z1 z2 : List Int} (h1 : ∀ c ∈ z1, 0 ≤ c ∧ c ≤ 255) (h2 : ∀ c ∈ z2, 0 ≤ c ∧ c ≤ 255) : ((strOfNums z1).toList == (strOfNums z2).toList) = (z1 == z2) := by
  rw [ByteArray.toList_eq, ByteArray.toList_eq, strOfNums_data, strOfNums_data, Bool.eq_iff_iff]
  simp only [beq_iff_eq]
  exact ⟨u8s_inj z1 z2 h1 h2, fun h => by rw [h]⟩

theorem ret_bool {a b : Bool} (h : a = b) : Ending.returned (.bool a) = .returned (.bool b) := by rw [h]

end Go.Proofs.YtgkablmglkagfaaGreatDoor

/- The contracts of the document's own answers on characters (the reference's character, PutRune, Rune, Count), over the turned text. -/
namespace Go.Proofs.YtgkablmglkagfaaGreatDoor
open Go.RowKit

/-- A slice written out is the call's own row. -/
theorem lit_row (w : World) (e : TypeId) (xs : Array Value) (n : Nat) (hn : xs.size = n) (hm : n ≤ 1000) : (w.alloc (.cells xs e)).ownsRow w.heap.size e 1 (.slice (some ⟨w.heap.size, 0, none⟩) n n) n xs.toList := by
  subst hn
  refine ⟨by simp, .inr ⟨w.heap.size, xs.size, xs, rfl, Nat.le_refl _, heap_alloc_new _ _, Nat.le_refl _, by unfold maxLen; omega, by simp, by rw [Nat.mul_one]; exact List.take_of_length_le (by simp)⟩⟩

end Go.Proofs.YtgkablmglkagfaaGreatDoor

/- The contracts of the document's own answers on digits (the reference's digit, run), over the turned text. -/
namespace Go.Proofs.YtgkablmglkagfaaGreatDoor
open Go.RowKit

/-- A byte of a text. -/
theorem str_at (zs : List Int) (hz : ∀ i, 0 ≤ zs.getD i 0 ∧ zs.getD i 0 ≤ 255) (k : Nat) (h : k < (strOfNums zs).size) : (((strOfNums zs)[k]'h).toNat : Int) = zs.getD k 0 := by
  have hk : k < zs.length := by rw [strOfNums_size] at h; exact h
  have := hz k
  show ((((zs.map fun n => UInt8.ofNat n.toNat).toArray)[k]'(by simpa using hk)).toNat : Int) = _
  simp only [List.getElem_toArray, List.getElem_map]
  simp only [List.getD, List.getElem?_eq_getElem hk, Option.getD_some] at this ⊢
  simp
  omega

theorem qrn_stop (base : Int) (f : Nat) (zs : List Int) (k : Nat) (n : Int) (h : zs.length ≤ k ∨ f = 0 ∨ base ≤ dgt (zs.getD k 0)) : qrn base f (zs.drop k) n = (n, 0) := by
  cases f with
  | zero => rfl
  | succ f =>
    rcases Nat.lt_or_ge k zs.length with hk | hk
    · rw [List.drop_eq_getElem_cons hk, qrn, if_neg]
      have : zs[k] = zs.getD k 0 := by simp [List.getD, List.getElem?_eq_getElem hk]
      rw [this]
      omega
    · rw [List.drop_eq_nil_of_le hk]; rfl

theorem qrn_step (base : Int) (f : Nat) (zs : List Int) (k : Nat) (n : Int) (hk : k < zs.length) (h : dgt (zs.getD k 0) < base) :
    qrn base (f + 1) (zs.drop k) n = ((qrn base f (zs.drop (k + 1)) (n * base + dgt (zs.getD k 0))).1, (qrn base f (zs.drop (k + 1)) (n * base + dgt (zs.getD k 0))).2 + 1) := by
  have e : zs[k] = zs.getD k 0 := by simp [List.getD, List.getElem?_eq_getElem hk]
  rw [List.drop_eq_getElem_cons hk, qrn, e, if_pos h]

theorem dgt_1 {c : Int} (h : 48 ≤ c ∧ c ≤ 57) : dgt c = c - 48 := by unfold dgt; rw [if_pos h]

theorem dgt_2 {c : Int} (h : 97 ≤ c ∧ c ≤ 102) : dgt c = c - 87 := by unfold dgt; rw [if_neg (by omega), if_pos h]

theorem dgt_3 {c : Int} (h : 65 ≤ c ∧ c ≤ 70) : dgt c = c - 55 := by unfold dgt; rw [if_neg (by omega), if_neg (by omega), if_pos h]

theorem dgt_4 {c : Int} (h1 : ¬ (48 ≤ c ∧ c ≤ 57)) (h2 : ¬ (97 ≤ c ∧ c ≤ 102)) (h3 : ¬ (65 ≤ c ∧ c ≤ 70)) : dgt c = 99 := by unfold dgt; rw [if_neg h1, if_neg h2, if_neg h3]

set_option maxHeartbeats 400000 in
theorem rdigit_any (c : Int) (w : World) (h0 : 0 ≤ c) (h1 : c ≤ 255) :
    Calls Tryz.prog 110 #[.int .u8 c] w fun e w' => e = .returned (.int .i64 (dgt c)) ∧ w = w' := by
  by_cases k1 : 48 ≤ c
  · by_cases k2 : c ≤ 57
    · have E : Hid (dgt c = c - 48) := dgt_1 ⟨k1, k2⟩
      go_enter Tryz.func110, Tryz.ntmps110
      go_wp2
      go_ret
      exact ⟨by rw [E.out]; rfl, rfl⟩
    · by_cases k3 : 97 ≤ c
      · have k3' : 65 ≤ c := by omega
        by_cases k4 : c ≤ 102
        · have E : Hid (dgt c = c - 97 + 10) := by show _ = _; rw [dgt_2 ⟨k3, k4⟩]; omega
          go_enter Tryz.func110, Tryz.ntmps110
          go_wp2
          go_ret
          exact ⟨by rw [E.out]; rfl, rfl⟩
        · have E : Hid (dgt c = 99) := dgt_4 (by omega) (by omega) (by omega)
          have k5 : ¬ c ≤ 70 := by omega
          go_enter Tryz.func110, Tryz.ntmps110
          go_wp2
          go_ret
          exact ⟨by rw [E.out]; rfl, rfl⟩
      · by_cases k4 : 65 ≤ c
        · by_cases k5 : c ≤ 70
          · have E : Hid (dgt c = c - 65 + 10) := by show _ = _; rw [dgt_3 ⟨k4, k5⟩]; omega
            go_enter Tryz.func110, Tryz.ntmps110
            go_wp2
            go_ret
            exact ⟨by rw [E.out]; rfl, rfl⟩
          · have E : Hid (dgt c = 99) := dgt_4 (by omega) (by omega) (by omega)
            go_enter Tryz.func110, Tryz.ntmps110
            go_wp2
            go_ret
            exact ⟨by rw [E.out]; rfl, rfl⟩
        · have E : Hid (dgt c = 99) := dgt_4 (by omega) (by omega) (by omega)
          go_enter Tryz.func110, Tryz.ntmps110
          go_wp2
          go_ret
          exact ⟨by rw [E.out]; rfl, rfl⟩
  · have k3 : ¬ 97 ≤ c := by omega
    have k4 : ¬ 65 ≤ c := by omega
    have E : Hid (dgt c = 99) := dgt_4 (by omega) (by omega) (by omega)
    go_enter Tryz.func110, Tryz.ntmps110
    go_wp2
    go_ret
    exact ⟨by rw [E.out]; rfl, rfl⟩

end Go.Proofs.YtgkablmglkagfaaGreatDoor

/- The contract of the document's own answer on what stands behind a backslash (the reference's escape), over the turned text. -/
namespace Go.Proofs.YtgkablmglkagfaaGreatDoor
open Go.RowKit
set_option linter.unusedVariables false

theorem str_list (zs : List Int) : (strOfNums zs).toList = zs.map fun n => UInt8.ofNat n.toNat := by rw [ByteArray.toList_eq]; rfl

theorem str_ne (c : Int) (r : List Int) : ((strOfNums (c :: r)).toList == []) = false := by rw [str_list]; rfl

/-- A text's rest. -/
theorem str_cut (zs : List Int) (a b : Nat) : (strOfNums zs).extract a b = strOfNums ((zs.drop a).take (b - a)) := by
  unfold strOfNums
  rw [ByteArray.extract_mk, List.map_take, List.map_drop]

theorem str_tail (c : Int) (r : List Int) : (strOfNums (c :: r)).extract 1 (r.length + 1) = strOfNums r := by
  rw [str_cut]
  simp

theorem own_lit (w : World) (x : Int) : (w.alloc (.cells #[.int .u8 x] 5)).ownsRow w.heap.size 5 1 (.slice (some ⟨w.heap.size, 0, none⟩) 1 1) 1 [.int .u8 x] :=
  lit_row w 5 #[.int .u8 x] 1 rfl (by omega)

/-- What a way of escape ends in. -/
def EscEnd (w : World) (p : List Int × Nat) (e : Ending) (w' : World) : Prop :=
  ∃ v, e = .returned (.tuple #[v, .int .i64 (p.2 : Int)]) ∧ w'.ownsRow w.heap.size 5 1 v p.1.length (p.1.map (Value.int .u8)) ∧ Below w.heap.size w w'

end Go.Proofs.YtgkablmglkagfaaGreatDoor

/- The contract of the document's own answer on the quoted text at a text's beginning (the reference's TakeText), over the turned text. -/
namespace Go.Proofs.YtgkablmglkagfaaGreatDoor
open Go.RowKit
set_option linter.unusedVariables false
set_option linter.unusedSimpArgs false

theorem lit_bs1 (w : World) (c : Int) (h0 : 0 ≤ c) (h1 : c ≤ 255) : Bs (w.alloc (.cells #[.int .u8 c] 5)) (some ⟨w.heap.size, 0, none⟩) 1 1 [c] :=
  Bs.of_owns (zs := [c]) (own_lit w c) (by intro x hx; simp at hx; omega)

theorem qesc_out (s : List Int) : (qesc s).1.length ≤ (qesc s).2 := by
  cases s with
  | nil => simp [qesc]
  | cons c r =>
    have h5 := uput_len (qrn 16 4 r 0).1
    have h6 := uput_len (qrn 16 8 r 0).1
    suffices key : ∀ p, qesc (c :: r) = p → p.1.length ≤ p.2 from key _ rfl
    intro p
    rw [qesc]
    by_cases k0 : c = 97
    · rw [if_pos k0]; rintro rfl; simp
    rw [if_neg k0]
    by_cases k1 : c = 98
    · rw [if_pos k1]; rintro rfl; simp
    rw [if_neg k1]
    by_cases k2 : c = 102
    · rw [if_pos k2]; rintro rfl; simp
    rw [if_neg k2]
    by_cases k3 : c = 110
    · rw [if_pos k3]; rintro rfl; simp
    rw [if_neg k3]
    by_cases k4 : c = 114
    · rw [if_pos k4]; rintro rfl; simp
    rw [if_neg k4]
    by_cases k5 : c = 116
    · rw [if_pos k5]; rintro rfl; simp
    rw [if_neg k5]
    by_cases k6 : c = 118
    · rw [if_pos k6]; rintro rfl; simp
    rw [if_neg k6]
    by_cases k7 : c = 92 ∨ c = 39 ∨ c = 34 ∨ c = 63
    · rw [if_pos k7]; rintro rfl; simp
    rw [if_neg k7]
    by_cases m0 : c = 120 ∨ c = 88
    · rw [if_pos m0]
      by_cases j : 0 < (qrn 16 2 r 0).2
      · rw [if_pos j]; rintro rfl; simp only [List.length_cons, List.length_nil]; omega
      · rw [if_neg j]; rintro rfl; simp
    rw [if_neg m0]
    by_cases m1 : c = 117
    · rw [if_pos m1]
      by_cases j : (qrn 16 4 r 0).2 = 4 ∧ isCh (qrn 16 4 r 0).1 = true
      · rw [if_pos j]; rintro rfl; simp only [List.length_cons, List.length_nil]; omega
      · rw [if_neg j]; rintro rfl; simp
    rw [if_neg m1]
    by_cases m2 : c = 85
    · rw [if_pos m2]
      by_cases j : (qrn 16 8 r 0).2 = 8 ∧ isCh (qrn 16 8 r 0).1 = true
      · rw [if_pos j]; rintro rfl; simp only [List.length_cons, List.length_nil]; omega
      · rw [if_neg j]; rintro rfl; simp
    rw [if_neg m2]
    by_cases j : 0 < (qrn 8 3 (c :: r) 0).2 ∧ (qrn 8 3 (c :: r) 0).1 < 256
    · rw [if_pos j]; rintro rfl; simp only [List.length_cons, List.length_nil]; omega
    · rw [if_neg j]; rintro rfl; simp

theorem qtk_bd (q : Int) : ∀ (f : Nat) (s : List Int) (i : Int) (o : List Int), (∀ c ∈ s, 0 ≤ c ∧ c ≤ 255) → (∀ c ∈ o, 0 ≤ c ∧ c ≤ 255) → ∀ c ∈ (qtk q f s i o).1, 0 ≤ c ∧ c ≤ 255
  | 0, s, i, o, _, _ => by simp [qtk]
  | f + 1, [], i, o, _, _ => by simp [qtk]
  | f + 1, c :: r, i, o, h, ho => by
    have hr : ∀ c ∈ r, 0 ≤ c ∧ c ≤ 255 := fun x hx => h x (by simp [hx])
    rw [qtk]
    by_cases k1 : c = q
    · rw [if_pos k1]; exact ho
    rw [if_neg k1]
    by_cases k2 : c = 0 ∨ c = 10
    · rw [if_pos k2]; simp
    rw [if_neg k2]
    by_cases k3 : c = 92
    · rw [if_pos k3]
      by_cases k4 : (qesc r).2 = 0
      · rw [if_pos k4]; simp
      · rw [if_neg k4]
        exact qtk_bd q f _ _ _ (fun x hx => hr x (List.mem_of_mem_drop hx)) (fun x hx => (List.mem_append.1 hx).elim (ho x) (qesc_bd r hr x))
    · rw [if_neg k3]
      exact qtk_bd q f _ _ _ hr (fun x hx => (List.mem_append.1 hx).elim (ho x) (fun hx => by simp at hx; subst hx; exact h x (by simp)))

theorem qtake_bd (s : List Int) (h : ∀ c ∈ s, 0 ≤ c ∧ c ≤ 255) : ∀ c ∈ (qtake s).1, 0 ≤ c ∧ c ≤ 255 := by
  cases s with
  | nil => simp [qtake]
  | cons c r =>
    rw [qtake]
    by_cases k : c = 34 ∨ c = 39
    · rw [if_pos k]; exact qtk_bd c _ r 1 [] (fun x hx => h x (by simp [hx])) (by simp)
    · rw [if_neg k]; simp

/-- Every text is some numbers'. -/
theorem str_nums (s : ByteArray) : ∃ z : List Int, s = strOfNums z ∧ ∀ i, 0 ≤ z.getD i 0 ∧ z.getD i 0 ≤ 255 := by
  refine ⟨s.data.toList.map fun x => (x.toNat : Int), ?_, getD_bd ?_⟩
  · apply ByteArray.ext
    apply Array.ext'
    rw [strOfNums_data, List.map_map]
    conv => lhs; rw [← List.map_id s.data.toList]
    apply List.map_congr_left
    intro x _
    simp
  · intro c hc
    obtain ⟨x, _, rfl⟩ := List.mem_map.1 hc
    have := x.toNat_lt
    omega

theorem drop_at {l : List Int} {k : Nat} (h : k < l.length) : l.drop k = l.getD k 0 :: l.drop (k + 1) := by
  rw [List.drop_eq_getElem_cons h]
  simp [List.getD, List.getElem?_eq_getElem h]

end Go.Proofs.YtgkablmglkagfaaGreatDoor

/- The contracts of the reference's own small functions of layer 5: which signs are blanks, letters, digits, signs; where a line begins; comments of their own; places within comments. -/
namespace Go.Proofs.YtgkablmglkagfaaGreatDoor
open Go.RowKit
set_option linter.unusedVariables false
set_option linter.unusedSimpArgs false

theorem lblank_t {c : Int} (h : c = 32 ∨ (9 ≤ c ∧ c ≤ 13)) : lblank c = true := decide_eq_true h

theorem lblank_f {c : Int} (h : ¬ (c = 32 ∨ (9 ≤ c ∧ c ≤ 13))) : lblank c = false := decide_eq_false h

set_option maxHeartbeats 1000000 in
theorem rletter_any (c : Int) (w : World) (h0 : 0 ≤ c) (h1 : c ≤ 255) :
    Calls Tryz.prog 100 #[.int .u8 c] w fun e w' => e = .returned (.bool (lletter c)) ∧ w = w' := by
  by_cases k95 : c = 95
  · have E : Hid (lletter c = true) := decide_eq_true (by omega)
    subst k95
    go_enter Tryz.func100, Tryz.ntmps100
    go_wp2
    go_ret
    exact ⟨by rw [E.out]; first | rfl | exact ret_bool (by simp; omega), rfl⟩
  have e95 : (c == 95) = false := by simpa using k95
  rcases (show (97 ≤ c ∧ c ≤ 122) ∨ (65 ≤ c ∧ c ≤ 90) ∨ (48 ≤ c ∧ c ≤ 57) ∨ c < 48 ∨ (57 < c ∧ c < 65) ∨ (90 < c ∧ c < 97) ∨ 122 < c by omega) with h | h | h | h | h | h | h
  · have E : Hid (lletter c = true) := decide_eq_true (by omega)
    obtain ⟨p1, p2⟩ := h
    go_enter Tryz.func100, Tryz.ntmps100
    go_wp2
    go_ret
    exact ⟨by rw [E.out]; first | rfl | exact ret_bool (by simp; omega), rfl⟩
  · have E : Hid (lletter c = true) := decide_eq_true (by omega)
    obtain ⟨p1, p2⟩ := h
    go_enter Tryz.func100, Tryz.ntmps100
    go_wp2
    go_ret
    exact ⟨by rw [E.out]; first | rfl | exact ret_bool (by simp; omega), rfl⟩
  · have E : Hid (lletter c = true) := decide_eq_true (by omega)
    obtain ⟨p1, p2⟩ := h
    go_enter Tryz.func100, Tryz.ntmps100
    go_wp2
    go_ret
    exact ⟨by rw [E.out]; first | rfl | exact ret_bool (by simp; omega), rfl⟩
  · have E : Hid (lletter c = false) := decide_eq_false (by omega)
    go_enter Tryz.func100, Tryz.ntmps100
    go_wp2
    go_ret
    exact ⟨by rw [E.out]; first | rfl | exact ret_bool (by simp; omega), rfl⟩
  · have E : Hid (lletter c = false) := decide_eq_false (by omega)
    obtain ⟨p1, p2⟩ := h
    go_enter Tryz.func100, Tryz.ntmps100
    go_wp2
    go_ret
    exact ⟨by rw [E.out]; first | rfl | exact ret_bool (by simp; omega), rfl⟩
  · have E : Hid (lletter c = false) := decide_eq_false (by omega)
    obtain ⟨p1, p2⟩ := h
    go_enter Tryz.func100, Tryz.ntmps100
    go_wp2
    go_ret
    exact ⟨by rw [E.out]; first | rfl | exact ret_bool (by simp; omega), rfl⟩
  · have E : Hid (lletter c = false) := decide_eq_false (by omega)
    go_enter Tryz.func100, Tryz.ntmps100
    go_wp2
    go_ret
    exact ⟨by rw [E.out]; first | rfl | exact ret_bool (by simp; omega), rfl⟩

set_option maxHeartbeats 400000 in
theorem rnumber_any (c : Int) (w : World) (h0 : 0 ≤ c) (h1 : c ≤ 255) :
    Calls Tryz.prog 101 #[.int .u8 c] w fun e w' => e = .returned (.bool (lnumb c)) ∧ w = w' := by
  rcases (show (48 ≤ c ∧ c ≤ 57) ∨ c < 48 ∨ 57 < c by omega) with h | h | h
  · have E : Hid (lnumb c = true) := decide_eq_true (by omega)
    obtain ⟨p1, p2⟩ := h
    go_enter Tryz.func101, Tryz.ntmps101
    go_wp2
    go_ret
    exact ⟨by rw [E.out]; first | rfl | exact ret_bool (by simp; omega), rfl⟩
  · have E : Hid (lnumb c = false) := decide_eq_false (by omega)
    go_enter Tryz.func101, Tryz.ntmps101
    go_wp2
    go_ret
    exact ⟨by rw [E.out]; first | rfl | exact ret_bool (by simp; omega), rfl⟩
  · have E : Hid (lnumb c = false) := decide_eq_false (by omega)
    go_enter Tryz.func101, Tryz.ntmps101
    go_wp2
    go_ret
    exact ⟨by rw [E.out]; first | rfl | exact ret_bool (by simp; omega), rfl⟩

end Go.Proofs.YtgkablmglkagfaaGreatDoor

/- The contracts of the reference's own comments of a line, places within comments, comments of a token. -/
namespace Go.Proofs.YtgkablmglkagfaaGreatDoor
open Go.RowKit
set_option linter.unusedVariables false
set_option linter.unusedSimpArgs false

/-- A piece of a text of two signs is these. -/
theorem str_two (s : List Int) (hz : ∀ i, 0 ≤ s.getD i 0 ∧ s.getD i 0 ≤ 255) (i : Nat) (h : i + 1 < s.length) (a b : Int) (ha : 0 ≤ a ∧ a ≤ 255) (hb : 0 ≤ b ∧ b ≤ 255) :
    (((strOfNums s).extract i (i + 2)).toList == [UInt8.ofNat a.toNat, UInt8.ofNat b.toNat]) = decide (s.getD i 0 = a ∧ s.getD (i + 1) 0 = b) := by
  rw [str_cut, str_list, show i + 2 - i = 2 by omega, drop_at (show i < s.length by omega), drop_at h]
  have h1 := hz i
  have h2 := hz (i + 1)
  generalize s.getD i 0 = x at h1
  generalize s.getD (i + 1) 0 = y at h2
  rw [Bool.eq_iff_iff]
  simp only [List.take, List.map_cons, List.map_nil, beq_iff_eq, List.cons.injEq, and_true, decide_eq_true_eq]
  exact ⟨fun h => ⟨u8_inj h1 ha h.1, u8_inj h2 hb h.2⟩, fun h => by rw [h.1, h.2]; exact ⟨rfl, rfl⟩⟩

/-- A piece of a text, its bounds as the walk spells them. -/
theorem run_cut (S : ByteArray) (i j : Nat) (ii jj : Int) (hi : ii = (i : Int)) (hj : jj = (j : Int)) (h1 : i ≤ j) (h2 : j ≤ S.size) :
    ∀ W, (Instr.slice 9 (.string S) (some (.int .i64 ii)) (some (.int .i64 jj)) none).run Tryz.prog W = .ok (.string (S.extract i j)) W := fun W => by
  subst hi hj
  rw [run_slice_string W 9 S .i64 .i64 (i : Int) (j : Int) Tryz.underlying9 (by omega) (by omega) (by omega)]
  simp

theorem run_cut_to (S : ByteArray) (i : Nat) (ii : Int) (hi : ii = (i : Int)) (h1 : i ≤ S.size) :
    ∀ W, (Instr.slice 9 (.string S) (some (.int .i64 ii)) none none).run Tryz.prog W = .ok (.string (S.extract i S.size)) W := fun W => by
  subst hi
  rw [run_slice_string_l W 9 S Tryz.underlying9 .i64 (i : Int) (by omega) (by omega)]
  simp

/-- A slice of numbers (int) that is read. -/
def Is (w : World) (a : Option Addr) (len cap : Nat) (ms : List Nat) : Prop :=
  ms.length = len ∧ len ≤ cap ∧ (a = none → cap = 0) ∧ (0 < len → ∃ b off, a = some ⟨b, off, none⟩ ∧ b < w.heap.size ∧ ∀ i, i < len → w.cell? ⟨b, off + i, none⟩ = some (.int .i64 ((ms.getD i 0 : Nat) : Int)))

theorem Is.below {w w' : World} {a : Option Addr} {len cap : Nat} {ms : List Nat} (h : Is w a len cap ms) {B : Nat} (hb : Below B w w') (hB : w.heap.size ≤ B) : Is w' a len cap ms := by
  obtain ⟨h1, h2, h3, h4⟩ := h
  refine ⟨h1, h2, h3, fun hp => ?_⟩
  obtain ⟨b, off, rfl, hlt, hc⟩ := h4 hp
  exact ⟨b, off, rfl, Nat.lt_of_lt_of_le hlt hb.size, fun i hi => (hb.cell (show b < B by omega)).trans (hc i hi)⟩

theorem Is.of_owns {w : World} {base n : Nat} {a : Option Addr} {len cap : Nat} {ms : List Nat} (h : w.ownsRow base 3 1 (.slice a len cap) n (ms.map fun m => Value.int .i64 ((m : Nat) : Int))) : Is w a len cap ms := by
  have hz := h.1
  simp at hz
  rcases h.2 with ⟨he, hn⟩ | ⟨g, c, cur, he, hg, hh, h1, h2, h3, h4⟩
  · simp at he
    obtain ⟨rfl, rfl, rfl⟩ := he
    have : ms = [] := List.eq_nil_of_length_eq_zero (by omega)
    subst this
    exact ⟨rfl, Nat.le_refl _, fun _ => rfl, fun h => absurd h (by omega)⟩
  · simp at he
    obtain ⟨rfl, rfl, rfl⟩ := he
    refine ⟨hz, h1, fun h => by simp at h, fun hp => ⟨g, 0, rfl, (h.lt g rfl).2, fun i hi => ?_⟩⟩
    have := h.cellAt i (by omega)
    rw [Nat.zero_add, this]
    simp [List.getElem?_eq_getElem (show i < ms.length by omega), List.getD]

theorem linside_short (l : List Nat) (k : Nat) (h : l.length ≤ 1) : linside l k = false := by
  match l, h with
  | [], _ => rfl
  | [a], _ => rfl
  | a :: b :: r, h => simp at h

theorem drop_atN {l : List Nat} {k : Nat} (h : k < l.length) : l.drop k = l.getD k 0 :: l.drop (k + 1) := by
  rw [List.drop_eq_getElem_cons h]
  simp [List.getD, List.getElem?_eq_getElem h]

end Go.Proofs.YtgkablmglkagfaaGreatDoor

/- The contracts of the document's own answers on numbers (the reference's Number, Digits), over the turned text. -/
namespace Go.Proofs.YtgkablmglkagfaaGreatDoor
open Go.RowKit
set_option linter.unusedVariables false

set_option maxHeartbeats 1000000 in
theorem rnum_10a (zs : List Int) (w : World) (hz : Hid (∀ i, 0 ≤ zs.getD i 0 ∧ zs.getD i 0 ≤ 255)) (hlen : (zs.length : Int) ≤ 100000000) (h0 : 0 < zs.length) (h1 : zs.length = 1) :
    Calls Tryz.prog 96 #[.string (strOfNums zs)] w fun e w' => e = .returned (.tuple #[.int .u64 (qnm 10 (zs) 0).1, .bool (qnm 10 (zs) 0).2]) ∧ Below w.heap.size w w' := by
  have hsz := strOfNums_size zs
  have HA : Hid (∀ k, (h : k < zs.length) → (((strOfNums zs)[k]'(by rw [hsz]; exact h)).toNat : Int) = zs.getD k 0) := fun k h => str_at zs hz.out k _
  have hdn : ((strOfNums zs).toList == []) = false := by
    cases zs with
    | nil => simp at h0
    | cons c r => exact str_ne c r
  have HZD := hz
  obtain ⟨R, hR⟩ : ∃ R, R = qnm 10 zs 0 := ⟨_, rfl⟩
  rw [← hR]
  have HR : Hid (R = qnm 10 (zs.drop 0) 0) := hR
  clear hR
  go_enter Tryz.func96, Tryz.ntmps96
  go_wp2
  go_loopw [6, 7] (fun v i wr => ∃ (n : Int) (k : Nat), v = .int .u64 n ∧ i = .int .i64 (k : Int) ∧ 0 ≤ n ∧ n ≤ 18446744073709551615 ∧ k ≤ zs.length ∧ Hid (R = qnm 10 (zs.drop k) n) ∧ wr = w) (fun _ i _ => zs.length - (intOf i).toNat)
  case atStart => exact ⟨0, 0, rfl, rfl, by omega, by omega, by omega, HR, rfl⟩
  case round =>
    obtain ⟨n, k, rfl, rfl, n0, n1, hkl, HQ, rfl⟩ := hrel
    by_cases hk : k < zs.length
    · have hat := HA.out k hk
      obtain ⟨c0, c255⟩ := HZD.out k
      have HQ' := HQ.out
      rw [drop_at hk, qnm] at HQ'
      generalize zs.getD k 0 = c at hat c0 c255 HQ'
      have q := fun W => rdigit_any c W c0 c255
      obtain ⟨d0, d99⟩ := dgt_bd c
      generalize dgt c = d at q d0 d99 HQ'
      have Q : Hid _ := q
      have HQ2 : Hid _ := HQ'
      clear HQ' HQ q HR
      by_cases hb : 10 ≤ d
      · have E : Hid (R = (0, false)) := by have := HQ2.out; rw [if_pos (Or.inl hb)] at this; exact this
        clear HQ2
        go_wp2_with fail
        refine Calls.mono (Q.out _) ?_
        rintro e w1 ⟨rfl, rfl⟩
        go_wp2
        go_ret2
        exact ⟨by rw [E.out]; rfl, Below.refl _ _⟩
      · by_cases ho : (18446744073709551615 - d) / 10 < n
        · have E : Hid (R = (0, false)) := by have := HQ2.out; rw [if_pos (Or.inr ho)] at this; exact this
          clear HQ2
          go_wp2_with fail
          refine Calls.mono (Q.out _) ?_
          rintro e w1 ⟨rfl, rfl⟩
          go_wp2
          go_ret2
          exact ⟨by rw [E.out]; rfl, Below.refl _ _⟩
        · have E : Hid (R = qnm 10 (zs.drop (k + 1)) (n * 10 + d)) := by have := HQ2.out; rw [if_neg (by omega)] at this; exact this
          clear HQ2
          go_wp2_with fail
          refine Calls.mono (Q.out _) ?_
          rintro e w1 ⟨rfl, rfl⟩
          go_wp2
          go_roundw
          case rel => exact ⟨n * 10 + d, k + 1, rfl, by go_num, by omega, by omega, by omega, E, by first | rfl | trivial⟩
          case measure => simp [intOf]; omega
    · obtain rfl : k = zs.length := by omega
      have E : Hid (R = (n, true)) := by show _ = _; rw [HQ.out, List.drop_eq_nil_of_le (Nat.le_refl _)]; rfl
      clear HQ HR
      go_wp2
      go_ret2
      exact ⟨by rw [E.out]; rfl, Below.refl _ _⟩

set_option maxHeartbeats 1000000 in
theorem rnum_10b (zs : List Int) (w : World) (hz : Hid (∀ i, 0 ≤ zs.getD i 0 ∧ zs.getD i 0 ≤ 255)) (hlen : (zs.length : Int) ≤ 100000000) (h0 : 0 < zs.length) (h1 : zs.length = 2) (hn : (zs.getD 0 0 == 48) = false) :
    Calls Tryz.prog 96 #[.string (strOfNums zs)] w fun e w' => e = .returned (.tuple #[.int .u64 (qnm 10 (zs) 0).1, .bool (qnm 10 (zs) 0).2]) ∧ Below w.heap.size w w' := by
  have hsz := strOfNums_size zs
  obtain ⟨cz, hcz⟩ : ∃ c, c = zs.getD 0 0 := ⟨_, rfl⟩
  have hat0 := str_at zs hz.out 0 (by rw [hsz]; omega)
  rw [← hcz] at hat0 hn
  obtain ⟨cz0, cz1⟩ := hz.out 0
  rw [← hcz] at cz0 cz1
  clear hcz
  have HA : Hid (∀ k, (h : k < zs.length) → (((strOfNums zs)[k]'(by rw [hsz]; exact h)).toNat : Int) = zs.getD k 0) := fun k h => str_at zs hz.out k _
  have hdn : ((strOfNums zs).toList == []) = false := by
    cases zs with
    | nil => simp at h0
    | cons c r => exact str_ne c r
  have HZD := hz
  obtain ⟨R, hR⟩ : ∃ R, R = qnm 10 zs 0 := ⟨_, rfl⟩
  rw [← hR]
  have HR : Hid (R = qnm 10 (zs.drop 0) 0) := hR
  clear hR
  go_enter Tryz.func96, Tryz.ntmps96
  go_wp2
  go_loopw [6, 7] (fun v i wr => ∃ (n : Int) (k : Nat), v = .int .u64 n ∧ i = .int .i64 (k : Int) ∧ 0 ≤ n ∧ n ≤ 18446744073709551615 ∧ k ≤ zs.length ∧ Hid (R = qnm 10 (zs.drop k) n) ∧ wr = w) (fun _ i _ => zs.length - (intOf i).toNat)
  case atStart => exact ⟨0, 0, rfl, rfl, by omega, by omega, by omega, HR, rfl⟩
  case round =>
    obtain ⟨n, k, rfl, rfl, n0, n1, hkl, HQ, rfl⟩ := hrel
    by_cases hk : k < zs.length
    · have hat := HA.out k hk
      obtain ⟨c0, c255⟩ := HZD.out k
      have HQ' := HQ.out
      rw [drop_at hk, qnm] at HQ'
      generalize zs.getD k 0 = c at hat c0 c255 HQ'
      have q := fun W => rdigit_any c W c0 c255
      obtain ⟨d0, d99⟩ := dgt_bd c
      generalize dgt c = d at q d0 d99 HQ'
      have Q : Hid _ := q
      have HQ2 : Hid _ := HQ'
      clear HQ' HQ q HR
      by_cases hb : 10 ≤ d
      · have E : Hid (R = (0, false)) := by have := HQ2.out; rw [if_pos (Or.inl hb)] at this; exact this
        clear HQ2
        go_wp2_with fail
        refine Calls.mono (Q.out _) ?_
        rintro e w1 ⟨rfl, rfl⟩
        go_wp2
        go_ret2
        exact ⟨by rw [E.out]; rfl, Below.refl _ _⟩
      · by_cases ho : (18446744073709551615 - d) / 10 < n
        · have E : Hid (R = (0, false)) := by have := HQ2.out; rw [if_pos (Or.inr ho)] at this; exact this
          clear HQ2
          go_wp2_with fail
          refine Calls.mono (Q.out _) ?_
          rintro e w1 ⟨rfl, rfl⟩
          go_wp2
          go_ret2
          exact ⟨by rw [E.out]; rfl, Below.refl _ _⟩
        · have E : Hid (R = qnm 10 (zs.drop (k + 1)) (n * 10 + d)) := by have := HQ2.out; rw [if_neg (by omega)] at this; exact this
          clear HQ2
          go_wp2_with fail
          refine Calls.mono (Q.out _) ?_
          rintro e w1 ⟨rfl, rfl⟩
          go_wp2
          go_roundw
          case rel => exact ⟨n * 10 + d, k + 1, rfl, by go_num, by omega, by omega, by omega, E, by first | rfl | trivial⟩
          case measure => simp [intOf]; omega
    · obtain rfl : k = zs.length := by omega
      have E : Hid (R = (n, true)) := by show _ = _; rw [HQ.out, List.drop_eq_nil_of_le (Nat.le_refl _)]; rfl
      clear HQ HR
      go_wp2
      go_ret2
      exact ⟨by rw [E.out]; rfl, Below.refl _ _⟩

set_option maxHeartbeats 1000000 in
theorem rnum_10c (zs : List Int) (w : World) (hz : Hid (∀ i, 0 ≤ zs.getD i 0 ∧ zs.getD i 0 ≤ 255)) (hlen : (zs.length : Int) ≤ 100000000) (h0 : 0 < zs.length) (h1 : 2 < zs.length) (hn : (zs.getD 0 0 == 48) = false) :
    Calls Tryz.prog 96 #[.string (strOfNums zs)] w fun e w' => e = .returned (.tuple #[.int .u64 (qnm 10 (zs) 0).1, .bool (qnm 10 (zs) 0).2]) ∧ Below w.heap.size w w' := by
  have hsz := strOfNums_size zs
  obtain ⟨cz, hcz⟩ : ∃ c, c = zs.getD 0 0 := ⟨_, rfl⟩
  have hat0 := str_at zs hz.out 0 (by rw [hsz]; omega)
  rw [← hcz] at hat0 hn
  obtain ⟨cz0, cz1⟩ := hz.out 0
  rw [← hcz] at cz0 cz1
  clear hcz
  have HA : Hid (∀ k, (h : k < zs.length) → (((strOfNums zs)[k]'(by rw [hsz]; exact h)).toNat : Int) = zs.getD k 0) := fun k h => str_at zs hz.out k _
  have hdn : ((strOfNums zs).toList == []) = false := by
    cases zs with
    | nil => simp at h0
    | cons c r => exact str_ne c r
  have HZD := hz
  obtain ⟨R, hR⟩ : ∃ R, R = qnm 10 zs 0 := ⟨_, rfl⟩
  rw [← hR]
  have HR : Hid (R = qnm 10 (zs.drop 0) 0) := hR
  clear hR
  go_enter Tryz.func96, Tryz.ntmps96
  go_wp2
  go_loopw [6, 7] (fun v i wr => ∃ (n : Int) (k : Nat), v = .int .u64 n ∧ i = .int .i64 (k : Int) ∧ 0 ≤ n ∧ n ≤ 18446744073709551615 ∧ k ≤ zs.length ∧ Hid (R = qnm 10 (zs.drop k) n) ∧ wr = w) (fun _ i _ => zs.length - (intOf i).toNat)
  case atStart => exact ⟨0, 0, rfl, rfl, by omega, by omega, by omega, HR, rfl⟩
  case round =>
    obtain ⟨n, k, rfl, rfl, n0, n1, hkl, HQ, rfl⟩ := hrel
    by_cases hk : k < zs.length
    · have hat := HA.out k hk
      obtain ⟨c0, c255⟩ := HZD.out k
      have HQ' := HQ.out
      rw [drop_at hk, qnm] at HQ'
      generalize zs.getD k 0 = c at hat c0 c255 HQ'
      have q := fun W => rdigit_any c W c0 c255
      obtain ⟨d0, d99⟩ := dgt_bd c
      generalize dgt c = d at q d0 d99 HQ'
      have Q : Hid _ := q
      have HQ2 : Hid _ := HQ'
      clear HQ' HQ q HR
      by_cases hb : 10 ≤ d
      · have E : Hid (R = (0, false)) := by have := HQ2.out; rw [if_pos (Or.inl hb)] at this; exact this
        clear HQ2
        go_wp2_with fail
        refine Calls.mono (Q.out _) ?_
        rintro e w1 ⟨rfl, rfl⟩
        go_wp2
        go_ret2
        exact ⟨by rw [E.out]; rfl, Below.refl _ _⟩
      · by_cases ho : (18446744073709551615 - d) / 10 < n
        · have E : Hid (R = (0, false)) := by have := HQ2.out; rw [if_pos (Or.inr ho)] at this; exact this
          clear HQ2
          go_wp2_with fail
          refine Calls.mono (Q.out _) ?_
          rintro e w1 ⟨rfl, rfl⟩
          go_wp2
          go_ret2
          exact ⟨by rw [E.out]; rfl, Below.refl _ _⟩
        · have E : Hid (R = qnm 10 (zs.drop (k + 1)) (n * 10 + d)) := by have := HQ2.out; rw [if_neg (by omega)] at this; exact this
          clear HQ2
          go_wp2_with fail
          refine Calls.mono (Q.out _) ?_
          rintro e w1 ⟨rfl, rfl⟩
          go_wp2
          go_roundw
          case rel => exact ⟨n * 10 + d, k + 1, rfl, by go_num, by omega, by omega, by omega, E, by first | rfl | trivial⟩
          case measure => simp [intOf]; omega
    · obtain rfl : k = zs.length := by omega
      have E : Hid (R = (n, true)) := by show _ = _; rw [HQ.out, List.drop_eq_nil_of_le (Nat.le_refl _)]; rfl
      clear HQ HR
      go_wp2
      go_ret2
      exact ⟨by rw [E.out]; rfl, Below.refl _ _⟩

set_option maxHeartbeats 1000000 in
theorem rnum_8a (zs : List Int) (w : World) (hz : Hid (∀ i, 0 ≤ zs.getD i 0 ∧ zs.getD i 0 ≤ 255)) (hlen : (zs.length : Int) ≤ 100000000) (h1 : zs.length = 2) (hv0 : zs.getD 0 0 = 48) :
    Calls Tryz.prog 96 #[.string (strOfNums zs)] w fun e w' => e = .returned (.tuple #[.int .u64 (qnm 8 (zs.drop 1) 0).1, .bool (qnm 8 (zs.drop 1) 0).2]) ∧ Below w.heap.size w w' := by
  have hsz := strOfNums_size zs
  have hat0 := str_at zs hz.out 0 (by rw [hsz]; omega)
  rw [hv0] at hat0
  have hex : (strOfNums zs).extract 1 zs.length = strOfNums (zs.drop 1) := by rw [str_cut, List.take_of_length_le (by simp)]
  have HZD : Hid (∀ i, 0 ≤ (zs.drop 1).getD i 0 ∧ (zs.drop 1).getD i 0 ≤ 255) := fun i => by rw [getD_drop']; exact hz.out _
  have hdl : (zs.drop 1).length = zs.length - 1 := List.length_drop
  generalize zs.drop 1 = D at hex HZD hdl
  rw [h1] at hex
  have hsd := strOfNums_size D
  have HA : Hid (∀ k, (h : k < D.length) → (((strOfNums D)[k]'(by rw [hsd]; exact h)).toNat : Int) = D.getD k 0) := fun k h => str_at D HZD.out k _
  have hdn : ((strOfNums D).toList == []) = false := by
    cases D with
    | nil => simp at hdl; omega
    | cons c r => exact str_ne c r
  obtain ⟨R, hR⟩ : ∃ R, R = qnm 8 D 0 := ⟨_, rfl⟩
  rw [← hR]
  have HR : Hid (R = qnm 8 (D.drop 0) 0) := hR
  clear hR
  go_enter Tryz.func96, Tryz.ntmps96
  go_wp2
  go_quiet (fail)
  go_wp2
  go_loopw [6, 7] (fun v i wr => ∃ (n : Int) (k : Nat), v = .int .u64 n ∧ i = .int .i64 (k : Int) ∧ 0 ≤ n ∧ n ≤ 18446744073709551615 ∧ k ≤ D.length ∧ Hid (R = qnm 8 (D.drop k) n) ∧ wr = w.drewN nq) (fun _ i _ => D.length - (intOf i).toNat)
  case atStart => exact ⟨0, 0, rfl, rfl, by omega, by omega, by omega, HR, rfl⟩
  case round =>
    obtain ⟨n, k, rfl, rfl, n0, n1, hkl, HQ, rfl⟩ := hrel
    by_cases hk : k < D.length
    · have hat := HA.out k hk
      obtain ⟨c0, c255⟩ := HZD.out k
      have HQ' := HQ.out
      rw [drop_at hk, qnm] at HQ'
      generalize D.getD k 0 = c at hat c0 c255 HQ'
      have q := fun W => rdigit_any c W c0 c255
      obtain ⟨d0, d99⟩ := dgt_bd c
      generalize dgt c = d at q d0 d99 HQ'
      have Q : Hid _ := q
      have HQ2 : Hid _ := HQ'
      clear HQ' HQ q HR
      by_cases hb : 8 ≤ d
      · have E : Hid (R = (0, false)) := by have := HQ2.out; rw [if_pos (Or.inl hb)] at this; exact this
        clear HQ2
        go_wp2_with fail
        refine Calls.mono (Q.out _) ?_
        rintro e w1 ⟨rfl, rfl⟩
        go_wp2
        go_ret2
        exact ⟨by rw [E.out]; rfl, below_drewN (Below.refl _ _) _⟩
      · by_cases ho : (18446744073709551615 - d) / 8 < n
        · have E : Hid (R = (0, false)) := by have := HQ2.out; rw [if_pos (Or.inr ho)] at this; exact this
          clear HQ2
          go_wp2_with fail
          refine Calls.mono (Q.out _) ?_
          rintro e w1 ⟨rfl, rfl⟩
          go_wp2
          go_ret2
          exact ⟨by rw [E.out]; rfl, below_drewN (Below.refl _ _) _⟩
        · have E : Hid (R = qnm 8 (D.drop (k + 1)) (n * 8 + d)) := by have := HQ2.out; rw [if_neg (by omega)] at this; exact this
          clear HQ2
          go_wp2_with fail
          refine Calls.mono (Q.out _) ?_
          rintro e w1 ⟨rfl, rfl⟩
          go_wp2
          go_roundw
          case rel => exact ⟨n * 8 + d, k + 1, rfl, by go_num, by omega, by omega, by omega, E, by first | rfl | trivial⟩
          case measure => simp [intOf]; omega
    · obtain rfl : k = D.length := by omega
      have E : Hid (R = (n, true)) := by show _ = _; rw [HQ.out, List.drop_eq_nil_of_le (Nat.le_refl _)]; rfl
      clear HQ HR
      go_wp2
      go_ret2
      exact ⟨by rw [E.out]; rfl, below_drewN (Below.refl _ _) _⟩

set_option maxHeartbeats 1000000 in
theorem rnum_8b (zs : List Int) (w : World) (hz : Hid (∀ i, 0 ≤ zs.getD i 0 ∧ zs.getD i 0 ≤ 255)) (hlen : (zs.length : Int) ≤ 100000000) (h1 : 2 < zs.length) (hv0 : zs.getD 0 0 = 48) (hn : (zs.getD 1 0 == 120) = false) (hm : (zs.getD 1 0 == 88) = false) :
    Calls Tryz.prog 96 #[.string (strOfNums zs)] w fun e w' => e = .returned (.tuple #[.int .u64 (qnm 8 (zs.drop 1) 0).1, .bool (qnm 8 (zs.drop 1) 0).2]) ∧ Below w.heap.size w w' := by
  have hsz := strOfNums_size zs
  have hat0 := str_at zs hz.out 0 (by rw [hsz]; omega)
  rw [hv0] at hat0
  obtain ⟨cz, hcz⟩ : ∃ c, c = zs.getD 1 0 := ⟨_, rfl⟩
  have hat1 := str_at zs hz.out 1 (by rw [hsz]; omega)
  rw [← hcz] at hat1 hn hm
  obtain ⟨cz0, cz1⟩ := hz.out 1
  rw [← hcz] at cz0 cz1
  clear hcz
  have hex : (strOfNums zs).extract 1 zs.length = strOfNums (zs.drop 1) := by rw [str_cut, List.take_of_length_le (by simp)]
  have HZD : Hid (∀ i, 0 ≤ (zs.drop 1).getD i 0 ∧ (zs.drop 1).getD i 0 ≤ 255) := fun i => by rw [getD_drop']; exact hz.out _
  have hdl : (zs.drop 1).length = zs.length - 1 := List.length_drop
  generalize zs.drop 1 = D at hex HZD hdl
  have hsd := strOfNums_size D
  have HA : Hid (∀ k, (h : k < D.length) → (((strOfNums D)[k]'(by rw [hsd]; exact h)).toNat : Int) = D.getD k 0) := fun k h => str_at D HZD.out k _
  have hdn : ((strOfNums D).toList == []) = false := by
    cases D with
    | nil => simp at hdl; omega
    | cons c r => exact str_ne c r
  obtain ⟨R, hR⟩ : ∃ R, R = qnm 8 D 0 := ⟨_, rfl⟩
  rw [← hR]
  have HR : Hid (R = qnm 8 (D.drop 0) 0) := hR
  clear hR
  go_enter Tryz.func96, Tryz.ntmps96
  go_wp2
  go_quiet (fail)
  go_wp2
  go_loopw [6, 7] (fun v i wr => ∃ (n : Int) (k : Nat), v = .int .u64 n ∧ i = .int .i64 (k : Int) ∧ 0 ≤ n ∧ n ≤ 18446744073709551615 ∧ k ≤ D.length ∧ Hid (R = qnm 8 (D.drop k) n) ∧ wr = w.drewN nq) (fun _ i _ => D.length - (intOf i).toNat)
  case atStart => exact ⟨0, 0, rfl, rfl, by omega, by omega, by omega, HR, rfl⟩
  case round =>
    obtain ⟨n, k, rfl, rfl, n0, n1, hkl, HQ, rfl⟩ := hrel
    by_cases hk : k < D.length
    · have hat := HA.out k hk
      obtain ⟨c0, c255⟩ := HZD.out k
      have HQ' := HQ.out
      rw [drop_at hk, qnm] at HQ'
      generalize D.getD k 0 = c at hat c0 c255 HQ'
      have q := fun W => rdigit_any c W c0 c255
      obtain ⟨d0, d99⟩ := dgt_bd c
      generalize dgt c = d at q d0 d99 HQ'
      have Q : Hid _ := q
      have HQ2 : Hid _ := HQ'
      clear HQ' HQ q HR
      by_cases hb : 8 ≤ d
      · have E : Hid (R = (0, false)) := by have := HQ2.out; rw [if_pos (Or.inl hb)] at this; exact this
        clear HQ2
        go_wp2_with fail
        refine Calls.mono (Q.out _) ?_
        rintro e w1 ⟨rfl, rfl⟩
        go_wp2
        go_ret2
        exact ⟨by rw [E.out]; rfl, below_drewN (Below.refl _ _) _⟩
      · by_cases ho : (18446744073709551615 - d) / 8 < n
        · have E : Hid (R = (0, false)) := by have := HQ2.out; rw [if_pos (Or.inr ho)] at this; exact this
          clear HQ2
          go_wp2_with fail
          refine Calls.mono (Q.out _) ?_
          rintro e w1 ⟨rfl, rfl⟩
          go_wp2
          go_ret2
          exact ⟨by rw [E.out]; rfl, below_drewN (Below.refl _ _) _⟩
        · have E : Hid (R = qnm 8 (D.drop (k + 1)) (n * 8 + d)) := by have := HQ2.out; rw [if_neg (by omega)] at this; exact this
          clear HQ2
          go_wp2_with fail
          refine Calls.mono (Q.out _) ?_
          rintro e w1 ⟨rfl, rfl⟩
          go_wp2
          go_roundw
          case rel => exact ⟨n * 8 + d, k + 1, rfl, by go_num, by omega, by omega, by omega, E, by first | rfl | trivial⟩
          case measure => simp [intOf]; omega
    · obtain rfl : k = D.length := by omega
      have E : Hid (R = (n, true)) := by show _ = _; rw [HQ.out, List.drop_eq_nil_of_le (Nat.le_refl _)]; rfl
      clear HQ HR
      go_wp2
      go_ret2
      exact ⟨by rw [E.out]; rfl, below_drewN (Below.refl _ _) _⟩

set_option maxHeartbeats 1000000 in
theorem rnum_16a (zs : List Int) (w : World) (hz : Hid (∀ i, 0 ≤ zs.getD i 0 ∧ zs.getD i 0 ≤ 255)) (hlen : (zs.length : Int) ≤ 100000000) (h1 : 2 < zs.length) (hv0 : zs.getD 0 0 = 48) (hv1 : zs.getD 1 0 = 120) :
    Calls Tryz.prog 96 #[.string (strOfNums zs)] w fun e w' => e = .returned (.tuple #[.int .u64 (qnm 16 (zs.drop 2) 0).1, .bool (qnm 16 (zs.drop 2) 0).2]) ∧ Below w.heap.size w w' := by
  have hsz := strOfNums_size zs
  have hat0 := str_at zs hz.out 0 (by rw [hsz]; omega)
  rw [hv0] at hat0
  have hat1 := str_at zs hz.out 1 (by rw [hsz]; omega)
  rw [hv1] at hat1
  have hex : (strOfNums zs).extract 2 zs.length = strOfNums (zs.drop 2) := by rw [str_cut, List.take_of_length_le (by simp)]
  have HZD : Hid (∀ i, 0 ≤ (zs.drop 2).getD i 0 ∧ (zs.drop 2).getD i 0 ≤ 255) := fun i => by rw [getD_drop']; exact hz.out _
  have hdl : (zs.drop 2).length = zs.length - 2 := List.length_drop
  generalize zs.drop 2 = D at hex HZD hdl
  have hsd := strOfNums_size D
  have HA : Hid (∀ k, (h : k < D.length) → (((strOfNums D)[k]'(by rw [hsd]; exact h)).toNat : Int) = D.getD k 0) := fun k h => str_at D HZD.out k _
  have hdn : ((strOfNums D).toList == []) = false := by
    cases D with
    | nil => simp at hdl; omega
    | cons c r => exact str_ne c r
  obtain ⟨R, hR⟩ : ∃ R, R = qnm 16 D 0 := ⟨_, rfl⟩
  rw [← hR]
  have HR : Hid (R = qnm 16 (D.drop 0) 0) := hR
  clear hR
  go_enter Tryz.func96, Tryz.ntmps96
  go_wp2
  go_quiet (fail)
  go_wp2
  go_loopw [6, 7] (fun v i wr => ∃ (n : Int) (k : Nat), v = .int .u64 n ∧ i = .int .i64 (k : Int) ∧ 0 ≤ n ∧ n ≤ 18446744073709551615 ∧ k ≤ D.length ∧ Hid (R = qnm 16 (D.drop k) n) ∧ wr = w.drewN nq) (fun _ i _ => D.length - (intOf i).toNat)
  case atStart => exact ⟨0, 0, rfl, rfl, by omega, by omega, by omega, HR, rfl⟩
  case round =>
    obtain ⟨n, k, rfl, rfl, n0, n1, hkl, HQ, rfl⟩ := hrel
    by_cases hk : k < D.length
    · have hat := HA.out k hk
      obtain ⟨c0, c255⟩ := HZD.out k
      have HQ' := HQ.out
      rw [drop_at hk, qnm] at HQ'
      generalize D.getD k 0 = c at hat c0 c255 HQ'
      have q := fun W => rdigit_any c W c0 c255
      obtain ⟨d0, d99⟩ := dgt_bd c
      generalize dgt c = d at q d0 d99 HQ'
      have Q : Hid _ := q
      have HQ2 : Hid _ := HQ'
      clear HQ' HQ q HR
      by_cases hb : 16 ≤ d
      · have E : Hid (R = (0, false)) := by have := HQ2.out; rw [if_pos (Or.inl hb)] at this; exact this
        clear HQ2
        go_wp2_with fail
        refine Calls.mono (Q.out _) ?_
        rintro e w1 ⟨rfl, rfl⟩
        go_wp2
        go_ret2
        exact ⟨by rw [E.out]; rfl, below_drewN (Below.refl _ _) _⟩
      · by_cases ho : (18446744073709551615 - d) / 16 < n
        · have E : Hid (R = (0, false)) := by have := HQ2.out; rw [if_pos (Or.inr ho)] at this; exact this
          clear HQ2
          go_wp2_with fail
          refine Calls.mono (Q.out _) ?_
          rintro e w1 ⟨rfl, rfl⟩
          go_wp2
          go_ret2
          exact ⟨by rw [E.out]; rfl, below_drewN (Below.refl _ _) _⟩
        · have E : Hid (R = qnm 16 (D.drop (k + 1)) (n * 16 + d)) := by have := HQ2.out; rw [if_neg (by omega)] at this; exact this
          clear HQ2
          go_wp2_with fail
          refine Calls.mono (Q.out _) ?_
          rintro e w1 ⟨rfl, rfl⟩
          go_wp2
          go_roundw
          case rel => exact ⟨n * 16 + d, k + 1, rfl, by go_num, by omega, by omega, by omega, E, by first | rfl | trivial⟩
          case measure => simp [intOf]; omega
    · obtain rfl : k = D.length := by omega
      have E : Hid (R = (n, true)) := by show _ = _; rw [HQ.out, List.drop_eq_nil_of_le (Nat.le_refl _)]; rfl
      clear HQ HR
      go_wp2
      go_ret2
      exact ⟨by rw [E.out]; rfl, below_drewN (Below.refl _ _) _⟩

set_option maxHeartbeats 1000000 in
theorem rnum_16b (zs : List Int) (w : World) (hz : Hid (∀ i, 0 ≤ zs.getD i 0 ∧ zs.getD i 0 ≤ 255)) (hlen : (zs.length : Int) ≤ 100000000) (h1 : 2 < zs.length) (hv0 : zs.getD 0 0 = 48) (hv1 : zs.getD 1 0 = 88) :
    Calls Tryz.prog 96 #[.string (strOfNums zs)] w fun e w' => e = .returned (.tuple #[.int .u64 (qnm 16 (zs.drop 2) 0).1, .bool (qnm 16 (zs.drop 2) 0).2]) ∧ Below w.heap.size w w' := by
  have hsz := strOfNums_size zs
  have hat0 := str_at zs hz.out 0 (by rw [hsz]; omega)
  rw [hv0] at hat0
  have hat1 := str_at zs hz.out 1 (by rw [hsz]; omega)
  rw [hv1] at hat1
  have hex : (strOfNums zs).extract 2 zs.length = strOfNums (zs.drop 2) := by rw [str_cut, List.take_of_length_le (by simp)]
  have HZD : Hid (∀ i, 0 ≤ (zs.drop 2).getD i 0 ∧ (zs.drop 2).getD i 0 ≤ 255) := fun i => by rw [getD_drop']; exact hz.out _
  have hdl : (zs.drop 2).length = zs.length - 2 := List.length_drop
  generalize zs.drop 2 = D at hex HZD hdl
  have hsd := strOfNums_size D
  have HA : Hid (∀ k, (h : k < D.length) → (((strOfNums D)[k]'(by rw [hsd]; exact h)).toNat : Int) = D.getD k 0) := fun k h => str_at D HZD.out k _
  have hdn : ((strOfNums D).toList == []) = false := by
    cases D with
    | nil => simp at hdl; omega
    | cons c r => exact str_ne c r
  obtain ⟨R, hR⟩ : ∃ R, R = qnm 16 D 0 := ⟨_, rfl⟩
  rw [← hR]
  have HR : Hid (R = qnm 16 (D.drop 0) 0) := hR
  clear hR
  go_enter Tryz.func96, Tryz.ntmps96
  go_wp2
  go_quiet (fail)
  go_wp2
  go_loopw [6, 7] (fun v i wr => ∃ (n : Int) (k : Nat), v = .int .u64 n ∧ i = .int .i64 (k : Int) ∧ 0 ≤ n ∧ n ≤ 18446744073709551615 ∧ k ≤ D.length ∧ Hid (R = qnm 16 (D.drop k) n) ∧ wr = w.drewN nq) (fun _ i _ => D.length - (intOf i).toNat)
  case atStart => exact ⟨0, 0, rfl, rfl, by omega, by omega, by omega, HR, rfl⟩
  case round =>
    obtain ⟨n, k, rfl, rfl, n0, n1, hkl, HQ, rfl⟩ := hrel
    by_cases hk : k < D.length
    · have hat := HA.out k hk
      obtain ⟨c0, c255⟩ := HZD.out k
      have HQ' := HQ.out
      rw [drop_at hk, qnm] at HQ'
      generalize D.getD k 0 = c at hat c0 c255 HQ'
      have q := fun W => rdigit_any c W c0 c255
      obtain ⟨d0, d99⟩ := dgt_bd c
      generalize dgt c = d at q d0 d99 HQ'
      have Q : Hid _ := q
      have HQ2 : Hid _ := HQ'
      clear HQ' HQ q HR
      by_cases hb : 16 ≤ d
      · have E : Hid (R = (0, false)) := by have := HQ2.out; rw [if_pos (Or.inl hb)] at this; exact this
        clear HQ2
        go_wp2_with fail
        refine Calls.mono (Q.out _) ?_
        rintro e w1 ⟨rfl, rfl⟩
        go_wp2
        go_ret2
        exact ⟨by rw [E.out]; rfl, below_drewN (Below.refl _ _) _⟩
      · by_cases ho : (18446744073709551615 - d) / 16 < n
        · have E : Hid (R = (0, false)) := by have := HQ2.out; rw [if_pos (Or.inr ho)] at this; exact this
          clear HQ2
          go_wp2_with fail
          refine Calls.mono (Q.out _) ?_
          rintro e w1 ⟨rfl, rfl⟩
          go_wp2
          go_ret2
          exact ⟨by rw [E.out]; rfl, below_drewN (Below.refl _ _) _⟩
        · have E : Hid (R = qnm 16 (D.drop (k + 1)) (n * 16 + d)) := by have := HQ2.out; rw [if_neg (by omega)] at this; exact this
          clear HQ2
          go_wp2_with fail
          refine Calls.mono (Q.out _) ?_
          rintro e w1 ⟨rfl, rfl⟩
          go_wp2
          go_roundw
          case rel => exact ⟨n * 16 + d, k + 1, rfl, by go_num, by omega, by omega, by omega, E, by first | rfl | trivial⟩
          case measure => simp [intOf]; omega
    · obtain rfl : k = D.length := by omega
      have E : Hid (R = (n, true)) := by show _ = _; rw [HQ.out, List.drop_eq_nil_of_le (Nat.le_refl _)]; rfl
      clear HQ HR
      go_wp2
      go_ret2
      exact ⟨by rw [E.out]; rfl, below_drewN (Below.refl _ _) _⟩

set_option maxHeartbeats 400000 in
theorem rnum_nil (w : World) : Calls Tryz.prog 96 #[.string (strOfNums [])] w fun e w' => e = .returned (.tuple #[.int .u64 0, .bool false]) ∧ w = w' := by
  have hne : ((strOfNums []).toList == []) = true := by rw [str_list]; rfl
  have hsz : (strOfNums []).size = 0 := strOfNums_size []
  generalize strOfNums [] = S at hne hsz
  go_enter Tryz.func96, Tryz.ntmps96
  go_wp2
  refine wp_loop_rounds 1 ?_
  rw [rounds_succ]
  go_wp2
  go_ret2
  exact ⟨rfl, rfl⟩

theorem rnum_any (zs : List Int) (w : World) (hz : Hid (∀ i, 0 ≤ zs.getD i 0 ∧ zs.getD i 0 ≤ 255)) (hlen : (zs.length : Int) ≤ 100000000) :
    Calls Tryz.prog 96 #[.string (strOfNums zs)] w fun e w' => e = .returned (.tuple #[.int .u64 (qnum zs).1, .bool (qnum zs).2]) ∧ Below w.heap.size w w' := by
  by_cases h0 : zs = []
  · subst h0
    exact (rnum_nil w).mono fun e w' ⟨h1, h2⟩ => ⟨h1, h2 ▸ Below.refl _ _⟩
  have hp : 0 < zs.length := List.length_pos_iff.2 h0
  unfold qnum
  by_cases h1 : zs.length = 1
  · rw [if_neg (by omega), if_neg (by omega), if_neg h0]
    exact rnum_10a zs w hz hlen hp h1
  by_cases hv : zs.getD 0 0 = 48
  · by_cases h2 : zs.length = 2
    · rw [if_neg (by omega), if_pos ⟨by omega, hv⟩]
      exact rnum_8a zs w hz hlen h2 hv
    · by_cases hx : zs.getD 1 0 = 120
      · rw [if_pos ⟨by omega, hv, Or.inl hx⟩]
        exact rnum_16a zs w hz hlen (by omega) hv hx
      by_cases hX : zs.getD 1 0 = 88
      · rw [if_pos ⟨by omega, hv, Or.inr hX⟩]
        exact rnum_16b zs w hz hlen (by omega) hv hX
      rw [if_neg (by omega), if_pos ⟨by omega, hv⟩]
      exact rnum_8b zs w hz hlen (by omega) hv (by simpa using hx) (by simpa using hX)
  · rw [if_neg (by omega), if_neg (by omega), if_neg h0]
    by_cases h2 : zs.length = 2
    · exact rnum_10b zs w hz hlen hp h2 (by simpa using hv)
    · exact rnum_10c zs w hz hlen hp (by omega) (by simpa using hv)

theorem enc_1 (c : Int) (h0 : 0 ≤ c) (h1 : c < 128) : Utf8.encode c = strOfNums [c] := by
  have hv : Utf8.valid c = true := by unfold Utf8.valid; simp; omega
  unfold Utf8.encode
  rw [hv]
  simp only [if_true]
  rw [if_pos (by omega)]
  rfl

theorem str_app (a b : List Int) : strOfNums a ++ strOfNums b = strOfNums (a ++ b) := by
  unfold strOfNums
  rw [ByteArray.mk_append_mk, List.map_append]

theorem run_add (w : World) (a b : List Int) (h : a.length + b.length ≤ 9223372036854775807) : (Op.stringOp .add (strOfNums a) (strOfNums b)).run Tryz.prog w = .ok (.string (strOfNums (a ++ b))) w := by
  rw [run_string_add_sum w _ _ (by rw [strOfNums_size, strOfNums_size]; exact h), str_app]

end Go.Proofs.YtgkablmglkagfaaGreatDoor
