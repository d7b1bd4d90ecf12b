/- Put together by a program out of these texts of mine: Bas, DIn, VOb, Ext, DMsg, DFew. -/
import Derived.Test.YtjbppjemilijdaaRows
import Derived.WalkKit
import Derived.WalkMore
import Derived.ScopeJumps
import Derived.OpenShut
import Derived.ProofKit
import Derived.Laws.BytesArg
import Derived.Deep.Slices
import Derived.Deep.QuietTactic
import Derived.BigQuiet

/- What every layer's texts lean on: bytes that are read ('Bs'), rows of the call's own, appends, and how a slice of bytes is opened. -/
namespace Go.Proofs.Ytjbppjemilijdaa
open Go.RowKit

theorem ret_int {k : IntKind} {a b : Int} (h : a = b) : Ending.returned (.int k a) = .returned (.int k b) := by rw [h]

theorem Try.info5 : (Try.prog.info? 5).map (fun i => (i.zero, i.size, i.bytes)) = some (some (.int .u8 0), 1, 1) := by kernel_rfl

theorem one_new (w : World) (v : Value) (e : TypeId) : ∀ (j : Nat) (u : Value), [v][j]? = some u → (w.alloc (.cells #[v] e)).cell? (({ block := w.heap.size, off := 0 } : Addr).add j) = some u := by
  intro j u hj
  match j, hj with
  | 0, hj => simp at hj; subst hj; simp [Addr.add]
theorem one_cell (k : IntKind) (n : Int) : ∀ u, u ∈ [Value.int k n] → u.oneCell' = true := by
  intro u hu; simp at hu; subst hu; rfl

theorem owns_shape {w : World} {base : Nat} {e : TypeId} {size n : Nat} {v : Value} {xs : List Value} (h : w.ownsRow base e size v n xs) (hv : ¬ v = .slice none 0 0) : ∃ g c, v = .slice (some ⟨g, 0, none⟩) n c := by
  rcases h.2 with ⟨rfl, _⟩ | ⟨g, c, _, rfl, _⟩
  · exact absurd rfl hv
  · exact ⟨g, c, rfl⟩

/-- A scope that goes back to one label: what holds at the label; a measure that each pass lowers; the way to the label. -/
theorem wp_scope_loop {P : Program} {a : Act} {w : World} {Q : Exit → Act → World → Prop} {c r : Code} (l : Nat) (J : Act → World → Prop) (μ : Act → World → Nat) (hf : findLabel c l = some (Code.skip.seq r))
    (first : Hid (∀ a w, J a w → r.wp P (Exit.jump l J Q) a w) → c.wp P (Exit.jump l J Q) a w)
    (pass : ∀ a w, J a w → r.wp P (Exit.jump l (fun a' w' => J a' w' ∧ μ a' w' < μ a w) Q) a w) : (Code.scope c).wp P Q a w :=
  wp_scope_jumps l J μ hf (first (fun a w h => wp_mono (pass a w h) (by
    intro e a w h
    cases e with
    | goto l' => exact ⟨h.1, h.2.1⟩
    | _ => exact h))) (fun a w h => wp_seq (wp_skip (pass a w h)))

theorem row_open {w : World} {a : Option Addr} {len cap : Nat} {zs : List Int}
    (h : (a = none ∧ len = 0 ∧ cap = 0 ∧ zs = []) ∨ ∃ x, a = some x ∧ len ≤ cap ∧ cap ≤ maxLen ∧ zs.length = cap ∧ (∀ i, i < zs.length → w.cell? (x.add i) = some (.int .u8 (zs.getD i 0))) ∧ ∀ n ∈ zs, (Lit.int .u8 n).wf = true) :
    (len : Int) ≤ 9223372036854775807 ∧ (zs.take len).length = len ∧ (∀ i, 0 ≤ (zs.take len).getD i 0 ∧ (zs.take len).getD i 0 ≤ 255) ∧
      (0 < len → ∃ b off, a = some ⟨b, off, none⟩ ∧ b < w.heap.size ∧ ∀ i, i < len → w.cell? ⟨b, off + i, none⟩ = some (.int .u8 ((zs.take len).getD i 0))) := by
  rcases h with ⟨rfl, rfl, rfl, rfl⟩ | ⟨x, rfl, hl, hm, hz, hcell, hwz⟩
  · exact ⟨by omega, rfl, fun i => by simp, fun h => absurd h (by omega)⟩
  · refine ⟨by unfold maxLen at hm; omega, by simp; omega, ?_, ?_⟩
    · intro i
      rcases Nat.lt_or_ge i (zs.take len).length with h | h
      · have hm := List.getElem_mem h
        have := bounds_u8 (hwz _ (List.mem_of_mem_take hm))
        simp only [List.getD, List.getElem?_eq_getElem h, Option.getD_some]
        omega
      · simp [List.getD, List.getElem?_eq_none h]
    · intro h0
      obtain ⟨b, off, spot⟩ := x
      have hc := hcell 0 (by omega)
      have hspot : spot = none := by simpa [Addr.add] using World.cell?_spot hc
      subst hspot
      refine ⟨b, off, rfl, ?_, ?_⟩
      · rcases Nat.lt_or_ge b w.heap.size with h | h
        · exact h
        · simp [World.cell?, Addr.add, Array.getElem?_eq_none h] at hc
      · intro i hi
        have := hcell i (by omega)
        have hp : (⟨b, off, none⟩ : Addr).add i = ⟨b, off + i, none⟩ := by unfold Addr.add; split <;> simp_all
        rw [hp] at this
        rw [this]
        simp [List.getD, hi]

theorem row_below {w w1 : World} {b off len : Nat} {zs : List Int} (hb : Below w.heap.size w w1) (hlt : b < w.heap.size)
    (h : ∀ i, i < len → w.cell? ⟨b, off + i, none⟩ = some (.int .u8 (zs.getD i 0))) : ∀ i, i < len → w1.cell? ⟨b, off + i, none⟩ = some (.int .u8 (zs.getD i 0)) :=
  fun i hi => (hb.cell hlt).trans (h i hi)

/-- The slice at a, of len bytes, room for cap, holds the numbers zs in the world w. -/
def Bs (w : World) (a : Option Addr) (len cap : Nat) (zs : List Int) : Prop :=
  zs.length = len ∧ (len : Int) ≤ 9223372036854775807 ∧ (∀ i, 0 ≤ zs.getD i 0 ∧ zs.getD i 0 ≤ 255) ∧ len ≤ cap ∧ (a = none → cap = 0) ∧
    (0 < len → ∃ b off, a = some ⟨b, off, none⟩ ∧ b < w.heap.size ∧ ∀ i, i < len → w.cell? ⟨b, off + i, none⟩ = some (.int .u8 (zs.getD i 0)))

theorem Bs.below {w w' : World} {a : Option Addr} {len cap : Nat} {zs : List Int} (h : Bs w a len cap zs) {B : Nat} (hb : Below B w w') (hB : w.heap.size ≤ B) : Bs w' a len cap zs := by
  obtain ⟨h1, h2, h3, h4, h5, h6⟩ := h
  refine ⟨h1, h2, h3, h4, h5, fun hp => ?_⟩
  obtain ⟨b, off, rfl, hlt, hc⟩ := h6 hp
  exact ⟨b, off, rfl, Nat.lt_of_lt_of_le hlt hb.size, fun i hi => (hb.cell (show b < B by omega)).trans (hc i hi)⟩

theorem Bs.of_row {w : World} {a : Option Addr} {len cap : Nat} {zs : List Int}
    (h : (a = none ∧ len = 0 ∧ cap = 0 ∧ zs = []) ∨ ∃ x, a = some x ∧ len ≤ cap ∧ cap ≤ maxLen ∧ zs.length = cap ∧ (∀ i, i < zs.length → w.cell? (x.add i) = some (.int .u8 (zs.getD i 0))) ∧ ∀ n ∈ zs, (Lit.int .u8 n).wf = true) :
    Bs w a len cap (zs.take len) := by
  obtain ⟨h1, h2, h3, h4⟩ := row_open h
  refine ⟨h2, h1, h3, ?_, ?_, h4⟩
  · rcases h with ⟨_, rfl, _, _⟩ | ⟨x, _, hl, _⟩
    · exact Nat.zero_le _
    · exact hl
  · intro hn
    rcases h with ⟨_, _, rfl, _⟩ | ⟨x, hx, _⟩
    · rfl
    · rw [hn] at hx; simp at hx

theorem getD_bd {l : List Int} (h : ∀ c ∈ l, 0 ≤ c ∧ c ≤ 255) (i : Nat) : 0 ≤ l.getD i 0 ∧ l.getD i 0 ≤ 255 := by
  rcases Nat.lt_or_ge i l.length with hl | hl
  · simp only [List.getD, List.getElem?_eq_getElem hl, Option.getD_some]
    exact h _ (List.getElem_mem hl)
  · simp [List.getD, List.getElem?_eq_none hl]

theorem mem_bd {l : List Int} (h : ∀ i, 0 ≤ l.getD i 0 ∧ l.getD i 0 ≤ 255) : ∀ c ∈ l, 0 ≤ c ∧ c ≤ 255 := by
  intro c hc
  obtain ⟨i, hi, rfl⟩ := List.getElem_of_mem hc
  have := h i
  simpa [List.getD, List.getElem?_eq_getElem hi] using this

theorem Bs.mem {w : World} {a : Option Addr} {len cap : Nat} {zs : List Int} (h : Bs w a len cap zs) : ∀ c ∈ zs, 0 ≤ c ∧ c ≤ 255 := mem_bd h.2.2.1

/-- What the call itself has made. -/
theorem Bs.of_owns {w : World} {base n : Nat} {a : Option Addr} {len cap : Nat} {zs : List Int} (h : w.ownsRow base 5 1 (.slice a len cap) n (zs.map (Value.int .u8))) (hb : ∀ c ∈ zs, 0 ≤ c ∧ c ≤ 255) : Bs w a len cap zs := by
  have hz := h.1
  simp at hz
  rcases h.2 with ⟨he, hn⟩ | ⟨g, c, cur, he, hg, hh, h1, h2, h3, h4⟩
  · simp at he
    obtain ⟨rfl, rfl, rfl⟩ := he
    have : zs = [] := List.eq_nil_of_length_eq_zero (by omega)
    subst this
    exact ⟨rfl, by omega, fun i => by simp, Nat.le_refl _, fun _ => rfl, fun h => absurd h (by omega)⟩
  · simp at he
    obtain ⟨rfl, rfl, rfl⟩ := he
    refine ⟨hz, by unfold maxLen at h2; omega, getD_bd hb, h1, fun h => by simp at h, fun hp => ⟨g, 0, rfl, ?_, fun i hi => ?_⟩⟩
    · exact (h.lt g rfl).2
    · have := h.cellAt i (by omega)
      rw [Nat.zero_add, this]
      simp [List.getElem?_eq_getElem (show i < zs.length by omega), List.getD]

/-- Its numbers as a text. -/
theorem Bs.conv {w : World} {a : Option Addr} {len cap : Nat} {zs : List Int} (h : Bs w a len cap zs) :
    (convert 28 9 (.slice a len cap)).run Try.prog w = .ok (.string (strOfNums zs)) w := by
  obtain ⟨h1, h2, h3, h4, h5, h6⟩ := h
  by_cases hp : 0 < len
  · obtain ⟨b, off, rfl, _, hc⟩ := h6 hp
    exact run_convert_bytes_arg w 28 5 Try.underlying28 Try.underlying5 b off len cap zs h1 hc 9 Try.underlying9
  · have hl : len = 0 := by omega
    subst hl
    have hz : zs = [] := List.eq_nil_of_length_eq_zero h1
    subst hz
    cases a with
    | none => exact run_convert_bytes_nil w 28 5 Try.underlying28 Try.underlying5 0 cap 9 Try.underlying9
    | some x =>
      rw [run_convert_bytes_string w 28 9 5 _ 0 cap Try.underlying28 Try.underlying5 Try.underlying9]
      have hl := run_loadCells_list (P := Try.prog) w x [] (fun j v hj => by simp at hj)
      exact run_bytesToString w x 0 cap [] (by simpa using hl)

/-- A piece of it: 's[l:h]', the address as the walk spells it. -/
theorem Bs.cut {w : World} {a : Option Addr} {len cap : Nat} {zs : List Int} (h : Bs w a len cap zs) (l k : Nat) (hl : l ≤ k) (hk : k ≤ len) :
    Bs w (if cap = l then a else a.map (·.add l)) (k - l) (cap - l) ((zs.take k).drop l) := by
  obtain ⟨h1, h2, h3, h4, h5, h6⟩ := h
  refine ⟨by simp; omega, by omega, ?_, by omega, ?_, ?_⟩
  · have hm := mem_bd h3
    exact getD_bd (fun c hc => hm c (List.mem_of_mem_take (List.mem_of_mem_drop hc)))
  · intro hn
    by_cases e : cap = l
    · omega
    · rw [if_neg e] at hn
      cases a with
      | none => have := h5 rfl; omega
      | some x => simp at hn
  · intro hp
    obtain ⟨b, off, rfl, hlt, hc⟩ := h6 (by omega)
    have e : ¬ cap = l := by omega
    have hadd : (⟨b, off, none⟩ : Addr).add l = ⟨b, off + l, none⟩ := by unfold Addr.add; split <;> simp_all
    refine ⟨b, off + l, by rw [if_neg e]; simp [hadd], hlt, fun i hi => ?_⟩
    have := hc (l + i) (by omega)
    rw [show off + l + i = off + (l + i) by omega, this]
    simp [List.getD, List.getElem?_drop, show l + i < k by omega]

theorem ints_one (l : List Int) : ∀ u, u ∈ l.map (Value.int .u8) → u.oneCell' = true := by
  intro u hu
  obtain ⟨n, _, rfl⟩ := List.mem_map.1 hu
  rfl

/-- An owned row stays owned behind a call that turns nothing that was there. -/
theorem own_below {W W' : World} {base e sz n : Nat} {v : Value} {xs : List Value} (h : W.ownsRow base e sz v n xs) (hb : Below W.heap.size W W') : W'.ownsRow base e sz v n xs :=
  h.kept (row := none) ⟨hb.os, hb.tape, hb.output, hb.size, fun k hk _ => hb.block k hk⟩ (by cases hv : v.ownBlock <;> simp)

theorem own_base {W : World} {base base' e sz n : Nat} {v : Value} {xs : List Value} (h : W.ownsRow base e sz v n xs) (hb : base' ≤ base) : W.ownsRow base' e sz v n xs := by
  refine ⟨h.1, ?_⟩
  rcases h.2 with h | ⟨g, c, cur, h1, h2, h3⟩
  · exact .inl h
  · exact .inr ⟨g, c, cur, h1, Nat.le_trans hb h2, h3⟩

theorem own_pos {w : World} {base : Nat} {e : TypeId} {size n : Nat} {v : Value} {xs : List Value} (h : w.ownsRow base e size v n xs) (hn : 0 < n) : ∃ g c, v = .slice (some ⟨g, 0, none⟩) n c :=
  owns_shape h (fun hv => by
    rcases h.2 with ⟨_, h0⟩ | ⟨g, c, cur, h1, _⟩
    · omega
    · rw [h1] at hv; simp at hv)

/-- An owned row's value is a slice of its length. -/
theorem own_slice {w : World} {base : Nat} {e : TypeId} {size n : Nat} {v : Value} {xs : List Value} (h : w.ownsRow base e size v n xs) : ∃ a c, v = .slice a n c := by
  rcases h.2 with ⟨rfl, rfl⟩ | ⟨g, c, cur, rfl, _⟩
  · exact ⟨none, 0, rfl⟩
  · exact ⟨some ⟨g, 0, none⟩, c, rfl⟩

theorem run_append_bs {w : World} {base n : Nat} {v : Value} {xs : List Value} {a : Option Addr} {len cap : Nat} {zs : List Int} (ty : TypeId)
    (hown : w.ownsRow base 5 1 v n xs) (hbs : Bs w a len cap zs) (hn : n + len ≤ 140737488355328) (hbase : base ≤ w.heap.size) :
    ∃ v' w', (Builtin.append_ #[28, 28] ty #[v, .slice a len cap]).run Try.prog w = .ok v' w' ∧ w'.ownsRow base 5 1 v' (n + len) (xs ++ zs.map (Value.int .u8)) ∧ w.grownBy w' v.ownBlock := by
  obtain ⟨i0, hi, hz0, hz1, hz2⟩ := info_parts Try.info5
  obtain ⟨h1, h2, h3, h4, h5, h6⟩ := hbs
  cases a with
  | none =>
    have hc := h5 rfl
    have hl : len = 0 := by omega
    subst hc hl
    have hz : zs = [] := List.eq_nil_of_length_eq_zero h1
    subst hz
    refine ⟨v, w, run_append_owned_none w base 28 ty 5 i0 1 Try.underlying28 hi v n xs hown, by simpa using hown, ⟨rfl, rfl, rfl, Nat.le_refl _, fun _ _ _ => rfl⟩⟩
  | some ad =>
    obtain ⟨v', w', hr, ho, hg, _⟩ := run_append_own (P := Try.prog) w base 28 ty 5 i0 (.int .u8 0) 1 1 Try.underlying28 hi hz0 hz1 hz2 rfl (by decide) v n xs hown ad len cap (zs.map (Value.int .u8)) (by simp [h1])
      (fun j u hj => by
        rcases Nat.lt_or_ge j len with h | h
        · obtain ⟨b, off, e, _, hc⟩ := h6 (by omega)
          simp at e
          subst e
          have hp : (⟨b, off, none⟩ : Addr).add j = ⟨b, off + j, none⟩ := by unfold Addr.add; split <;> simp_all
          rw [hp, hc j h]
          simp [List.getElem?_eq_getElem (show j < zs.length by omega), List.getD] at hj ⊢
          exact hj
        · simp [List.getElem?_eq_none (show zs.length ≤ j by omega)] at hj)
      (ints_one zs) (by unfold maxLen; omega) (by omega) hbase
    exact ⟨v', w', hr, ho, hg⟩

theorem wp_append_bs {w : World} {o : Oper} {f : Act} {K : Act → World → Prop} {Q : Exit → Act → World → Prop} (s x : Operand)
    (ho : o.op = .call { callee := .builtin .append, args := #[s, x], argTypes := #[28, 28] }) (base : Nat) (v : Value) (n : Nat) (xs : List Value) (a : Option Addr) (len cap : Nat) (zs : List Int)
    (hs : f.eval s = v) (hx : f.eval x = .slice a len cap) (hown : w.ownsRow base 5 1 v n xs) (hbs : Bs w a len cap zs) (hn : n + len ≤ 140737488355328) (hbase : base ≤ w.heap.size)
    (h : ∀ v' w', w'.ownsRow base 5 1 v' (n + len) (xs ++ zs.map (Value.int .u8)) → w.grownBy w' v.ownBlock → K (f.put o.dst v') w') : o.wp Try.prog f w K Q := by
  obtain ⟨v', w', hrun, h1, h2⟩ := run_append_bs (ty := o.type) hown hbs hn hbase
  unfold Oper.wp
  simp [execOp, ho, resolve, invoke, builtin, hs, hx, hrun, Result.andThen]
  exact h v' w' h1 h2

theorem wpList_append_bs {w : World} {ops : Array Oper} {rest : List Oper} {o : Oper} {f : Act} {Q : Exit → Act → World → Prop} (hgd : o.guard = none) (s x : Operand)
    (ho : o.op = .call { callee := .builtin .append, args := #[s, x], argTypes := #[28, 28] }) (base : Nat) (v : Value) (n : Nat) (xs : List Value) (a : Option Addr) (len cap : Nat) (zs : List Int)
    (hs : f.eval s = v) (hx : f.eval x = .slice a len cap) (hown : w.ownsRow base 5 1 v n xs) (hbs : Bs w a len cap zs) (hn : n + len ≤ 140737488355328) (hbase : base ≤ w.heap.size)
    (h : ∀ v' w', w'.ownsRow base 5 1 v' (n + len) (xs ++ zs.map (Value.int .u8)) → w.grownBy w' v.ownBlock → wpList Try.prog ops Q rest (f.put o.dst v') w') : wpList Try.prog ops Q (o :: rest) f w := by
  refine wpList_plain hgd fun K hK => ?_
  exact wp_append_bs s x ho base v n xs a len cap zs hs hx hown hbs hn hbase (fun v' w' h1 h2 => hK _ _ (h v' w' h1 h2))

theorem step_append_bs {w : World} {ops : Array Oper} {o : Oper} {f : Act} {K : Act → World → Prop} {Q : Exit → Act → World → Prop} {E : Prop} (hgd : o.guard = none) (s x : Operand)
    (ho : o.op = .call { callee := .builtin .append, args := #[s, x], argTypes := #[28, 28] }) (base : Nat) (v : Value) (n : Nat) (xs : List Value) (a : Option Addr) (len cap : Nat) (zs : List Int)
    (hs : f.eval s = v) (hx : f.eval x = .slice a len cap) (hown : w.ownsRow base 5 1 v n xs) (hbs : Bs w a len cap zs) (hn : n + len ≤ 140737488355328) (hbase : base ≤ w.heap.size)
    (h : ∀ v' w', w'.ownsRow base 5 1 v' (n + len) (xs ++ zs.map (Value.int .u8)) → w.grownBy w' v.ownBlock → K (f.put o.dst v') w') :
    if Region.wanted o (yielded ops f.tmps) = true then Oper.wp Try.prog o f w K Q else E := by
  have hw : Region.wanted o (yielded ops f.tmps) = true := by simp [Region.wanted, hgd]
  rw [if_pos hw]
  exact wp_append_bs s x ho base v n xs a len cap zs hs hx hown hbs hn hbase h

open Go.ChangeShapes Go.WideShapes Go.ChangeAt
theorem bs_open {H : Type} {enc : TypeId × Value → H} {W : World} {a : Option Addr} {len cap fuel : Nat} {x : DataW H × List MemPlace}
    (hf : DataW.trod enc Try.prog W 0 (fun _ => true) true fuel 28 [.slice a len cap] = some x) : ∃ zs, Bs W a len cap zs := by
  rcases open_ints Try.underlying28 Try.underlying5 (by kernel_rfl) hf with ⟨hcs, _⟩ | ⟨y, l, c, zs, hcs, _, hl, hm, hz, _, hcell, hwz⟩
  · simp at hcs
    obtain ⟨rfl, rfl, rfl⟩ := hcs
    exact ⟨_, Bs.of_row (zs := []) (.inl ⟨rfl, rfl, rfl, rfl⟩)⟩
  · simp at hcs
    obtain ⟨rfl, rfl, rfl⟩ := hcs
    exact ⟨_, Bs.of_row (zs := zs) (.inr ⟨_, rfl, hl, hm, by simpa using hz, hcell, hwz⟩)⟩

theorem u8_inj {a b : Int} (ha : 0 ≤ a ∧ a ≤ 255) (hb : 0 ≤ b ∧ b ≤ 255) (h : UInt8.ofNat a.toNat = UInt8.ofNat b.toNat) : a = b := by
  have e := congrArg UInt8.toNat h
  simp only [UInt8.toNat_ofNat'] at e
  omega

theorem u8s_inj : ∀ (a b : List Int), (∀ c ∈ a, 0 ≤ c ∧ c ≤ 255) → (∀ c ∈ b, 0 ≤ c ∧ c ≤ 255) → (a.map fun n => UInt8.ofNat n.toNat) = (b.map fun n => UInt8.ofNat n.toNat) → a = b
  | [], [], _, _, _ => rfl
  | [], y :: b, _, _, h => by simp at h
  | x :: a, [], _, _, h => by simp at h
  | x :: a, y :: b, ha, hb, h => by
    simp only [List.map_cons, List.cons.injEq] at h
    rw [u8_inj (ha x (by simp)) (hb y (by simp)) h.1, u8s_inj a b (fun c hc => ha c (by simp [hc])) (fun c hc => hb c (by simp [hc])) h.2]

/-- Two texts of bytes are one where the bytes are. -/
theorem str_eq {z1 z2 : List Int} (h1 : ∀ c ∈ z1, 0 ≤ c ∧ c ≤ 255) (h2 : ∀ c ∈ z2, 0 ≤ c ∧ c ≤ 255) : ((strOfNums z1).toList == (strOfNums z2).toList) = (z1 == z2) := by
  rw [ByteArray.toList_eq, ByteArray.toList_eq, strOfNums_data, strOfNums_data, Bool.eq_iff_iff]
  simp only [beq_iff_eq]
  exact ⟨u8s_inj z1 z2 h1 h2, fun h => by rw [h]⟩

theorem ret_bool {a b : Bool} (h : a = b) : Ending.returned (.bool a) = .returned (.bool b) := by rw [h]

end Go.Proofs.Ytjbppjemilijdaa

/- Data of any shape that came in: texts, numbers, truths, lists of structs of such; where it lies. -/
namespace Go.Proofs.Ytjbppjemilijdaa
open Go.ChangeShapes Go.WideShapes Go.ChangeAt Go.RowKit
set_option linter.unusedVariables false
set_option linter.unusedSimpArgs false

/-- Data, and where its lists lie: of a list the cells of all its members, one behind the other. -/
inductive Md where
  | str (s : ByteArray)
  | num (k : IntKind) (n : Int)
  | tru (b : Bool)
  | ls (a : Option Addr) (n c : Nat) (ms : List Md)

/-- The cell that data stands in. -/
def Md.val : Md → Value
  | .str s => .string s
  | .num k n => .int k n
  | .tru b => .bool b
  | .ls a n c _ => .slice a n c

/-- The types of a member's cells. -/
def flds (P : Program) (E : TypeId) : List TypeId := match P.underlying E with | some (.struct fs) => fs.toList.map (·.type) | _ => [E]

/-- Data of a type, in a world. -/
inductive Ok (P : Program) (w : World) : TypeId → Md → Prop
  | str {T : TypeId} {s : ByteArray} (hT : P.underlying T = some .string) (hs : s.size ≤ maxLen) : Ok P w T (.str s)
  | num {T : TypeId} {k : IntKind} {n : Int} (hT : P.underlying T = some (.int k)) (hw : (Lit.int k n).wf = true) : Ok P w T (.num k n)
  | tru {T : TypeId} {b : Bool} (hT : P.underlying T = some .bool) : Ok P w T (.tru b)
  | ls {T E : TypeId} {a : Option Addr} {n c : Nat} {ms : List Md} (hT : P.underlying T = some (.slice E)) (hnc : n ≤ c) (hm : c ≤ maxLen) (hnil : a = none → c = 0) (hlen : ms.length = n * (flds P E).length)
      (hmem : 0 < n → ∃ b off, a = some ⟨b, off, none⟩ ∧ b < w.heap.size ∧ ∀ i m, ms[i]? = some m → w.cell? ⟨b, off + i, none⟩ = some m.val)
      (hk : ∀ i m F, ms[i]? = some m → (flds P E)[i % (flds P E).length]? = some F → Ok P w F m) : Ok P w T (.ls a n c ms)

theorem Ok.under {P : Program} {w w' : World} {B : Nat} (hb : Below B w w') (hB : w.heap.size ≤ B) {T : TypeId} {m : Md} (h : Ok P w T m) : Ok P w' T m := by
  induction h with
  | str hT hs => exact .str hT hs
  | num hT hw => exact .num hT hw
  | tru hT => exact .tru hT
  | ls hT hnc hm hnil hlen hmem hk ih =>
    refine .ls hT hnc hm hnil hlen (fun hp => ?_) (fun i m F hi hF => ih i m F hi hF)
    obtain ⟨b, off, h1, h2, h3⟩ := hmem hp
    exact ⟨b, off, h1, Nat.lt_of_lt_of_le h2 hb.size, fun i m hi => (hb.cell (p := ⟨b, off + i, none⟩) (by show b < B; omega)).trans (h3 i m hi)⟩

/-- A member's type: its cells are one for each field, in order. -/
def memT (P : Program) (L : List TypeId) (E : TypeId) : Bool :=
  decide (P.cellsOf E = (flds P E).length) && decide (0 < (flds P E).length) && (flds P E).all (fun F => L.contains F && decide (P.cellsOf F = 1)) &&
  match P.underlying E with
  | some (.struct fs) => (List.range fs.size).all fun i => (fs[i]?.map (·.offset)) == some i
  | _ => true

/-- A list of types that has all that they reach. -/
def famT (P : Program) (L : List TypeId) : Bool := L.all fun T => match P.underlying T with
  | some .string => true
  | some (.int _) => true
  | some .bool => true
  | some (.slice E) => memT P L E
  | _ => false

theorem flds_struct {P : Program} {E : TypeId} {fs : Array Field} (hu : P.underlying E = some (.struct fs)) : flds P E = fs.toList.map (·.type) := by unfold flds; rw [hu]

theorem flds_other {P : Program} {E : TypeId} {u : TypeDesc} (hu : P.underlying E = some u) (hn : ∀ fs, u ≠ .struct fs) : flds P E = [E] := by
  unfold flds
  rw [hu]
  cases u <;> first | rfl | exact absurd rfl (hn _)

theorem trod_bool' {H : Type} {enc : TypeId × Value → H} {P : Program} {w : World} {t : TypeId} {fuel : Nat} {cs : List Value} {x : DataW H × List MemPlace} (ht : P.underlying t = some .bool) (h : DataW.trod enc P w 0 (fun _ => true) true fuel t cs = some x) : ∃ b, cs = [.bool b] := by
  cases fuel with
  | zero => simp [DataW.trod] at h
  | succ n =>
    unfold DataW.trod at h
    rw [ht] at h
    split at h <;> simp_all

/-- A member's cells, read one by one. -/
theorem mem_open {H : Type} {P : Program} {enc : TypeId × Value → H} {W : World} {L : List TypeId} {E : TypeId} (hE : memT P L E = true) {fuel : Nat} {cs : List Value} {x : DataW H × List MemPlace} (h : DataW.trod enc P W 0 (fun _ => true) true fuel E cs = some x) (hcl : cs.length = P.cellsOf E) :
    cs.length = (flds P E).length ∧ ∀ (j : Nat) (F : TypeId), (flds P E)[j]? = some F → F ∈ L ∧ ∃ (c : Value) (n : Nat) (y : DataW H × List MemPlace), cs[j]? = some c ∧ n ≤ fuel ∧ DataW.trod enc P W 0 (fun _ => true) true n F [c] = some y := by
  unfold memT at hE
  simp only [Bool.and_eq_true, decide_eq_true_eq, List.all_eq_true] at hE
  obtain ⟨⟨⟨h1, h2⟩, h3⟩, h4⟩ := hE
  have hl : cs.length = (flds P E).length := hcl.trans h1
  refine ⟨hl, fun j F hF => ?_⟩
  obtain ⟨hL, hc1⟩ := h3 F (List.mem_of_getElem? hF)
  refine ⟨by simpa using hL, ?_⟩
  have hj : j < cs.length := by rw [hl]; exact (List.getElem?_eq_some_iff.1 hF).1
  refine ⟨cs[j], ?_⟩
  cases hu : P.underlying E with
  | none => unfold DataW.trod at h; cases fuel <;> simp [hu] at h
  | some u =>
    cases u with
    | struct fs =>
      obtain ⟨xs, n, hfu, hxe, hl', hlen, hfl⟩ := DataW.trod_struct hu h
      rw [hu] at h4
      simp only [List.all_eq_true, List.mem_range] at h4
      have hF' : (fs.toList.map (·.type))[j]? = some F := by rw [flds_struct hu] at hF; exact hF
      rw [List.getElem?_map] at hF'
      cases hq : fs.toList[j]? with
      | none => rw [hq] at hF'; cases hF'
      | some f =>
        rw [hq] at hF'
        simp at hF'
        have hq' : fs[j]? = some f := by simpa using hq
        have hjs : j < fs.size := (Array.getElem?_eq_some_iff.1 hq').1
        have h5 := h4 j hjs
        rw [hq'] at h5
        simp at h5
        have h6 := hfl j f hq'
        rw [hF', h5, hc1] at h6
        have h7 : (cs.drop j).take 1 = [cs[j]] := by
          rw [List.drop_eq_getElem_cons hj, List.take_succ_cons, List.take_zero]
        rw [h7] at h6
        have hx : j < xs.length := by rw [hlen]; exact hjs
        rw [List.getElem?_eq_getElem hx] at h6
        exact ⟨n, _, List.getElem?_eq_getElem hj, by omega, h6⟩
    | _ =>
      have e : flds P E = [E] := flds_other hu (fun fs => by simp)
      rw [e] at hF hl
      have hj0 : j = 0 := by
        have := (List.getElem?_eq_some_iff.1 hF).1
        simpa using this
      subst hj0
      simp at hF
      subst hF
      match cs, hl with
      | [c], _ => exact ⟨fuel, x, rfl, Nat.le_refl _, h⟩

theorem add_divmod (y : Addr) (i k : Nat) : (y.add (i / k * k)).add (i % k) = y.add i := by
  have h : i / k * k + i % k = i := by rw [Nat.mul_comm]; exact Nat.div_add_mod i k
  generalize i / k * k = p at h
  generalize i % k = q at h
  subst h
  obtain ⟨b, off, spot⟩ := y
  by_cases h1 : p = 0
  · subst h1
    simp [Addr.add]
  · by_cases h2 : q = 0
    · subst h2
      simp [Addr.add]
    · have h3 : ¬ p + q = 0 := by omega
      unfold Addr.add
      rw [if_neg h1, if_neg h2, if_neg h3]
      simp [Nat.add_assoc]

/-- What came in, opened. -/
theorem ok_open {H : Type} {P : Program} {enc : TypeId × Value → H} {W : World} {L : List TypeId} (hL : famT P L = true) : ∀ (fuel : Nat) (T : TypeId) (c : Value) (x : DataW H × List MemPlace), T ∈ L → DataW.trod enc P W 0 (fun _ => true) true fuel T [c] = some x → ∃ m : Md, c = m.val ∧ Ok P W T m := by
  intro fuel
  induction fuel using Nat.strongRecOn with
  | ind fuel ih =>
    intro T c x hT h
    have hf := List.all_eq_true.1 hL T hT
    cases hu : P.underlying T with
    | none => rw [hu] at hf; cases hf
    | some u =>
      rw [hu] at hf
      cases u with
      | string =>
        obtain ⟨s, e, _, hs⟩ := DataW.trod_string hu h
        simp at e
        exact ⟨.str s, e, .str hu hs⟩
      | int k =>
        obtain ⟨n, e, _, hw⟩ := DataW.trod_int hu h
        simp at e
        exact ⟨.num k n, e, .num hu hw⟩
      | bool =>
        obtain ⟨b, e⟩ := trod_bool' hu h
        simp at e
        exact ⟨.tru b, e, .tru hu⟩
      | slice E =>
        rcases DataW.trod_slice hu h with ⟨e, _⟩ | ⟨y, len, cap, elems, rest, n, hfn, e, _, _, hl, hm, hlen, hel, _, _⟩
        · simp at e
          exact ⟨.ls none 0 0 [], e, .ls hu (Nat.le_refl _) (Nat.zero_le _) (fun _ => rfl) (by simp) (fun h => absurd h (by omega)) (fun i m F hi => by simp at hi)⟩
        · simp at e
          have hE : memT P L E = true := hf
          have hE' := hE
          unfold memT at hE'
          simp only [Bool.and_eq_true, decide_eq_true_eq] at hE'
          have hk1 : P.cellsOf E = (flds P E).length := hE'.1.1.1
          have hk0 : 0 < (flds P E).length := hE'.1.1.2
          by_cases hz : len = 0
          · subst hz
            exact ⟨.ls (some y) 0 cap [], e, .ls hu hl hm (fun h => by cases h) (by simp) (fun h => absurd h (by omega)) (fun i m F hi => by simp at hi)⟩
          · have hpick : ∀ i, ∃ m : Md, i < len * (flds P E).length → W.cell? (y.add i) = some m.val ∧ ∀ F, (flds P E)[i % (flds P E).length]? = some F → Ok P W F m := by
              intro i
              by_cases hi : i < len * (flds P E).length
              · have hq : i / (flds P E).length < len := Nat.div_lt_of_lt_mul (by rw [Nat.mul_comm]; exact hi)
                have hr : i % (flds P E).length < (flds P E).length := Nat.mod_lt _ hk0
                have h1 := hel _ hq
                rw [List.getElem?_eq_getElem (by rw [hlen]; exact hq)] at h1
                rw [Option.bind_eq_some_iff] at h1
                obtain ⟨cs', h2, h3⟩ := h1
                obtain ⟨_, hcl, hc⟩ := World.cells?_some h2
                obtain ⟨h5, h6⟩ := mem_open hE h3 hcl
                obtain ⟨F, hF⟩ : ∃ F, (flds P E)[i % (flds P E).length]? = some F := ⟨_, List.getElem?_eq_getElem hr⟩
                obtain ⟨hFL, c', n', y', hc', hn', ht'⟩ := h6 _ _ hF
                obtain ⟨m, hm1, hm2⟩ := ih n' (by omega) F c' y' hFL ht'
                refine ⟨m, fun _ => ⟨?_, fun F' hF' => ?_⟩⟩
                · have h7 := hc (i % (flds P E).length) (by rw [hk1]; exact hr)
                  rw [hc'] at h7
                  rw [hk1] at h7
                  have h8 : (y.add (i / (flds P E).length * (flds P E).length)).add (i % (flds P E).length) = y.add i := add_divmod y i _
                  rw [h8] at h7
                  rw [h7, hm1]
                · rw [hF] at hF'
                  cases hF'
                  exact hm2
              · exact ⟨.tru false, fun h => absurd h hi⟩
            obtain ⟨f, hfn⟩ := Classical.axiomOfChoice hpick
            have hat : ∀ (i : Nat) (m : Md), ((List.range (len * (flds P E).length)).map f)[i]? = some m → i < len * (flds P E).length ∧ m = f i := by
              intro i m hi
              have hil : i < len * (flds P E).length := by
                have := (List.getElem?_eq_some_iff.1 hi).1
                simpa using this
              simp [hil] at hi
              exact ⟨hil, hi.symm⟩
            have hp0 : 0 < len * (flds P E).length := Nat.mul_pos (by omega) hk0
            obtain ⟨b, off, spot⟩ := y
            have hc0 := (hfn 0 hp0).1
            have hspot : spot = none := by simpa [Addr.add] using World.cell?_spot hc0
            subst hspot
            have hadd : ∀ i, (⟨b, off, none⟩ : Addr).add i = ⟨b, off + i, none⟩ := fun i => by unfold Addr.add; split <;> simp_all
            refine ⟨.ls (some ⟨b, off, none⟩) len cap ((List.range (len * (flds P E).length)).map f), e, .ls hu hl hm (fun h => by cases h) (by simp) (fun _ => ⟨b, off, rfl, ?_, fun i m hi => ?_⟩) (fun i m F hi hF => ?_)⟩
            · rcases Nat.lt_or_ge b W.heap.size with h | h
              · exact h
              · simp [World.cell?, Addr.add, Array.getElem?_eq_none h] at hc0
            · obtain ⟨hil, rfl⟩ := hat i m hi
              rw [← hadd]
              exact (hfn i hil).1
            · obtain ⟨hil, rfl⟩ := hat i m hi
              exact (hfn i hil).2 F hF
      | _ => cases hf

end Go.Proofs.Ytjbppjemilijdaa

/- Blocks of a call's own. -/
namespace Go.Proofs.Ytjbppjemilijdaa
open Go.RowKit
set_option linter.unusedVariables false
set_option linter.unusedSimpArgs false

/-- A block of one's own. -/
structure Ob (w : World) (b : Nat) (c : Array Value) (T : TypeId) : Prop where
  eq : w.heap[b]? = some (.cells c T (0, 0))

theorem Ob.new (w : World) (c : Array Value) (T : TypeId) : Ob (w.alloc (.cells c T)) w.heap.size c T := ⟨heap_alloc_new w _⟩

theorem Ob.lt {w : World} {b : Nat} {c : Array Value} {T : TypeId} (h : Ob w b c T) : b < w.heap.size := (Array.getElem?_eq_some_iff.1 h.eq).1

theorem Ob.below {w w' : World} {b B : Nat} {c : Array Value} {T : TypeId} (h : Ob w b c T) (hb : Below B w w') (hB : b < B) : Ob w' b c T := ⟨(hb.block b hB).trans h.eq⟩

theorem Ob.alloc {w : World} {b : Nat} {c : Array Value} {T : TypeId} (h : Ob w b c T) (o : Obj) : Ob (w.alloc o) b c T := ⟨(Below.heap_alloc w o b h.lt).trans h.eq⟩

theorem Ob.set {w : World} {b : Nat} {c : Array Value} {T : TypeId} (h : Ob w b c T) (j : Nat) (v : Value) : Ob (w.setCell ⟨b, j, none⟩ v) b (c.setIfInBounds j v) T := by
  constructor
  rw [setCell_eq_setRow w b j c T (0, 0) v h.eq]
  exact setRow_heap w b c _ T _ h.eq

theorem Ob.other {w : World} {b : Nat} {c : Array Value} {T : TypeId} (h : Ob w b c T) {b' : Nat} (hne : b ≠ b') (j : Nat) (v : Value) : Ob (w.setCell ⟨b', j, none⟩ v) b c T := ⟨(heap_setCell_other _ _ _ _ (by simpa using hne)).trans h.eq⟩

theorem Ob.cell {w : World} {b : Nat} {c : Array Value} {T : TypeId} (h : Ob w b c T) (j : Nat) {v : Value} (hv : c[j]? = some v) : w.cell? ⟨b, j, none⟩ = some v := by
  simp [World.cell?, h.eq]
  simpa using hv

theorem Ob.frozen {w : World} {b : Nat} {c : Array Value} {T : TypeId} (h : Ob w b c T) (j : Nat) : w.frozen? ⟨b, j, none⟩ = false := by
  simp [World.frozen?, h.eq]

theorem ob1 {w : World} {b : Nat} {T : TypeId} {x0 : Value} (h : Ob w b #[x0] T) :
    (w.cell? ⟨b, 0, none⟩ = some x0) ∧ (w.frozen? ⟨b, 0, none⟩ = false) ∧ b < w.heap.size :=
  ⟨h.cell 0 rfl, h.frozen 0, h.lt⟩

theorem ob2 {w : World} {b : Nat} {T : TypeId} {x0 x1 : Value} (h : Ob w b #[x0, x1] T) :
    (w.cell? ⟨b, 0, none⟩ = some x0 ∧ w.cell? ⟨b, 1, none⟩ = some x1) ∧ (w.frozen? ⟨b, 0, none⟩ = false ∧ w.frozen? ⟨b, 1, none⟩ = false) ∧ b < w.heap.size :=
  ⟨⟨h.cell 0 rfl, h.cell 1 rfl⟩, ⟨h.frozen 0, h.frozen 1⟩, h.lt⟩

theorem ob3 {w : World} {b : Nat} {T : TypeId} {x0 x1 x2 : Value} (h : Ob w b #[x0, x1, x2] T) :
    (w.cell? ⟨b, 0, none⟩ = some x0 ∧ w.cell? ⟨b, 1, none⟩ = some x1 ∧ w.cell? ⟨b, 2, none⟩ = some x2) ∧ (w.frozen? ⟨b, 0, none⟩ = false ∧ w.frozen? ⟨b, 1, none⟩ = false ∧ w.frozen? ⟨b, 2, none⟩ = false) ∧ b < w.heap.size :=
  ⟨⟨h.cell 0 rfl, h.cell 1 rfl, h.cell 2 rfl⟩, ⟨h.frozen 0, h.frozen 1, h.frozen 2⟩, h.lt⟩

theorem ob5 {w : World} {b : Nat} {T : TypeId} {x0 x1 x2 x3 x4 : Value} (h : Ob w b #[x0, x1, x2, x3, x4] T) :
    (w.cell? ⟨b, 0, none⟩ = some x0 ∧ w.cell? ⟨b, 1, none⟩ = some x1 ∧ w.cell? ⟨b, 2, none⟩ = some x2 ∧ w.cell? ⟨b, 3, none⟩ = some x3 ∧ w.cell? ⟨b, 4, none⟩ = some x4) ∧ (w.frozen? ⟨b, 0, none⟩ = false ∧ w.frozen? ⟨b, 1, none⟩ = false ∧ w.frozen? ⟨b, 2, none⟩ = false ∧ w.frozen? ⟨b, 3, none⟩ = false ∧ w.frozen? ⟨b, 4, none⟩ = false) ∧ b < w.heap.size :=
  ⟨⟨h.cell 0 rfl, h.cell 1 rfl, h.cell 2 rfl, h.cell 3 rfl, h.cell 4 rfl⟩, ⟨h.frozen 0, h.frozen 1, h.frozen 2, h.frozen 3, h.frozen 4⟩, h.lt⟩

theorem ob11 {w : World} {b : Nat} {T : TypeId} {x0 x1 x2 x3 x4 x5 x6 x7 x8 x9 x10 : Value} (h : Ob w b #[x0, x1, x2, x3, x4, x5, x6, x7, x8, x9, x10] T) :
    (w.cell? ⟨b, 0, none⟩ = some x0 ∧ w.cell? ⟨b, 1, none⟩ = some x1 ∧ w.cell? ⟨b, 2, none⟩ = some x2 ∧ w.cell? ⟨b, 3, none⟩ = some x3 ∧ w.cell? ⟨b, 4, none⟩ = some x4 ∧ w.cell? ⟨b, 5, none⟩ = some x5 ∧ w.cell? ⟨b, 6, none⟩ = some x6 ∧ w.cell? ⟨b, 7, none⟩ = some x7 ∧ w.cell? ⟨b, 8, none⟩ = some x8 ∧ w.cell? ⟨b, 9, none⟩ = some x9 ∧ w.cell? ⟨b, 10, none⟩ = some x10) ∧ (w.frozen? ⟨b, 0, none⟩ = false ∧ w.frozen? ⟨b, 1, none⟩ = false ∧ w.frozen? ⟨b, 2, none⟩ = false ∧ w.frozen? ⟨b, 3, none⟩ = false ∧ w.frozen? ⟨b, 4, none⟩ = false ∧ w.frozen? ⟨b, 5, none⟩ = false ∧ w.frozen? ⟨b, 6, none⟩ = false ∧ w.frozen? ⟨b, 7, none⟩ = false ∧ w.frozen? ⟨b, 8, none⟩ = false ∧ w.frozen? ⟨b, 9, none⟩ = false ∧ w.frozen? ⟨b, 10, none⟩ = false) ∧ b < w.heap.size :=
  ⟨⟨h.cell 0 rfl, h.cell 1 rfl, h.cell 2 rfl, h.cell 3 rfl, h.cell 4 rfl, h.cell 5 rfl, h.cell 6 rfl, h.cell 7 rfl, h.cell 8 rfl, h.cell 9 rfl, h.cell 10 rfl⟩, ⟨h.frozen 0, h.frozen 1, h.frozen 2, h.frozen 3, h.frozen 4, h.frozen 5, h.frozen 6, h.frozen 7, h.frozen 8, h.frozen 9, h.frozen 10⟩, h.lt⟩

theorem ob13 {w : World} {b : Nat} {T : TypeId} {x0 x1 x2 x3 x4 x5 x6 x7 x8 x9 x10 x11 x12 : Value} (h : Ob w b #[x0, x1, x2, x3, x4, x5, x6, x7, x8, x9, x10, x11, x12] T) :
    (w.cell? ⟨b, 0, none⟩ = some x0 ∧ w.cell? ⟨b, 1, none⟩ = some x1 ∧ w.cell? ⟨b, 2, none⟩ = some x2 ∧ w.cell? ⟨b, 3, none⟩ = some x3 ∧ w.cell? ⟨b, 4, none⟩ = some x4 ∧ w.cell? ⟨b, 5, none⟩ = some x5 ∧ w.cell? ⟨b, 6, none⟩ = some x6 ∧ w.cell? ⟨b, 7, none⟩ = some x7 ∧ w.cell? ⟨b, 8, none⟩ = some x8 ∧ w.cell? ⟨b, 9, none⟩ = some x9 ∧ w.cell? ⟨b, 10, none⟩ = some x10 ∧ w.cell? ⟨b, 11, none⟩ = some x11 ∧ w.cell? ⟨b, 12, none⟩ = some x12) ∧ (w.frozen? ⟨b, 0, none⟩ = false ∧ w.frozen? ⟨b, 1, none⟩ = false ∧ w.frozen? ⟨b, 2, none⟩ = false ∧ w.frozen? ⟨b, 3, none⟩ = false ∧ w.frozen? ⟨b, 4, none⟩ = false ∧ w.frozen? ⟨b, 5, none⟩ = false ∧ w.frozen? ⟨b, 6, none⟩ = false ∧ w.frozen? ⟨b, 7, none⟩ = false ∧ w.frozen? ⟨b, 8, none⟩ = false ∧ w.frozen? ⟨b, 9, none⟩ = false ∧ w.frozen? ⟨b, 10, none⟩ = false ∧ w.frozen? ⟨b, 11, none⟩ = false ∧ w.frozen? ⟨b, 12, none⟩ = false) ∧ b < w.heap.size :=
  ⟨⟨h.cell 0 rfl, h.cell 1 rfl, h.cell 2 rfl, h.cell 3 rfl, h.cell 4 rfl, h.cell 5 rfl, h.cell 6 rfl, h.cell 7 rfl, h.cell 8 rfl, h.cell 9 rfl, h.cell 10 rfl, h.cell 11 rfl, h.cell 12 rfl⟩, ⟨h.frozen 0, h.frozen 1, h.frozen 2, h.frozen 3, h.frozen 4, h.frozen 5, h.frozen 6, h.frozen 7, h.frozen 8, h.frozen 9, h.frozen 10, h.frozen 11, h.frozen 12⟩, h.lt⟩

theorem Ob.grown {w w' : World} {b : Nat} {c : Array Value} {T : TypeId} (h : Ob w b c T) {row : Option Nat} (hg : w.grownBy w' row) (hne : some b ≠ row) : Ob w' b c T := ⟨(hg.block b h.lt hne).trans h.eq⟩

theorem Ob.drew {w : World} {b : Nat} {c : Array Value} {T : TypeId} (h : Ob w b c T) : Ob w.drew b c T := ⟨h.eq⟩

end Go.Proofs.Ytjbppjemilijdaa

/- A region that draws its order, whose own operations only read what lay there ahead of it and whose calls leave that alone: one walk in the order of the text serves every order. -/
namespace Go.Proofs.Ytjbppjemilijdaa
open Go.RowKit

/-- A world that has more than W0 has, and all of that as it was. -/
structure Ext (W0 : World) where
  val : World
  ok : Below W0.heap.size W0 val

instance (W0 : World) : Nonempty (Ext W0) := ⟨⟨W0, Below.refl _ _⟩⟩

theorem wp_region_ext {P : Program} {id : Nat} {Q : Exit → Act → World → Prop} {a : Act} {w : World} {l : List Oper} (W0 : World) (h0 : Below W0.heap.size W0 w) (hm : P.follows .mixedOrders = true) (hB : Region.lexB .any l.toArray = true)
    (h : wpQuiet P l.toArray (fun w' => ∃ x : Ext W0, w' = x.val) (fun a' => ∀ w', (∃ x : Ext W0, w' = x.val) → Q .normal a' w') l a) : (Code.region id l.toArray true).wp P Q a w :=
  wp_region_quiet (C := fun w' => ∃ x : Ext W0, w' = x.val) hm hB ⟨⟨_, h0.drew⟩, rfl⟩ (by simpa using h)

theorem Ext.call {P : Program} {W0 : World} {f : FuncId} {args : Array Value} {v : Value} (q : ∀ V, Below W0.heap.size W0 V → Calls P f args V fun e W' => e = .returned v ∧ Below V.heap.size V W') (x : Ext W0) :
    Calls P f args x.val fun e w'' => e = .returned v ∧ ∃ y : Ext W0, w'' = y.val :=
  (q x.val x.ok).mono fun _ w'' ⟨he, hb⟩ => ⟨he, ⟨w'', x.ok.trans (hb.mono x.ok.size)⟩, rfl⟩

/-- .. of a callee that leaves the world as it is. -/
theorem Ext.call_same {P : Program} {W0 : World} {f : FuncId} {args : Array Value} {v : Value} (q : ∀ V, Calls P f args V fun e W' => e = .returned v ∧ V = W') (x : Ext W0) :
    Calls P f args x.val fun e w'' => e = .returned v ∧ ∃ y : Ext W0, w'' = y.val :=
  (q x.val).mono fun _ _ ⟨he, hb⟩ => ⟨he, x, hb.symm⟩

theorem Ext.cell {W0 : World} (x : Ext W0) {p : Addr} (hp : p.block < W0.heap.size) {v : Value} (h : W0.cell? p = some v) : x.val.cell? p = some v := (x.ok.cell hp).trans h

end Go.Proofs.Ytjbppjemilijdaa

/- Messages that came in; the law's own count, Few, message. -/
namespace Go.Proofs.Ytjbppjemilijdaa
open Go.RowKit
set_option linter.unusedVariables false
set_option linter.unusedSimpArgs false

theorem ok_ls {P : Program} {w : World} {T E : TypeId} {m : Md} (hu : P.underlying T = some (.slice E)) (h : Ok P w T m) : ∃ a n c ms, m = .ls a n c ms ∧ (n : Int) ≤ 9223372036854775807 := by
  cases h with
  | str hT _ => rw [hu] at hT; cases hT
  | num hT _ => rw [hu] at hT; cases hT
  | tru hT => rw [hu] at hT; cases hT
  | ls hT hnc hm => exact ⟨_, _, _, _, rfl, by unfold maxLen at hm; omega⟩

theorem ok_str {P : Program} {w : World} {T : TypeId} {m : Md} (hu : P.underlying T = some .string) (h : Ok P w T m) : ∃ s, m = .str s ∧ s.size ≤ maxLen := by
  cases h with
  | str _ hs => exact ⟨_, rfl, hs⟩
  | num hT _ => rw [hu] at hT; cases hT
  | tru hT => rw [hu] at hT; cases hT
  | ls hT => rw [hu] at hT; cases hT

theorem flds_msg : flds Try.prog 30 = [9, 22, 23, 24, 25, 22, 26, 25, 27, 28, 28] := by kernel_rfl

/-- The cells of a message. -/
def mcells (nm : Value) (v1 : Value) (v2 : Value) (v3 : Value) (v4 : Value) (v5 : Value) (v6 : Value) (v7 : Value) (v8 : Value) (v9 : Value) (v10 : Value) : Array Value := #[nm, v1, v2, v3, v4, v5, v6, v7, v8, v9, v10]

/-- A list of messages, a message at a place. -/
theorem msg_at {w : World} {a : Option Addr} {n c : Nat} {ms : List Md} (h : Ok Try.prog w 23 (.ls a n c ms)) (i : Nat) (hi : i < n) :
    ∃ b off s a1 n1 c1 m1 a2 n2 c2 m2 a3 n3 c3 m3 a4 n4 c4 m4 a5 n5 c5 m5 a6 n6 c6 m6 a7 n7 c7 m7 a8 n8 c8 m8 a9 n9 c9 m9 a10 n10 c10 m10, a = some ⟨b, off, none⟩ ∧ b < w.heap.size ∧ w.cell? ⟨b, off + i * 11, none⟩ = some (.string s) ∧ w.cell? ⟨b, off + i * 11 + 1, none⟩ = some (.slice a1 n1 c1) ∧ w.cell? ⟨b, off + i * 11 + 2, none⟩ = some (.slice a2 n2 c2) ∧ w.cell? ⟨b, off + i * 11 + 3, none⟩ = some (.slice a3 n3 c3) ∧ w.cell? ⟨b, off + i * 11 + 4, none⟩ = some (.slice a4 n4 c4) ∧ w.cell? ⟨b, off + i * 11 + 5, none⟩ = some (.slice a5 n5 c5) ∧ w.cell? ⟨b, off + i * 11 + 6, none⟩ = some (.slice a6 n6 c6) ∧ w.cell? ⟨b, off + i * 11 + 7, none⟩ = some (.slice a7 n7 c7) ∧ w.cell? ⟨b, off + i * 11 + 8, none⟩ = some (.slice a8 n8 c8) ∧ w.cell? ⟨b, off + i * 11 + 9, none⟩ = some (.slice a9 n9 c9) ∧ w.cell? ⟨b, off + i * 11 + 10, none⟩ = some (.slice a10 n10 c10) ∧
      Ok Try.prog w 22 (.ls a1 n1 c1 m1) ∧ (n1 : Int) ≤ 9223372036854775807 ∧ Ok Try.prog w 23 (.ls a2 n2 c2 m2) ∧ (n2 : Int) ≤ 9223372036854775807 ∧ Ok Try.prog w 24 (.ls a3 n3 c3 m3) ∧ (n3 : Int) ≤ 9223372036854775807 ∧ Ok Try.prog w 25 (.ls a4 n4 c4 m4) ∧ (n4 : Int) ≤ 9223372036854775807 ∧ Ok Try.prog w 22 (.ls a5 n5 c5 m5) ∧ (n5 : Int) ≤ 9223372036854775807 ∧ Ok Try.prog w 26 (.ls a6 n6 c6 m6) ∧ (n6 : Int) ≤ 9223372036854775807 ∧ Ok Try.prog w 25 (.ls a7 n7 c7 m7) ∧ (n7 : Int) ≤ 9223372036854775807 ∧ Ok Try.prog w 27 (.ls a8 n8 c8 m8) ∧ (n8 : Int) ≤ 9223372036854775807 ∧ Ok Try.prog w 28 (.ls a9 n9 c9 m9) ∧ (n9 : Int) ≤ 9223372036854775807 ∧ Ok Try.prog w 28 (.ls a10 n10 c10 m10) ∧ (n10 : Int) ≤ 9223372036854775807 := by
  cases h with
  | ls hT hnc hm hnil hlen hmem hk =>
    rename_i E
    have hE : E = 30 := by
      have := Try.underlying23
      rw [this] at hT
      cases hT
      rfl
    subst hE
    rw [flds_msg] at hlen hk
    obtain ⟨b, off, rfl, hb, hc⟩ := hmem (by omega)
    have hg : ∀ j, j < 11 → ∃ m, ms[i * 11 + j]? = some m := fun j hj => ⟨_, List.getElem?_eq_getElem (by simp at hlen; omega)⟩
    have hmod : ∀ j, j < 11 → (i * 11 + j) % 11 = j := fun j hj => by omega
    obtain ⟨x0, hx0⟩ := hg 0 (by omega)
    have ok0 := hk _ _ 9 hx0 (by rw [show ([9, 22, 23, 24, 25, 22, 26, 25, 27, 28, 28] : List TypeId).length = 11 from rfl, hmod 0 (by omega)]; rfl)
    have cl0 := hc _ _ hx0
    obtain ⟨x1, hx1⟩ := hg 1 (by omega)
    have ok1 := hk _ _ 22 hx1 (by rw [show ([9, 22, 23, 24, 25, 22, 26, 25, 27, 28, 28] : List TypeId).length = 11 from rfl, hmod 1 (by omega)]; rfl)
    have cl1 := hc _ _ hx1
    obtain ⟨x2, hx2⟩ := hg 2 (by omega)
    have ok2 := hk _ _ 23 hx2 (by rw [show ([9, 22, 23, 24, 25, 22, 26, 25, 27, 28, 28] : List TypeId).length = 11 from rfl, hmod 2 (by omega)]; rfl)
    have cl2 := hc _ _ hx2
    obtain ⟨x3, hx3⟩ := hg 3 (by omega)
    have ok3 := hk _ _ 24 hx3 (by rw [show ([9, 22, 23, 24, 25, 22, 26, 25, 27, 28, 28] : List TypeId).length = 11 from rfl, hmod 3 (by omega)]; rfl)
    have cl3 := hc _ _ hx3
    obtain ⟨x4, hx4⟩ := hg 4 (by omega)
    have ok4 := hk _ _ 25 hx4 (by rw [show ([9, 22, 23, 24, 25, 22, 26, 25, 27, 28, 28] : List TypeId).length = 11 from rfl, hmod 4 (by omega)]; rfl)
    have cl4 := hc _ _ hx4
    obtain ⟨x5, hx5⟩ := hg 5 (by omega)
    have ok5 := hk _ _ 22 hx5 (by rw [show ([9, 22, 23, 24, 25, 22, 26, 25, 27, 28, 28] : List TypeId).length = 11 from rfl, hmod 5 (by omega)]; rfl)
    have cl5 := hc _ _ hx5
    obtain ⟨x6, hx6⟩ := hg 6 (by omega)
    have ok6 := hk _ _ 26 hx6 (by rw [show ([9, 22, 23, 24, 25, 22, 26, 25, 27, 28, 28] : List TypeId).length = 11 from rfl, hmod 6 (by omega)]; rfl)
    have cl6 := hc _ _ hx6
    obtain ⟨x7, hx7⟩ := hg 7 (by omega)
    have ok7 := hk _ _ 25 hx7 (by rw [show ([9, 22, 23, 24, 25, 22, 26, 25, 27, 28, 28] : List TypeId).length = 11 from rfl, hmod 7 (by omega)]; rfl)
    have cl7 := hc _ _ hx7
    obtain ⟨x8, hx8⟩ := hg 8 (by omega)
    have ok8 := hk _ _ 27 hx8 (by rw [show ([9, 22, 23, 24, 25, 22, 26, 25, 27, 28, 28] : List TypeId).length = 11 from rfl, hmod 8 (by omega)]; rfl)
    have cl8 := hc _ _ hx8
    obtain ⟨x9, hx9⟩ := hg 9 (by omega)
    have ok9 := hk _ _ 28 hx9 (by rw [show ([9, 22, 23, 24, 25, 22, 26, 25, 27, 28, 28] : List TypeId).length = 11 from rfl, hmod 9 (by omega)]; rfl)
    have cl9 := hc _ _ hx9
    obtain ⟨x10, hx10⟩ := hg 10 (by omega)
    have ok10 := hk _ _ 28 hx10 (by rw [show ([9, 22, 23, 24, 25, 22, 26, 25, 27, 28, 28] : List TypeId).length = 11 from rfl, hmod 10 (by omega)]; rfl)
    have cl10 := hc _ _ hx10
    obtain ⟨s, rfl, _⟩ := ok_str Try.underlying9 ok0
    obtain ⟨a1, n1, c1, m1, rfl, l1⟩ := ok_ls Try.underlying22 ok1
    obtain ⟨a2, n2, c2, m2, rfl, l2⟩ := ok_ls Try.underlying23 ok2
    obtain ⟨a3, n3, c3, m3, rfl, l3⟩ := ok_ls Try.underlying24 ok3
    obtain ⟨a4, n4, c4, m4, rfl, l4⟩ := ok_ls Try.underlying25 ok4
    obtain ⟨a5, n5, c5, m5, rfl, l5⟩ := ok_ls Try.underlying22 ok5
    obtain ⟨a6, n6, c6, m6, rfl, l6⟩ := ok_ls Try.underlying26 ok6
    obtain ⟨a7, n7, c7, m7, rfl, l7⟩ := ok_ls Try.underlying25 ok7
    obtain ⟨a8, n8, c8, m8, rfl, l8⟩ := ok_ls Try.underlying27 ok8
    obtain ⟨a9, n9, c9, m9, rfl, l9⟩ := ok_ls Try.underlying28 ok9
    obtain ⟨a10, n10, c10, m10, rfl, l10⟩ := ok_ls Try.underlying28 ok10
    refine ⟨b, off, s, a1, n1, c1, m1, a2, n2, c2, m2, a3, n3, c3, m3, a4, n4, c4, m4, a5, n5, c5, m5, a6, n6, c6, m6, a7, n7, c7, m7, a8, n8, c8, m8, a9, n9, c9, m9, a10, n10, c10, m10, rfl, hb, ?_, ?_, ?_, ?_, ?_, ?_, ?_, ?_, ?_, ?_, ?_, ok1, l1, ok2, l2, ok3, l3, ok4, l4, ok5, l5, ok6, l6, ok7, l7, ok8, l8, ok9, l9, ok10, l10⟩
    · simpa [Md.val] using cl0
    · simpa [Md.val, Nat.add_assoc] using cl1
    · simpa [Md.val, Nat.add_assoc] using cl2
    · simpa [Md.val, Nat.add_assoc] using cl3
    · simpa [Md.val, Nat.add_assoc] using cl4
    · simpa [Md.val, Nat.add_assoc] using cl5
    · simpa [Md.val, Nat.add_assoc] using cl6
    · simpa [Md.val, Nat.add_assoc] using cl7
    · simpa [Md.val, Nat.add_assoc] using cl8
    · simpa [Md.val, Nat.add_assoc] using cl9
    · simpa [Md.val, Nat.add_assoc] using cl10

set_option maxRecDepth 100000 in
set_option maxHeartbeats 4000000 in
/-- The law's count: some number. -/
theorem fcount_any : ∀ (d : Nat) (D : Int) (hD : D + (d : Int) = 71) (a : Option Addr) (n c : Nat) (ms : List Md) (x : Int) (hx0 : 0 ≤ x) (hx : x ≤ 1000) (w : World) (h : Hid (Ok Try.prog w 23 (.ls a n c ms))) (hd0 : 0 ≤ D),
    Calls Try.prog 12 #[.slice a n c, .int .i64 x, .int .i64 D] w fun e w' => ∃ y : Int, e = .returned (.int .i64 y) ∧ 0 ≤ y ∧ y ≤ 1000 ∧ Below w.heap.size w w'
  | 0, D, hD, a, n, c, ms, x, hx0, hx, w, h, hd0 => by
    have hD' : D = 71 := by omega
    subst hD'
    go_enter Try.func12, Try.ntmps12
    go_wp2
    go_ret
    exact ⟨1000, rfl, by omega, by omega, Below.refl _ _⟩
  | d + 1, D, hD, a, n, c, ms, x, hx0, hx, w, h, hd0 => by
    have hd70 : D ≤ 70 := by omega
    have IH : Hid _ := fcount_any d (D + 1) (by omega)
    have hn : (n : Int) ≤ 9223372036854775807 := by
      obtain ⟨_, _, _, _, e, hl⟩ := ok_ls Try.underlying23 h.out
      cases e
      exact hl
    go_enter Try.func12, Try.ntmps12
    go_wp2
    go_loopw [1, 13] (fun y i wr => ∃ (k : Nat) (z : Int), k ≤ n ∧ i = .int .i64 (k : Int) ∧ y = .int .i64 z ∧ 0 ≤ z ∧ z ≤ 1000 ∧ Hid (Below w.heap.size w wr)) (fun _ i _ => n - (intOf i).toNat)
    case atStart => exact ⟨0, x, Nat.zero_le _, rfl, rfl, hx0, hx, Below.refl _ _⟩
    case round =>
      obtain ⟨k, z, hk, rfl, rfl, z0, z1, HW⟩ := hrel
      by_cases hlk : k < n
      · obtain ⟨b, off, s, p1, n1, q1, m1, p2, n2, q2, m2, p3, n3, q3, m3, p4, n4, q4, m4, p5, n5, q5, m5, p6, n6, q6, m6, p7, n7, q7, m7, p8, n8, q8, m8, p9, n9, q9, m9, p10, n10, q10, m10, rfl, hlt, cc0, cc1, cc2, cc3, cc4, cc5, cc6, cc7, cc8, cc9, cc10, o1, l1, o2, l2, o3, l3, o4, l4, o5, l5, o6, l6, o7, l7, o8, l8, o9, l9, o10, l10⟩ := msg_at h.out k hlk
        have d0 := (HW.out.cell (p := ⟨b, off + k * 11, none⟩) hlt).trans cc0
        have d1 := (HW.out.cell (p := ⟨b, off + k * 11 + 1, none⟩) hlt).trans cc1
        have d2 := (HW.out.cell (p := ⟨b, off + k * 11 + 2, none⟩) hlt).trans cc2
        have d3 := (HW.out.cell (p := ⟨b, off + k * 11 + 3, none⟩) hlt).trans cc3
        have d4 := (HW.out.cell (p := ⟨b, off + k * 11 + 4, none⟩) hlt).trans cc4
        have d5 := (HW.out.cell (p := ⟨b, off + k * 11 + 5, none⟩) hlt).trans cc5
        have d6 := (HW.out.cell (p := ⟨b, off + k * 11 + 6, none⟩) hlt).trans cc6
        have d7 := (HW.out.cell (p := ⟨b, off + k * 11 + 7, none⟩) hlt).trans cc7
        have d8 := (HW.out.cell (p := ⟨b, off + k * 11 + 8, none⟩) hlt).trans cc8
        have d9 := (HW.out.cell (p := ⟨b, off + k * 11 + 9, none⟩) hlt).trans cc9
        have d10 := (HW.out.cell (p := ⟨b, off + k * 11 + 10, none⟩) hlt).trans cc10
        have O2 : Hid _ := o2
        clear h cc0 cc1 cc2 cc3 cc4 cc5 cc6 cc7 cc8 cc9 cc10 o1 o2 o3 o4 o5 o6 o7 o8 o9 o10 l2 l9 l10
        have hsz := HW.out.size
        have HA : Hid (∀ o, Below w.heap.size w (wr.alloc o)) := fun o => HW.out.alloc HW.out.size o
        by_cases h100 : 100 < z + 1
        · go_wp2
          go_ret
          exact ⟨1000, rfl, by omega, by omega, HA.out _⟩
        · go_wp2_with fail
          · go_ret
            exact ⟨1000, rfl, by omega, by omega, HA.out _⟩
          · refine Calls.mono (IH.out p2 n2 q2 m2 (z + 1) (by omega) (by omega) _ (show Hid _ from O2.out.under (HA.out _) (Nat.le_refl _)) (by omega)) ?_
            rintro e w3 ⟨y, rfl, y0, y1, hb3⟩
            have HB3 : Hid (Below w.heap.size w w3) := (HA.out _).trans (hb3.mono (by simp; omega))
            clear hb3 IH O2 HA
            go_wp2
            go_roundw
            case rel => exact ⟨k + 1, y, by omega, by go_num, rfl, y0, y1, HB3.out⟩
            case measure => simp [intOf]; omega
      · go_wp2
        go_ret
        exact ⟨z, rfl, z0, z1, HW.out⟩

end Go.Proofs.Ytjbppjemilijdaa

/- The law's own Few, message. -/
namespace Go.Proofs.Ytjbppjemilijdaa
open Go.RowKit
set_option linter.unusedVariables false
set_option linter.unusedSimpArgs false

set_option maxRecDepth 100000 in
set_option maxHeartbeats 4000000 in
theorem ffew_any (ga : Nat) (ms : List Md) (w : World) (h : Hid (Ok Try.prog w 23 (.ls (some ⟨ga, 0, none⟩) 1 1 ms))) :
    Calls Try.prog 5 #[.agg #[.string ⟨#[]⟩, .string ⟨#[]⟩, .slice none 0 0, .slice none 0 0, .slice (some ⟨ga, 0, none⟩) 1 1, .slice none 0 0, .slice none 0 0, .slice none 0 0, .string ⟨#[]⟩, .slice none 0 0, .slice none 0 0]] w fun e w' => ∃ b, e = .returned (.bool b) ∧ Below w.heap.size w w' := by
  have HB : Hid (∀ o, Below w.heap.size w (w.alloc o)) := fun o => (Below.refl _ _).alloc (Nat.le_refl _) o
  go_enter Try.func5, Try.ntmps5
  go_wp2_with fail
  refine Calls.mono (fcount_any 71 0 (by omega) _ _ _ ms 0 (by omega) (by omega) _ (show Hid _ from h.out.under (HB.out _) (Nat.le_refl _)) (by omega)) ?_
  rintro e w3 ⟨y, rfl, y0, y1, hb3⟩
  have HB3 : Hid (Below w.heap.size w w3) := (HB.out _).trans (hb3.mono (by simp))
  clear hb3 HB
  go_wp2
  go_ret
  exact ⟨_, rfl, HB3.out⟩

end Go.Proofs.Ytjbppjemilijdaa
