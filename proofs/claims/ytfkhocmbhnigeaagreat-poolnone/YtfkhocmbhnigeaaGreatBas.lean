/- What every layer's texts lean on: bytes that are read ('Bs'), rows of the call's own, appends, and how a slice of bytes is opened. -/
import Derived.Test.YtfkhocmbhnigeaaGreatRows
import Derived.WalkKit
import Derived.WalkMore
import Derived.ScopeJumps
import Derived.OpenShut
import Derived.ProofKit
import Derived.Laws.BytesArg
namespace Go.Proofs.YtfkhocmbhnigeaaGreat
open Go.RowKit

theorem ret_int {k : IntKind} {a b : Int} (h : a = b) : Ending.returned (.int k a) = .returned (.int k b) := by rw [h]

theorem Tryz.info5 : (Tryz.prog.info? 5).map (fun i => (i.zero, i.size, i.bytes)) = some (some (.int .u8 0), 1, 1) := by kernel_rfl

theorem one_new (w : World) (v : Value) (e : TypeId) : ∀ (j : Nat) (u : Value), [v][j]? = some u → (w.alloc (.cells #[v] e)).cell? (({ block := w.heap.size, off := 0 } : Addr).add j) = some u := by
  intro j u hj
  match j, hj with
  | 0, hj => simp at hj; subst hj; simp [Addr.add]
theorem one_cell (k : IntKind) (n : Int) : ∀ u, u ∈ [Value.int k n] → u.oneCell' = true := by
  intro u hu; simp at hu; subst hu; rfl

theorem owns_shape {w : World} {base : Nat} {e : TypeId} {size n : Nat} {v : Value} {xs : List Value} (h : w.ownsRow base e size v n xs) (hv : ¬ v = .slice none 0 0) : ∃ g c, v = .slice (some ⟨g, 0, none⟩) n c := by
  rcases h.2 with ⟨rfl, _⟩ | ⟨g, c, _, rfl, _⟩
  · exact absurd rfl hv
  · exact ⟨g, c, rfl⟩

/-- A scope that goes back to one label: what holds at the label; a measure that each pass lowers; the way to the label. -/
theorem wp_scope_loop {P : Program} {a : Act} {w : World} {Q : Exit → Act → World → Prop} {c r : Code} (l : Nat) (J : Act → World → Prop) (μ : Act → World → Nat) (hf : findLabel c l = some (Code.skip.seq r))
    (first : Hid (∀ a w, J a w → r.wp P (Exit.jump l J Q) a w) → c.wp P (Exit.jump l J Q) a w)
    (pass : ∀ a w, J a w → r.wp P (Exit.jump l (fun a' w' => J a' w' ∧ μ a' w' < μ a w) Q) a w) : (Code.scope c).wp P Q a w :=
  wp_scope_jumps l J μ hf (first (fun a w h => wp_mono (pass a w h) (by
    intro e a w h
    cases e with
    | goto l' => exact ⟨h.1, h.2.1⟩
    | _ => exact h))) (fun a w h => wp_seq (wp_skip (pass a w h)))

theorem row_open {w : World} {a : Option Addr} {len cap : Nat} {zs : List Int}
    (h : (a = none ∧ len = 0 ∧ cap = 0 ∧ zs = []) ∨ ∃ x, a = some x ∧ len ≤ cap ∧ cap ≤ maxLen ∧ zs.length = cap ∧ (∀ i, i < zs.length → w.cell? (x.add i) = some (.int .u8 (zs.getD i 0))) ∧ ∀ n ∈ zs, (Lit.int .u8 n).wf = true) :
    (len : Int) ≤ 9223372036854775807 ∧ (zs.take len).length = len ∧ (∀ i, 0 ≤ (zs.take len).getD i 0 ∧ (zs.take len).getD i 0 ≤ 255) ∧
      (0 < len → ∃ b off, a = some ⟨b, off, none⟩ ∧ b < w.heap.size ∧ ∀ i, i < len → w.cell? ⟨b, off + i, none⟩ = some (.int .u8 ((zs.take len).getD i 0))) := by
  rcases h with ⟨rfl, rfl, rfl, rfl⟩ | ⟨x, rfl, hl, hm, hz, hcell, hwz⟩
  · exact ⟨by omega, rfl, fun i => by simp, fun h => absurd h (by omega)⟩
  · refine ⟨by unfold maxLen at hm; omega, by simp; omega, ?_, ?_⟩
    · intro i
      rcases Nat.lt_or_ge i (zs.take len).length with h | h
      · have hm := List.getElem_mem h
        have := bounds_u8 (hwz _ (List.mem_of_mem_take hm))
        simp only [List.getD, List.getElem?_eq_getElem h, Option.getD_some]
        omega
      · simp [List.getD, List.getElem?_eq_none h]
    · intro h0
      obtain ⟨b, off, spot⟩ := x
      have hc := hcell 0 (by omega)
      have hspot : spot = none := by simpa [Addr.add] using World.cell?_spot hc
      subst hspot
      refine ⟨b, off, rfl, ?_, ?_⟩
      · rcases Nat.lt_or_ge b w.heap.size with h | h
        · exact h
        · simp [World.cell?, Addr.add, Array.getElem?_eq_none h] at hc
      · intro i hi
        have := hcell i (by omega)
        have hp : (⟨b, off, none⟩ : Addr).add i = ⟨b, off + i, none⟩ := by unfold Addr.add; split <;> simp_all
        rw [hp] at this
        rw [this]
        simp [List.getD, hi]

theorem row_below {w w1 : World} {b off len : Nat} {zs : List Int} (hb : Below w.heap.size w w1) (hlt : b < w.heap.size)
    (h : ∀ i, i < len → w.cell? ⟨b, off + i, none⟩ = some (.int .u8 (zs.getD i 0))) : ∀ i, i < len → w1.cell? ⟨b, off + i, none⟩ = some (.int .u8 (zs.getD i 0)) :=
  fun i hi => (hb.cell hlt).trans (h i hi)

/-- The slice at a, of len bytes, room for cap, holds the numbers zs in the world w. -/
def Bs (w : World) (a : Option Addr) (len cap : Nat) (zs : List Int) : Prop :=
  zs.length = len ∧ (len : Int) ≤ 9223372036854775807 ∧ (∀ i, 0 ≤ zs.getD i 0 ∧ zs.getD i 0 ≤ 255) ∧ len ≤ cap ∧ (a = none → cap = 0) ∧
    (0 < len → ∃ b off, a = some ⟨b, off, none⟩ ∧ b < w.heap.size ∧ ∀ i, i < len → w.cell? ⟨b, off + i, none⟩ = some (.int .u8 (zs.getD i 0)))

theorem Bs.below {w w' : World} {a : Option Addr} {len cap : Nat} {zs : List Int} (h : Bs w a len cap zs) {B : Nat} (hb : Below B w w') (hB : w.heap.size ≤ B) : Bs w' a len cap zs := by
  obtain ⟨h1, h2, h3, h4, h5, h6⟩ := h
  refine ⟨h1, h2, h3, h4, h5, fun hp => ?_⟩
  obtain ⟨b, off, rfl, hlt, hc⟩ := h6 hp
  exact ⟨b, off, rfl, Nat.lt_of_lt_of_le hlt hb.size, fun i hi => (hb.cell (show b < B by omega)).trans (hc i hi)⟩

theorem Bs.of_row {w : World} {a : Option Addr} {len cap : Nat} {zs : List Int}
    (h : (a = none ∧ len = 0 ∧ cap = 0 ∧ zs = []) ∨ ∃ x, a = some x ∧ len ≤ cap ∧ cap ≤ maxLen ∧ zs.length = cap ∧ (∀ i, i < zs.length → w.cell? (x.add i) = some (.int .u8 (zs.getD i 0))) ∧ ∀ n ∈ zs, (Lit.int .u8 n).wf = true) :
    Bs w a len cap (zs.take len) := by
  obtain ⟨h1, h2, h3, h4⟩ := row_open h
  refine ⟨h2, h1, h3, ?_, ?_, h4⟩
  · rcases h with ⟨_, rfl, _, _⟩ | ⟨x, _, hl, _⟩
    · exact Nat.zero_le _
    · exact hl
  · intro hn
    rcases h with ⟨_, _, rfl, _⟩ | ⟨x, hx, _⟩
    · rfl
    · rw [hn] at hx; simp at hx

theorem getD_bd {l : List Int} (h : ∀ c ∈ l, 0 ≤ c ∧ c ≤ 255) (i : Nat) : 0 ≤ l.getD i 0 ∧ l.getD i 0 ≤ 255 := by
  rcases Nat.lt_or_ge i l.length with hl | hl
  · simp only [List.getD, List.getElem?_eq_getElem hl, Option.getD_some]
    exact h _ (List.getElem_mem hl)
  · simp [List.getD, List.getElem?_eq_none hl]

theorem mem_bd {l : List Int} (h : ∀ i, 0 ≤ l.getD i 0 ∧ l.getD i 0 ≤ 255) : ∀ c ∈ l, 0 ≤ c ∧ c ≤ 255 := by
  intro c hc
  obtain ⟨i, hi, rfl⟩ := List.getElem_of_mem hc
  have := h i
  simpa [List.getD, List.getElem?_eq_getElem hi] using this

theorem Bs.mem {w : World} {a : Option Addr} {len cap : Nat} {zs : List Int} (h : Bs w a len cap zs) : ∀ c ∈ zs, 0 ≤ c ∧ c ≤ 255 := mem_bd h.2.2.1

/-- What the call itself has made. -/
theorem Bs.of_owns {w : World} {base n : Nat} {a : Option Addr} {len cap : Nat} {zs : List Int} (h : w.ownsRow base 5 1 (.slice a len cap) n (zs.map (Value.int .u8))) (hb : ∀ c ∈ zs, 0 ≤ c ∧ c ≤ 255) : Bs w a len cap zs := by
  have hz := h.1
  simp at hz
  rcases h.2 with ⟨he, hn⟩ | ⟨g, c, cur, he, hg, hh, h1, h2, h3, h4⟩
  · simp at he
    obtain ⟨rfl, rfl, rfl⟩ := he
    have : zs = [] := List.eq_nil_of_length_eq_zero (by omega)
    subst this
    exact ⟨rfl, by omega, fun i => by simp, Nat.le_refl _, fun _ => rfl, fun h => absurd h (by omega)⟩
  · simp at he
    obtain ⟨rfl, rfl, rfl⟩ := he
    refine ⟨hz, by unfold maxLen at h2; omega, getD_bd hb, h1, fun h => by simp at h, fun hp => ⟨g, 0, rfl, ?_, fun i hi => ?_⟩⟩
    · exact (h.lt g rfl).2
    · have := h.cellAt i (by omega)
      rw [Nat.zero_add, this]
      simp [List.getElem?_eq_getElem (show i < zs.length by omega), List.getD]

/-- Its numbers as a text. -/
theorem Bs.conv {w : World} {a : Option Addr} {len cap : Nat} {zs : List Int} (h : Bs w a len cap zs) :
    (convert 38 9 (.slice a len cap)).run Tryz.prog w = .ok (.string (strOfNums zs)) w := by
  obtain ⟨h1, h2, h3, h4, h5, h6⟩ := h
  by_cases hp : 0 < len
  · obtain ⟨b, off, rfl, _, hc⟩ := h6 hp
    exact run_convert_bytes_arg w 38 5 Tryz.underlying38 Tryz.underlying5 b off len cap zs h1 hc 9 Tryz.underlying9
  · have hl : len = 0 := by omega
    subst hl
    have hz : zs = [] := List.eq_nil_of_length_eq_zero h1
    subst hz
    cases a with
    | none => exact run_convert_bytes_nil w 38 5 Tryz.underlying38 Tryz.underlying5 0 cap 9 Tryz.underlying9
    | some x =>
      rw [run_convert_bytes_string w 38 9 5 _ 0 cap Tryz.underlying38 Tryz.underlying5 Tryz.underlying9]
      have hl := run_loadCells_list (P := Tryz.prog) w x [] (fun j v hj => by simp at hj)
      exact run_bytesToString w x 0 cap [] (by simpa using hl)

/-- A piece of it: 's[l:h]', the address as the walk spells it. -/
theorem Bs.cut {w : World} {a : Option Addr} {len cap : Nat} {zs : List Int} (h : Bs w a len cap zs) (l k : Nat) (hl : l ≤ k) (hk : k ≤ len) :
    Bs w (if cap = l then a else a.map (·.add l)) (k - l) (cap - l) ((zs.take k).drop l) := by
  obtain ⟨h1, h2, h3, h4, h5, h6⟩ := h
  refine ⟨by simp; omega, by omega, ?_, by omega, ?_, ?_⟩
  · have hm := mem_bd h3
    exact getD_bd (fun c hc => hm c (List.mem_of_mem_take (List.mem_of_mem_drop hc)))
  · intro hn
    by_cases e : cap = l
    · omega
    · rw [if_neg e] at hn
      cases a with
      | none => have := h5 rfl; omega
      | some x => simp at hn
  · intro hp
    obtain ⟨b, off, rfl, hlt, hc⟩ := h6 (by omega)
    have e : ¬ cap = l := by omega
    have hadd : (⟨b, off, none⟩ : Addr).add l = ⟨b, off + l, none⟩ := by unfold Addr.add; split <;> simp_all
    refine ⟨b, off + l, by rw [if_neg e]; simp [hadd], hlt, fun i hi => ?_⟩
    have := hc (l + i) (by omega)
    rw [show off + l + i = off + (l + i) by omega, this]
    simp [List.getD, List.getElem?_drop, show l + i < k by omega]

theorem ints_one (l : List Int) : ∀ u, u ∈ l.map (Value.int .u8) → u.oneCell' = true := by
  intro u hu
  obtain ⟨n, _, rfl⟩ := List.mem_map.1 hu
  rfl

/-- An owned row stays owned behind a call that turns nothing that was there. -/
theorem own_below {W W' : World} {base e sz n : Nat} {v : Value} {xs : List Value} (h : W.ownsRow base e sz v n xs) (hb : Below W.heap.size W W') : W'.ownsRow base e sz v n xs :=
  h.kept (row := none) ⟨hb.os, hb.tape, hb.output, hb.size, fun k hk _ => hb.block k hk⟩ (by cases hv : v.ownBlock <;> simp)

theorem own_base {W : World} {base base' e sz n : Nat} {v : Value} {xs : List Value} (h : W.ownsRow base e sz v n xs) (hb : base' ≤ base) : W.ownsRow base' e sz v n xs := by
  refine ⟨h.1, ?_⟩
  rcases h.2 with h | ⟨g, c, cur, h1, h2, h3⟩
  · exact .inl h
  · exact .inr ⟨g, c, cur, h1, Nat.le_trans hb h2, h3⟩

theorem own_pos {w : World} {base : Nat} {e : TypeId} {size n : Nat} {v : Value} {xs : List Value} (h : w.ownsRow base e size v n xs) (hn : 0 < n) : ∃ g c, v = .slice (some ⟨g, 0, none⟩) n c :=
  owns_shape h (fun hv => by
    rcases h.2 with ⟨_, h0⟩ | ⟨g, c, cur, h1, _⟩
    · omega
    · rw [h1] at hv; simp at hv)

/-- An owned row's value is a slice of its length. -/
theorem own_slice {w : World} {base : Nat} {e : TypeId} {size n : Nat} {v : Value} {xs : List Value} (h : w.ownsRow base e size v n xs) : ∃ a c, v = .slice a n c := by
  rcases h.2 with ⟨rfl, rfl⟩ | ⟨g, c, cur, rfl, _⟩
  · exact ⟨none, 0, rfl⟩
  · exact ⟨some ⟨g, 0, none⟩, c, rfl⟩

theorem run_append_bs {w : World} {base n : Nat} {v : Value} {xs : List Value} {a : Option Addr} {len cap : Nat} {zs : List Int} (ty : TypeId)
    (hown : w.ownsRow base 5 1 v n xs) (hbs : Bs w a len cap zs) (hn : n + len ≤ 140737488355328) (hbase : base ≤ w.heap.size) :
    ∃ v' w', (Builtin.append_ #[38, 38] ty #[v, .slice a len cap]).run Tryz.prog w = .ok v' w' ∧ w'.ownsRow base 5 1 v' (n + len) (xs ++ zs.map (Value.int .u8)) ∧ w.grownBy w' v.ownBlock := by
  obtain ⟨i0, hi, hz0, hz1, hz2⟩ := info_parts Tryz.info5
  obtain ⟨h1, h2, h3, h4, h5, h6⟩ := hbs
  cases a with
  | none =>
    have hc := h5 rfl
    have hl : len = 0 := by omega
    subst hc hl
    have hz : zs = [] := List.eq_nil_of_length_eq_zero h1
    subst hz
    refine ⟨v, w, run_append_owned_none w base 38 ty 5 i0 1 Tryz.underlying38 hi v n xs hown, by simpa using hown, ⟨rfl, rfl, rfl, Nat.le_refl _, fun _ _ _ => rfl⟩⟩
  | some ad =>
    obtain ⟨v', w', hr, ho, hg, _⟩ := run_append_own (P := Tryz.prog) w base 38 ty 5 i0 (.int .u8 0) 1 1 Tryz.underlying38 hi hz0 hz1 hz2 rfl (by decide) v n xs hown ad len cap (zs.map (Value.int .u8)) (by simp [h1])
      (fun j u hj => by
        rcases Nat.lt_or_ge j len with h | h
        · obtain ⟨b, off, e, _, hc⟩ := h6 (by omega)
          simp at e
          subst e
          have hp : (⟨b, off, none⟩ : Addr).add j = ⟨b, off + j, none⟩ := by unfold Addr.add; split <;> simp_all
          rw [hp, hc j h]
          simp [List.getElem?_eq_getElem (show j < zs.length by omega), List.getD] at hj ⊢
          exact hj
        · simp [List.getElem?_eq_none (show zs.length ≤ j by omega)] at hj)
      (ints_one zs) (by unfold maxLen; omega) (by omega) hbase
    exact ⟨v', w', hr, ho, hg⟩

theorem wp_append_bs {w : World} {o : Oper} {f : Act} {K : Act → World → Prop} {Q : Exit → Act → World → Prop} (s x : Operand)
    (ho : o.op = .call { callee := .builtin .append, args := #[s, x], argTypes := #[38, 38] }) (base : Nat) (v : Value) (n : Nat) (xs : List Value) (a : Option Addr) (len cap : Nat) (zs : List Int)
    (hs : f.eval s = v) (hx : f.eval x = .slice a len cap) (hown : w.ownsRow base 5 1 v n xs) (hbs : Bs w a len cap zs) (hn : n + len ≤ 140737488355328) (hbase : base ≤ w.heap.size)
    (h : ∀ v' w', w'.ownsRow base 5 1 v' (n + len) (xs ++ zs.map (Value.int .u8)) → w.grownBy w' v.ownBlock → K (f.put o.dst v') w') : o.wp Tryz.prog f w K Q := by
  obtain ⟨v', w', hrun, h1, h2⟩ := run_append_bs (ty := o.type) hown hbs hn hbase
  unfold Oper.wp
  simp [execOp, ho, resolve, invoke, builtin, hs, hx, hrun, Result.andThen]
  exact h v' w' h1 h2

theorem wpList_append_bs {w : World} {ops : Array Oper} {rest : List Oper} {o : Oper} {f : Act} {Q : Exit → Act → World → Prop} (hgd : o.guard = none) (s x : Operand)
    (ho : o.op = .call { callee := .builtin .append, args := #[s, x], argTypes := #[38, 38] }) (base : Nat) (v : Value) (n : Nat) (xs : List Value) (a : Option Addr) (len cap : Nat) (zs : List Int)
    (hs : f.eval s = v) (hx : f.eval x = .slice a len cap) (hown : w.ownsRow base 5 1 v n xs) (hbs : Bs w a len cap zs) (hn : n + len ≤ 140737488355328) (hbase : base ≤ w.heap.size)
    (h : ∀ v' w', w'.ownsRow base 5 1 v' (n + len) (xs ++ zs.map (Value.int .u8)) → w.grownBy w' v.ownBlock → wpList Tryz.prog ops Q rest (f.put o.dst v') w') : wpList Tryz.prog ops Q (o :: rest) f w := by
  refine wpList_plain hgd fun K hK => ?_
  exact wp_append_bs s x ho base v n xs a len cap zs hs hx hown hbs hn hbase (fun v' w' h1 h2 => hK _ _ (h v' w' h1 h2))

theorem step_append_bs {w : World} {ops : Array Oper} {o : Oper} {f : Act} {K : Act → World → Prop} {Q : Exit → Act → World → Prop} {E : Prop} (hgd : o.guard = none) (s x : Operand)
    (ho : o.op = .call { callee := .builtin .append, args := #[s, x], argTypes := #[38, 38] }) (base : Nat) (v : Value) (n : Nat) (xs : List Value) (a : Option Addr) (len cap : Nat) (zs : List Int)
    (hs : f.eval s = v) (hx : f.eval x = .slice a len cap) (hown : w.ownsRow base 5 1 v n xs) (hbs : Bs w a len cap zs) (hn : n + len ≤ 140737488355328) (hbase : base ≤ w.heap.size)
    (h : ∀ v' w', w'.ownsRow base 5 1 v' (n + len) (xs ++ zs.map (Value.int .u8)) → w.grownBy w' v.ownBlock → K (f.put o.dst v') w') :
    if Region.wanted o (yielded ops f.tmps) = true then Oper.wp Tryz.prog o f w K Q else E := by
  have hw : Region.wanted o (yielded ops f.tmps) = true := by simp [Region.wanted, hgd]
  rw [if_pos hw]
  exact wp_append_bs s x ho base v n xs a len cap zs hs hx hown hbs hn hbase h

open Go.ChangeShapes Go.WideShapes Go.ChangeAt
theorem bs_open {H : Type} {enc : TypeId × Value → H} {W : World} {a : Option Addr} {len cap fuel : Nat} {x : DataW H × List MemPlace}
    (hf : DataW.trod enc Tryz.prog W 0 (fun _ => true) true fuel 38 [.slice a len cap] = some x) : ∃ zs, Bs W a len cap zs := by
  rcases open_ints Tryz.underlying38 Tryz.underlying5 (by kernel_rfl) hf with ⟨hcs, _⟩ | ⟨y, l, c, zs, hcs, _, hl, hm, hz, _, hcell, hwz⟩
  · simp at hcs
    obtain ⟨rfl, rfl, rfl⟩ := hcs
    exact ⟨_, Bs.of_row (zs := []) (.inl ⟨rfl, rfl, rfl, rfl⟩)⟩
  · simp at hcs
    obtain ⟨rfl, rfl, rfl⟩ := hcs
    exact ⟨_, Bs.of_row (zs := zs) (.inr ⟨_, rfl, hl, hm, by simpa using hz, hcell, hwz⟩)⟩

theorem u8_inj {a b : Int} (ha : 0 ≤ a ∧ a ≤ 255) (hb : 0 ≤ b ∧ b ≤ 255) (h : UInt8.ofNat a.toNat = UInt8.ofNat b.toNat) : a = b := by
  have e := congrArg UInt8.toNat h
  simp only [UInt8.toNat_ofNat'] at e
  omega

theorem u8s_inj : ∀ (a b : List Int), (∀ c ∈ a, 0 ≤ c ∧ c ≤ 255) → (∀ c ∈ b, 0 ≤ c ∧ c ≤ 255) → (a.map fun n => UInt8.ofNat n.toNat) = (b.map fun n => UInt8.ofNat n.toNat) → a = b
  | [], [], _, _, _ => rfl
  | [], y :: b, _, _, h => by simp at h
  | x :: a, [], _, _, h => by simp at h
  | x :: a, y :: b, ha, hb, h => by
    simp only [List.map_cons, List.cons.injEq] at h
    rw [u8_inj (ha x (by simp)) (hb y (by simp)) h.1, u8s_inj a b (fun c hc => ha c (by simp [hc])) (fun c hc => hb c (by simp [hc])) h.2]

/-- Two texts of bytes are one where the bytes are. -/
theorem str_eq {z1 z2 : List Int} (h1 : ∀ c ∈ z1, 0 ≤ c ∧ c ≤ 255) (h2 : ∀ c ∈ z2, 0 ≤ c ∧ c ≤ 255) : ((strOfNums z1).toList == (strOfNums z2).toList) = (z1 == z2) := by
  rw [ByteArray.toList_eq, ByteArray.toList_eq, strOfNums_data, strOfNums_data, Bool.eq_iff_iff]
  simp only [beq_iff_eq]
  exact ⟨u8s_inj z1 z2 h1 h2, fun h => by rw [h]⟩

theorem ret_bool {a b : Bool} (h : a = b) : Ending.returned (.bool a) = .returned (.bool b) := by rw [h]

end Go.Proofs.YtfkhocmbhnigeaaGreat
