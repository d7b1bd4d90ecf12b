/- Lists of texts, of numbers and of units in memory. -/
import Derived.Test.YtfkhocmbhnigeaaGreatHOrd
import Derived.SliceStrings
import Derived.Maps.AppendAt
namespace Go.Proofs.YtfkhocmbhnigeaaGreat
open Go.RowKit
set_option linter.unusedVariables false
set_option linter.unusedSimpArgs false

/-- The slice at a, of len texts, holds zs in the world w. -/
structure Sb (w : World) (a : Option Addr) (len cap : Nat) (zs : List ByteArray) : Prop where
  hlen : zs.length = len
  h63 : (len : Int) ≤ 9223372036854775807
  hcap : len ≤ cap
  hnil : a = none → cap = 0
  hmem : 0 < len → ∃ b off, a = some ⟨b, off, none⟩ ∧ b < w.heap.size ∧ ∀ (i : Nat) (z : ByteArray), zs[i]? = some z → w.cell? ⟨b, off + i, none⟩ = some (.string z)

theorem Sb.below {w w' : World} {a : Option Addr} {len cap : Nat} {zs : List ByteArray} (h : Sb w a len cap zs) (hb : Below w.heap.size w w') : Sb w' a len cap zs := by
  refine ⟨h.hlen, h.h63, h.hcap, h.hnil, fun hp => ?_⟩
  obtain ⟨b, off, h1, hlt, hc⟩ := h.hmem hp
  exact ⟨b, off, h1, Nat.lt_of_lt_of_le hlt hb.size, fun i z hi => (hb.cell hlt).trans (hc i z hi)⟩

/-- The slice at a, of len numbers, holds zs in the world w. -/
structure Sn (w : World) (a : Option Addr) (len cap : Nat) (zs : List Int) : Prop where
  hlen : zs.length = len
  h63 : (len : Int) ≤ 9223372036854775807
  hcap : len ≤ cap
  hnil : a = none → cap = 0
  hbd : ∀ z ∈ zs, -9223372036854775808 ≤ z ∧ z ≤ 9223372036854775807
  hmem : 0 < len → ∃ b off, a = some ⟨b, off, none⟩ ∧ b < w.heap.size ∧ ∀ (i : Nat) (z : Int), zs[i]? = some z → w.cell? ⟨b, off + i, none⟩ = some (.int .i64 z)

theorem Sn.below {w w' : World} {a : Option Addr} {len cap : Nat} {zs : List Int} (h : Sn w a len cap zs) (hb : Below w.heap.size w w') : Sn w' a len cap zs := by
  refine ⟨h.hlen, h.h63, h.hcap, h.hnil, h.hbd, fun hp => ?_⟩
  obtain ⟨b, off, h1, hlt, hc⟩ := h.hmem hp
  exact ⟨b, off, h1, Nat.lt_of_lt_of_le hlt hb.size, fun i z hi => (hb.cell hlt).trans (hc i z hi)⟩

/-- A unit, and where its lists lie. -/
structure Um where
  path : ByteArray
  da : Option Addr
  dc : Nat
  deps : List ByteArray
  pa : Option Addr
  pc : Nat
  pub : List Int

def Um.un (u : Um) : Un := ⟨u.path, u.deps, u.pub⟩

def Um.cells (u : Um) : List Value := [.string u.path, .slice u.da u.deps.length u.dc, .slice u.pa u.pub.length u.pc]

/-- The slice at a, of units, holds us in the world w. -/
structure Ul (w : World) (a : Option Addr) (len cap : Nat) (us : List Um) : Prop where
  hlen : us.length = len
  h63 : (len : Int) ≤ 9223372036854775807
  hcap : len ≤ cap
  hnil : a = none → cap = 0
  hmem : 0 < len → ∃ b off, a = some ⟨b, off, none⟩ ∧ b < w.heap.size ∧ ∀ (i : Nat) (u : Um), us[i]? = some u → ∀ (j : Nat) (v : Value), u.cells[j]? = some v → w.cell? ⟨b, off + i * 3 + j, none⟩ = some v
  hall : ∀ (i : Nat) (u : Um), us[i]? = some u → Sb w u.da u.deps.length u.dc u.deps ∧ Sn w u.pa u.pub.length u.pc u.pub

theorem Ul.below {w w' : World} {a : Option Addr} {len cap : Nat} {us : List Um} (h : Ul w a len cap us) (hb : Below w.heap.size w w') : Ul w' a len cap us := by
  refine ⟨h.hlen, h.h63, h.hcap, h.hnil, fun hp => ?_, fun i u hi => ⟨(h.hall i u hi).1.below hb, (h.hall i u hi).2.below hb⟩⟩
  obtain ⟨b, off, h1, hlt, hc⟩ := h.hmem hp
  exact ⟨b, off, h1, Nat.lt_of_lt_of_le hlt hb.size, fun i u hi j v hj => (hb.cell hlt).trans (hc i u hi j v hj)⟩

theorem unit_cells {w : World} {b off k : Nat} {us : List Um} {u : Um} (hc : ∀ (i : Nat) (u : Um), us[i]? = some u → ∀ (j : Nat) (v : Value), u.cells[j]? = some v → w.cell? ⟨b, off + i * 3 + j, none⟩ = some v) (hk : us[k]? = some u) :
    w.cell? ⟨b, off + k * 3, none⟩ = some (.string u.path) ∧ w.cell? ⟨b, off + k * 3 + 1, none⟩ = some (.slice u.da u.deps.length u.dc) ∧ w.cell? ⟨b, off + k * 3 + 2, none⟩ = some (.slice u.pa u.pub.length u.pc) :=
  ⟨hc k u hk 0 _ rfl, hc k u hk 1 _ rfl, hc k u hk 2 _ rfl⟩

/-- The call's own list of texts. -/
def Sw (w : World) (base : Nat) (v : Value) (zs : List ByteArray) : Prop := w.ownsRow base 9 1 v zs.length (zs.map Value.string)

theorem Sw.nil (w : World) (base : Nat) : Sw w base (.slice none 0 0) [] := World.ownsRow_nil _ _ _ _

theorem Sw.below {w w' : World} {base : Nat} {v : Value} {zs : List ByteArray} (h : Sw w base v zs) (hb : Below w.heap.size w w') : Sw w' base v zs := own_below h hb

theorem Sw.base {w : World} {base base' : Nat} {v : Value} {zs : List ByteArray} (h : Sw w base v zs) (hb : base' ≤ base) : Sw w base' v zs := own_base h hb

theorem Sw.slice {w : World} {base : Nat} {v : Value} {zs : List ByteArray} (h : Sw w base v zs) : ∃ a c, v = .slice a zs.length c := own_slice h

theorem Sb.of_own {w : World} {base : Nat} {a : Option Addr} {len cap : Nat} {zs : List ByteArray} (h : Sw w base (.slice a len cap) zs) : Sb w a len cap zs := by
  rcases h.2 with ⟨he, hn⟩ | ⟨g, c, cur, he, hg, hh, h1, h2, h3, h4⟩
  · simp at he
    obtain ⟨rfl, rfl, rfl⟩ := he
    exact ⟨hn, by omega, Nat.le_refl _, fun _ => rfl, fun h => absurd h (by omega)⟩
  · simp at he
    obtain ⟨rfl, rfl, rfl⟩ := he
    refine ⟨rfl, by unfold maxLen at h2; omega, h1, (fun h => by simp at h), fun _ => ⟨g, 0, rfl, (h.lt g rfl).2, fun i z hi => ?_⟩⟩
    have hil : i < zs.length := (List.getElem?_eq_some_iff.1 hi).1
    have := h.cellAt i (by omega)
    rw [Nat.zero_add, this]
    simp [hi]

theorem Tryz.infoStr2 : (Tryz.prog.info? 9).map (fun i => (i.zero, i.size, i.bytes)) = some (some (.string { data := #[] }), 1, 16) := by kernel_rfl

theorem wpList_append_sw {w : World} {ops : Array Oper} {rest : List Oper} {o : Oper} {f : Act} {Q : Exit → Act → World → Prop} (hgd : o.guard = none) (s x : Operand)
    (ho : o.op = .call { callee := .builtin .append, args := #[s, x], argTypes := #[30, 30] }) (base : Nat) (v : Value) (zs : List ByteArray) (z : ByteArray) (b cap : Nat)
    (hs : f.eval s = v) (hx : f.eval x = .slice (some ⟨b, 0, none⟩) 1 cap) (hown : Sw w base v zs) (hc : w.cell? ⟨b, 0, none⟩ = some (.string z)) (hn : zs.length + 1 ≤ 1000000) (hbase : base ≤ w.heap.size)
    (h : ∀ v' w', Sw w' base v' (zs ++ [z]) → w.grownBy w' v.ownBlock → (v'.ownBlock = v.ownBlock ∨ v'.ownBlock = some w.heap.size) → wpList Tryz.prog ops Q rest (f.put o.dst v') w') : wpList Tryz.prog ops Q (o :: rest) f w := by
  refine wpList_plain hgd fun K hK => ?_
  obtain ⟨i0, hi, hz0, hz1, hz2⟩ := info_parts Tryz.infoStr2
  obtain ⟨v', w', hrun, h1, h2, _, h3⟩ := run_append_own_at (P := Tryz.prog) w base 30 o.type 9 i0 _ 1 16 Tryz.underlying30 hi hz0 hz1 hz2 rfl (by decide) v zs.length _ hown ⟨b, 0, none⟩ 1 cap [.string z] rfl
    (fun j u hj => by
      match j, hj with
      | 0, hj => simp at hj; subst hj; simpa [Addr.add] using hc)
    (fun u hu => by simp at hu; subst hu; rfl) (by unfold maxLen; omega) (by omega) hbase
  unfold Oper.wp
  simp [execOp, ho, resolve, invoke, builtin, hs, hx, hrun, Result.andThen]
  exact hK _ _ (h v' w' (by unfold Sw; simpa using h1) h2 h3)

theorem text_cell (W : World) (s : ByteArray) : (W.alloc (.cells #[.string s] 9)).cell? ⟨W.heap.size, 0, none⟩ = some (.string s) := by
  rw [World.cell?_alloc_new]; rfl

theorem text_eq (x y : ByteArray) : (x.toList == y.toList) = decide (x = y) := by
  by_cases h : x = y
  · subst h; simp
  · have : x.toList ≠ y.toList := fun e => h (toList_inj e)
    simp [h, this]

end Go.Proofs.YtfkhocmbhnigeaaGreat
