/- The contracts of the reference's own comments of a line, places within comments, comments of a token. -/
import Derived.Test.YtfkhocmbhnigeaaGreatLRef
namespace Go.Proofs.YtfkhocmbhnigeaaGreat
open Go.RowKit
set_option linter.unusedVariables false
set_option linter.unusedSimpArgs false

/-- A piece of a text of two signs is these. -/
theorem str_two (s : List Int) (hz : ∀ i, 0 ≤ s.getD i 0 ∧ s.getD i 0 ≤ 255) (i : Nat) (h : i + 1 < s.length) (a b : Int) (ha : 0 ≤ a ∧ a ≤ 255) (hb : 0 ≤ b ∧ b ≤ 255) :
    (((strOfNums s).extract i (i + 2)).toList == [UInt8.ofNat a.toNat, UInt8.ofNat b.toNat]) = decide (s.getD i 0 = a ∧ s.getD (i + 1) 0 = b) := by
  rw [str_cut, str_list, show i + 2 - i = 2 by omega, drop_at (show i < s.length by omega), drop_at h]
  have h1 := hz i
  have h2 := hz (i + 1)
  generalize s.getD i 0 = x at h1
  generalize s.getD (i + 1) 0 = y at h2
  rw [Bool.eq_iff_iff]
  simp only [List.take, List.map_cons, List.map_nil, beq_iff_eq, List.cons.injEq, and_true, decide_eq_true_eq]
  exact ⟨fun h => ⟨u8_inj h1 ha h.1, u8_inj h2 hb h.2⟩, fun h => by rw [h.1, h.2]; exact ⟨rfl, rfl⟩⟩

/-- A piece of a text, its bounds as the walk spells them. -/
theorem run_cut (S : ByteArray) (i j : Nat) (ii jj : Int) (hi : ii = (i : Int)) (hj : jj = (j : Int)) (h1 : i ≤ j) (h2 : j ≤ S.size) :
    ∀ W, (Instr.slice 9 (.string S) (some (.int .i64 ii)) (some (.int .i64 jj)) none).run Tryz.prog W = .ok (.string (S.extract i j)) W := fun W => by
  subst hi hj
  rw [run_slice_string W 9 S .i64 .i64 (i : Int) (j : Int) Tryz.underlying9 (by omega) (by omega) (by omega)]
  simp

theorem run_cut_to (S : ByteArray) (i : Nat) (ii : Int) (hi : ii = (i : Int)) (h1 : i ≤ S.size) :
    ∀ W, (Instr.slice 9 (.string S) (some (.int .i64 ii)) none none).run Tryz.prog W = .ok (.string (S.extract i S.size)) W := fun W => by
  subst hi
  rw [run_slice_string_l W 9 S Tryz.underlying9 .i64 (i : Int) (by omega) (by omega)]
  simp

/-- A slice of numbers (int) that is read. -/
def Is (w : World) (a : Option Addr) (len cap : Nat) (ms : List Nat) : Prop :=
  ms.length = len ∧ len ≤ cap ∧ (a = none → cap = 0) ∧ (0 < len → ∃ b off, a = some ⟨b, off, none⟩ ∧ b < w.heap.size ∧ ∀ i, i < len → w.cell? ⟨b, off + i, none⟩ = some (.int .i64 ((ms.getD i 0 : Nat) : Int)))

theorem Is.below {w w' : World} {a : Option Addr} {len cap : Nat} {ms : List Nat} (h : Is w a len cap ms) {B : Nat} (hb : Below B w w') (hB : w.heap.size ≤ B) : Is w' a len cap ms := by
  obtain ⟨h1, h2, h3, h4⟩ := h
  refine ⟨h1, h2, h3, fun hp => ?_⟩
  obtain ⟨b, off, rfl, hlt, hc⟩ := h4 hp
  exact ⟨b, off, rfl, Nat.lt_of_lt_of_le hlt hb.size, fun i hi => (hb.cell (show b < B by omega)).trans (hc i hi)⟩

theorem Is.of_owns {w : World} {base n : Nat} {a : Option Addr} {len cap : Nat} {ms : List Nat} (h : w.ownsRow base 3 1 (.slice a len cap) n (ms.map fun m => Value.int .i64 ((m : Nat) : Int))) : Is w a len cap ms := by
  have hz := h.1
  simp at hz
  rcases h.2 with ⟨he, hn⟩ | ⟨g, c, cur, he, hg, hh, h1, h2, h3, h4⟩
  · simp at he
    obtain ⟨rfl, rfl, rfl⟩ := he
    have : ms = [] := List.eq_nil_of_length_eq_zero (by omega)
    subst this
    exact ⟨rfl, Nat.le_refl _, fun _ => rfl, fun h => absurd h (by omega)⟩
  · simp at he
    obtain ⟨rfl, rfl, rfl⟩ := he
    refine ⟨hz, h1, fun h => by simp at h, fun hp => ⟨g, 0, rfl, (h.lt g rfl).2, fun i hi => ?_⟩⟩
    have := h.cellAt i (by omega)
    rw [Nat.zero_add, this]
    simp [List.getElem?_eq_getElem (show i < ms.length by omega), List.getD]

theorem linside_short (l : List Nat) (k : Nat) (h : l.length ≤ 1) : linside l k = false := by
  match l, h with
  | [], _ => rfl
  | [a], _ => rfl
  | a :: b :: r, h => simp at h

theorem drop_atN {l : List Nat} {k : Nat} (h : k < l.length) : l.drop k = l.getD k 0 :: l.drop (k + 1) := by
  rw [List.drop_eq_getElem_cons h]
  simp [List.getD, List.getElem?_eq_getElem h]

end Go.Proofs.YtfkhocmbhnigeaaGreat
