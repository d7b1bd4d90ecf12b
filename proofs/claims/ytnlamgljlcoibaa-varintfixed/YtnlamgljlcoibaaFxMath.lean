/- The plain mathematics of numbers in so many bytes: no Go text in sight. -/
import Derived.Test.YtnlamgljlcoibaaTkMath
namespace Go.Proofs.Ytnlamgljlcoibaa
open Go.RowKit

/-- The low bytes of a number, s of them, the lowest ahead. -/
def fx (n : Nat) (s : Nat) : List Int := (List.range s).map fun i => ((n / 256 ^ i % 256 : Nat) : Int)
/-- The number of bytes, the lowest ahead. -/
def uf : List Int → Int
  | [] => 0
  | c :: r => c + 256 * uf r

theorem fx_len (n s : Nat) : (fx n s).length = s := by simp [fx]
theorem fx_succ (n s : Nat) : fx n (s + 1) = fx n s ++ [((n / 256 ^ s % 256 : Nat) : Int)] := by
  simp [fx, List.range_succ]

theorem uf_snoc : ∀ (l : List Int) (c : Int), uf (l ++ [c]) = uf l + c * 256 ^ l.length
  | [], c => by simp [uf]
  | a :: r, c => by
    rw [List.cons_append, uf, uf, uf_snoc r c, List.length_cons, Int.pow_succ, Int.mul_add, Int.add_assoc]
    congr 2
    rw [← Int.mul_assoc, Int.mul_comm 256 c, Int.mul_assoc, Int.mul_comm 256]

theorem uf_bd : ∀ (l : List Int), (∀ c ∈ l, 0 ≤ c ∧ c ≤ 255) → 0 ≤ uf l ∧ uf l < 256 ^ l.length
  | [], _ => by simp [uf]
  | a :: r, h => by
    have ha := h a (by simp)
    have hr := uf_bd r (fun c hc => h c (by simp [hc]))
    rw [uf, List.length_cons, Int.pow_succ]
    omega

theorem uf_fx (n : Nat) : ∀ s, uf (fx n s) = ((n % 256 ^ s : Nat) : Int)
  | 0 => by simp [fx, uf]
  | s + 1 => by
    rw [fx_succ, uf_snoc, uf_fx n s, fx_len]
    have e : n % 256 ^ (s + 1) = n % 256 ^ s + n / 256 ^ s % 256 * 256 ^ s := by
      rw [Nat.pow_succ, Nat.mod_mul, Nat.mul_comm (256 ^ s)]
    rw [e]
    simp

theorem uf_fx8 (n : Int) (h0 : 0 ≤ n) (h1 : n ≤ 18446744073709551615) : uf (fx n.toNat 8) = n := by
  rw [uf_fx]
  omega

theorem fx_bd (n s : Nat) : ∀ c ∈ fx n s, 0 ≤ c ∧ c ≤ 255 := by
  intro c hc
  simp only [fx, List.mem_map] at hc
  obtain ⟨i, _, rfl⟩ := hc
  omega

theorem pow_cast8 (i : Nat) : (2 : Int) ^ (8 * i) = 256 ^ i := by
  rw [Int.pow_mul]; rfl

/-- A byte that is laid. -/
theorem fx_byte (n : Int) (k : Nat) (h0 : 0 ≤ n) : IntKind.u8.wrap (n / 2 ^ (8 * k)) = ((n.toNat / 256 ^ k % 256 : Nat) : Int) := by
  rw [IntKind.wrap_u8, pow_cast8]
  obtain ⟨m, rfl⟩ := Int.eq_ofNat_of_zero_le h0
  rw [Int.toNat_natCast, Int.natCast_emod, Int.natCast_ediv, Int.natCast_pow]
  rfl

/-- Eight bits more, above those that are there. -/
theorem uf_or (i : Nat) (x c : Int) (hi : i ≤ 7) (h0 : 0 ≤ x) (hx : x < 256 ^ i) (c0 : 0 ≤ c) (hc : c ≤ 255) :
    bits .or .u64 x (IntKind.u64.wrap (c * 2 ^ (8 * i))) = x + c * 256 ^ i := by
  have hp : (0 : Int) < 256 ^ i := Int.pow_pos (by omega)
  have hm0 : 0 ≤ c * 256 ^ i := Int.mul_nonneg c0 (by omega)
  have h7 : (256 : Int) ^ i ≤ 256 ^ 7 := by
    have h := Nat.pow_le_pow_right (show 1 ≤ 256 by decide) hi
    have e : (256 : Int) ^ i = ((256 ^ i : Nat) : Int) := (Int.natCast_pow 256 i).symm
    rw [e, show (256 : Int) ^ 7 = ((256 ^ 7 : Nat) : Int) from rfl]
    exact Int.ofNat_le.mpr h
  have e7 : (256 : Int) ^ 7 = 72057594037927936 := by decide
  rw [e7] at h7
  have hb : c * 256 ^ i ≤ 255 * 256 ^ i := Int.mul_le_mul_of_nonneg_right hc (by omega)
  have hw : IntKind.u64.wrap (c * 2 ^ (8 * i)) = c * 256 ^ i := by
    rw [pow_cast8, IntKind.wrap_u64]
    exact Int.emod_eq_of_lt hm0 (by omega)
  rw [hw, bits_or_comm, bits_join .u64 64 (by decide) (fun n h0 h1 => by rw [IntKind.wrap_u64]; omega) (8 * i) _ _ hm0 ?_ (by omega) h0 (by rw [pow_cast8]; exact hx) (by omega)]
  · omega
  · rw [pow_cast8]; exact Int.mul_emod_left _ _

/-- The row that Fixed has laid behind k rounds. -/
def frow (n : Nat) (s k : Nat) : List Value := (List.range s).map fun i => Value.int .u8 (if i < k then ((n / 256 ^ i % 256 : Nat) : Int) else 0)

theorem frow_get (n s k i : Nat) (h : i < s) : (frow n s k)[i]? = some (Value.int .u8 (if i < k then ((n / 256 ^ i % 256 : Nat) : Int) else 0)) := by
  simp [frow, h]

theorem frow_zero (n s : Nat) : (madeCells #[Value.int .u8 0] (s * 1)).toList = frow n s 0 := by
  rw [toList_madeCells_one, Nat.mul_one]
  apply List.ext_getElem?
  intro i
  by_cases h : i < s
  · rw [frow_get n s 0 i h]; simp [h]
  · simp [frow, h]

theorem frow_set (n s k : Nat) : (frow n s k).set k (Value.int .u8 ((n / 256 ^ k % 256 : Nat) : Int)) = frow n s (k + 1) := by
  apply List.ext_getElem?
  intro i
  by_cases h : i < s
  · rw [frow_get n s (k + 1) i h, List.getElem?_set]
    by_cases e : k = i
    · subst e; simp [frow, h]
    · rw [if_neg e, frow_get n s k i h]
      congr 2
      by_cases g : i < k
      · rw [if_pos g, if_pos (by omega)]
      · rw [if_neg g, if_neg (by omega)]
  · simp [frow, h]

theorem frow_end (n s : Nat) : frow n s s = (fx n s).map (Value.int .u8) := by
  apply List.ext_getElem?
  intro i
  by_cases h : i < s
  · rw [frow_get n s s i h, if_pos h]; simp [fx, h]
  · simp [frow, fx, h]

end Go.Proofs.Ytnlamgljlcoibaa
