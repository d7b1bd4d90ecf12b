/- The plain mathematics of taking a number from bytes: no Go text in sight. -/
import Derived.Test.YtnlamgljlcoibaaMath
namespace Go.Proofs.Ytnlamgljlcoibaa
open Go.RowKit

/-- The number that bytes begin with: i bytes are read, x is their worth; the number, how many bytes, the error's number. -/
def tk : Nat → List Int → Nat → Int → Int × Int × Int
  | 0, _, _, _ => (0, 0, 10)
  | _ + 1, [], _, _ => (0, 0, 10)
  | f + 1, c :: r, i, x =>
    if i = 9 ∧ 1 < c then (0, 0, 10)
    else if c < 128 then (x + c % 128 * 128 ^ i, (i : Int) + 1, 0)
    else tk f r (i + 1) (x + c % 128 * 128 ^ i)

theorem tk_end (f : Nat) (i : Nat) (x : Int) : tk f [] i x = (0, 0, 10) := by
  cases f <;> rfl
theorem tk_bad (f : Nat) (c : Int) (r : List Int) (x : Int) (h : 1 < c) : tk f (c :: r) 9 x = (0, 0, 10) := by
  cases f with
  | zero => rfl
  | succ f => rw [tk, if_pos ⟨rfl, h⟩]
theorem tk_last (f : Nat) (c : Int) (r : List Int) (i : Nat) (x : Int) (h : ¬ (i = 9 ∧ 1 < c)) (hc : c < 128) : tk (f + 1) (c :: r) i x = (x + c % 128 * 128 ^ i, (i : Int) + 1, 0) := by
  rw [tk, if_neg h, if_pos hc]
theorem tk_next (f : Nat) (c : Int) (r : List Int) (i : Nat) (x : Int) (h : ¬ (i = 9 ∧ 1 < c)) (hc : ¬ c < 128) : tk (f + 1) (c :: r) i x = tk f r (i + 1) (x + c % 128 * 128 ^ i) := by
  rw [tk, if_neg h, if_neg hc]

theorem pow_cast (i : Nat) : (2 : Int) ^ (7 * i) = 128 ^ i := by
  rw [Int.pow_mul]; rfl

theorem bits_or_comm (k : IntKind) (a b : Int) : bits .or k a b = bits .or k b a := by
  show k.wrap ((BitVec.ofInt k.bits a ||| BitVec.ofInt k.bits b).toNat : Int) = k.wrap ((BitVec.ofInt k.bits b ||| BitVec.ofInt k.bits a).toNat : Int)
  rw [BitVec.or_comm]

/-- Seven bits more, above those that are there. -/
theorem tk_or (i : Nat) (x c : Int) (hi : i ≤ 9) (h0 : 0 ≤ x) (hx : x < 128 ^ i) (c0 : 0 ≤ c) (hc : c ≤ 255) (h9 : ¬ (i = 9 ∧ 1 < c)) :
    bits .or .u64 x (IntKind.u64.wrap (c % 128 * 2 ^ (7 * i))) = x + c % 128 * 128 ^ i ∧
      0 ≤ x + c % 128 * 128 ^ i ∧ x + c % 128 * 128 ^ i < 128 ^ (i + 1) ∧ x + c % 128 * 128 ^ i ≤ 18446744073709551615 := by
  have hp : (0 : Int) < 128 ^ i := Int.pow_pos (by omega)
  have hb : c % 128 * 128 ^ i < 18446744073709551616 ∧ x + c % 128 * 128 ^ i ≤ 18446744073709551615 := by
    by_cases e : i = 9
    · subst e
      have : c % 128 ≤ 1 := by omega
      have e9 : (128 : Int) ^ 9 = 9223372036854775808 := by decide
      rw [e9] at *
      omega
    · have h8 : (128 : Int) ^ i ≤ 128 ^ 8 := by
        have := Nat.pow_le_pow_right (show 1 ≤ 128 by decide) (show i ≤ 8 by omega)
        exact_mod_cast this
      have e8 : (128 : Int) ^ 8 = 72057594037927936 := by decide
      rw [e8] at h8
      have : c % 128 ≤ 127 := by omega
      have : c % 128 * 128 ^ i ≤ 127 * 128 ^ i := Int.mul_le_mul_of_nonneg_right this (by omega)
      omega
  have hm0 : 0 ≤ c % 128 * 128 ^ i := Int.mul_nonneg (by omega) (by omega)
  have hw : IntKind.u64.wrap (c % 128 * 2 ^ (7 * i)) = c % 128 * 128 ^ i := by
    rw [pow_cast, IntKind.wrap_u64]
    exact Int.emod_eq_of_lt hm0 (by omega)
  refine ⟨?_, by omega, ?_, hb.2⟩
  · rw [hw, bits_or_comm, bits_join .u64 64 (by decide) (fun n h0 h1 => by rw [IntKind.wrap_u64]; omega) (7 * i) _ _ hm0 ?_ (by omega) h0 (by rw [pow_cast]; exact hx) (by omega)]
    · omega
    · rw [pow_cast]; exact Int.mul_emod_left _ _
  · rw [Int.pow_succ]
    have : c % 128 * 128 ^ i ≤ 127 * 128 ^ i := Int.mul_le_mul_of_nonneg_right (by omega) (by omega)
    omega

end Go.Proofs.Ytnlamgljlcoibaa
