/- Put together by a program out of these texts of mine: Math, TkMath, YTake, YRTake, FxMath, YFix, YBs, BkMath, WMath, YWire, WtMath. -/
import Derived.Lib.BitFns
import Derived.WalkKit
import Derived.Laws.BitsAllLaws
import Derived.WalkMore
import Derived.ScopeJumps
import Derived.Laws.BytesArg
import Derived.Deep.RegionWith
import Derived.Deep.RegionHeld3
import Derived.Test.YtjbppjemilijdaaBunA1

/- The plain mathematics of numbers as bytes: no Go text in sight. It proves nothing of the program by itself. -/
namespace Go.Proofs.Ytjbppjemilijdaa
open Go.RowKit

/-- The bytes of a number, seven bits a byte, the lowest ahead (at most 'f' + 1 of them). -/
def vb : Nat → Nat → List Int
  | 0, n => [(n : Int)]
  | f + 1, n => if n < 128 then [(n : Int)] else ((n % 128 + 128 : Nat) : Int) :: vb f (n / 128)

theorem vb_pos : ∀ (f n : Nat), 1 ≤ (vb f n).length
  | 0, n => by simp [vb]
  | f + 1, n => by
    unfold vb
    split <;> simp

theorem vb_len_le : ∀ (f n : Nat), (vb f n).length ≤ f + 1
  | 0, n => by simp [vb]
  | f + 1, n => by
    have := vb_len_le f (n / 128)
    unfold vb
    split <;> simp <;> omega

/-- How many bytes: by the number of bits. -/
theorem vb_bits : ∀ (f x : Nat), 1 ≤ x → x < 18446744073709551616 → x < 128 ^ (f + 1) → (Lib.bitLen x + 6) / 7 = (vb f x).length
  | 0, x, h1, h2, h3 => by
    have a := Lib.bitLen_le x 7 (by omega) (by simpa using h3)
    have b := Lib.bitLen_half x (by omega) (by simpa using h2)
    simp [vb]
    omega
  | f + 1, x, h1, h2, h3 => by
    unfold vb
    by_cases h : x < 128
    · have a := Lib.bitLen_le x 7 (by omega) (by simpa using h)
      have b := Lib.bitLen_half x (by omega) (by simpa using h2)
      rw [if_pos h]
      simp
      omega
    · have a := Lib.bitLen_shift 7 x (by omega) (by simpa using h2)
      have e : (2 : Nat) ^ 7 = 128 := by decide
      rw [e] at a
      have b := vb_bits f (x / 128) (by omega) (by omega) (by rw [Nat.pow_succ] at h3; omega)
      rw [if_neg h, a]
      simp only [List.length_cons]
      omega

theorem or_one (a : Nat) : a ||| 1 = a / 2 * 2 + 1 := by
  have h1 : (a ||| 1) / 2 = a / 2 := by rw [Nat.or_div_two]; simp
  have h2 : (a ||| 1) % 2 = 1 := by rw [Nat.or_mod_two_eq_one]; omega
  omega

theorem bits_or_one (n : Int) (h0 : 0 ≤ n) (h1 : n ≤ 18446744073709551615) : bits .or .u64 n 1 = n / 2 * 2 + 1 := by
  have e := u64_or n 1 h0 (by omega) (by omega) (by omega)
  have e1 : (1 : Int).toNat = 1 := rfl
  rw [e, e1, or_one]
  omega

theorem vb_odd (n : Nat) : (vb 9 (n / 2 * 2 + 1)).length = (vb 9 n).length := by
  show (vb (8 + 1) (n / 2 * 2 + 1)).length = (vb (8 + 1) n).length
  unfold vb
  by_cases h : n < 128
  · rw [if_pos h, if_pos (by omega)]; simp
  · rw [if_neg h, if_neg (by omega)]
    have : (n / 2 * 2 + 1) / 128 = n / 128 := by omega
    simp [this]

theorem size_eq (n : Int) (h0 : 0 ≤ n) (h1 : n ≤ 18446744073709551615) : ((Lib.bitLen (n / 2 * 2 + 1).toNat : Int) + 6) / 7 = ((vb 9 n.toNat).length : Int) := by
  have e : (n / 2 * 2 + 1).toNat = n.toNat / 2 * 2 + 1 := by omega
  rw [e, ← vb_odd, ← vb_bits 9 _ (by omega) (by omega) (by omega)]
  omega

/-- What lies at each place. -/
theorem vb_at : ∀ (f n i : Nat), n < 128 ^ (f + 1) → i < (vb f n).length →
    (vb f n)[i]? = some (if i + 1 < (vb f n).length then ((n / 128 ^ i % 128 + 128 : Nat) : Int) else ((n / 128 ^ i : Nat) : Int))
  | 0, n, i, hn, hi => by
    have : i = 0 := by simp [vb] at hi; omega
    subst this
    simp [vb]
  | f + 1, n, i, hn, hi => by
    unfold vb at hi ⊢
    by_cases h : n < 128
    · rw [if_pos h] at hi ⊢
      have : i = 0 := by simp at hi; omega
      subst this
      simp
    · rw [if_neg h] at hi ⊢
      cases i with
      | zero =>
        have := vb_pos f (n / 128)
        simp
        intro hx; rw [hx] at this; simp at this
      | succ i =>
        have ih := vb_at f (n / 128) i (by rw [Nat.pow_succ] at hn; omega) (by simp at hi; omega)
        have e : n / 128 ^ (i + 1) = n / 128 / 128 ^ i := by rw [Nat.pow_succ, Nat.mul_comm, Nat.div_div_eq_div_mul]
        simp only [List.getElem?_cons_succ, List.length_cons, Nat.add_lt_add_iff_right, e]
        exact ih

/-- The last byte is below 128. -/
theorem vb_last : ∀ (f n : Nat), n < 128 ^ (f + 1) → n / 128 ^ ((vb f n).length - 1) < 128
  | 0, n, hn => by simp [vb]; simpa using hn
  | f + 1, n, hn => by
    unfold vb
    by_cases h : n < 128
    · rw [if_pos h]; simpa using h
    · rw [if_neg h]
      have ih := vb_last f (n / 128) (by rw [Nat.pow_succ] at hn; omega)
      have p := vb_pos f (n / 128)
      have e : (((n % 128 + 128 : Nat) : Int) :: vb f (n / 128)).length - 1 = (vb f (n / 128)).length - 1 + 1 := by simp; omega
      rw [e, Nat.pow_succ, Nat.mul_comm, ← Nat.div_div_eq_div_mul]
      exact ih

theorem or128 : ∀ a : Fin 256, a.val ||| 128 = a.val % 128 + 128 := by decide +kernel
theorem and127 : ∀ a : Fin 256, a.val &&& 127 = a.val % 128 := by decide +kernel
theorem and128 : ∀ a : Fin 256, a.val &&& 128 = a.val / 128 * 128 := by decide +kernel

theorem bits_or128 (x : Int) : bits .or .u8 (x % 256) 128 = x % 128 + 128 := by
  have e := u8_or (x % 256) 128 (by omega) (by omega) (by omega) (by omega)
  have o := or128 ⟨(x % 256).toNat, by omega⟩
  have e1 : (128 : Int).toNat = 128 := rfl
  rw [e, e1]
  simp only at o
  rw [o]
  omega

theorem bits_and127 (x : Int) (h0 : 0 ≤ x) (h1 : x < 256) : bits .and .u8 x 127 = x % 128 := by
  have e := u8_and x 127 h0 h1 (by omega) (by omega)
  have o := and127 ⟨x.toNat, by omega⟩
  have e1 : (127 : Int).toNat = 127 := rfl
  rw [e, e1]
  simp only at o
  rw [o]
  omega

theorem bits_and128 (x : Int) (h0 : 0 ≤ x) (h1 : x < 256) : bits .and .u8 x 128 = x / 128 * 128 := by
  have e := u8_and x 128 h0 h1 (by omega) (by omega)
  have o := and128 ⟨x.toNat, by omega⟩
  have e1 : (128 : Int).toNat = 128 := rfl
  rw [e, e1]
  simp only at o
  rw [o]
  omega

/-- The table's byte: how many bits its place wants. -/
theorem tab_at (m : Nat) (h : m < Lib.len8tab.size) : (Lib.len8tab[m].toNat : Int) = (Lib.bitLen m : Int) ∧ Lib.bitLen m ≤ 8 := by
  have hs := Lib.len8tab_size
  have e := Lib.len8_eq ⟨m, by omega⟩
  have l := Lib.bitLen_le8 ⟨m, by omega⟩
  simp only [Lib.len8, Int.toNat_natCast] at e l
  rw [getElem?_pos Lib.len8tab m h] at e
  exact ⟨by simpa using e, l⟩

theorem len_close (C : Nat) (x : Nat) (y : Int) (hy : y.toNat < Lib.len8tab.size) (hC : C ≤ 56) (hx : x < 18446744073709551616) (h : y.toNat = x / 2 ^ C) (h1 : 2 ^ C ≤ x ∨ C = 0) :
    wrap64 ((C : Int) + wrap64 ((Lib.len8tab[y.toNat].toNat : Nat) : Int)) = (Lib.bitLen x : Int) := by
  obtain ⟨a, b⟩ := tab_at y.toNat hy
  rw [a]
  have e : Lib.bitLen x = C + Lib.bitLen y.toNat := by
    rcases h1 with h1 | h1
    · rw [h]; exact Lib.bitLen_shift C x h1 (by simpa using hx)
    · subst h1; rw [h]; simp
  unfold wrap64
  omega

/-- The row that Put has laid behind k rounds. -/
def prow (n : Nat) (L k : Nat) : List Value := (List.range L).map fun i => Value.int .u8 (if i < k then ((n / 128 ^ i % 128 + 128 : Nat) : Int) else 0)

theorem prow_get (n L k i : Nat) (h : i < L) : (prow n L k)[i]? = some (Value.int .u8 (if i < k then ((n / 128 ^ i % 128 + 128 : Nat) : Int) else 0)) := by
  simp [prow, h]

theorem prow_zero (n L : Nat) : (madeCells #[Value.int .u8 0] (L * 1)).toList = prow n L 0 := by
  rw [toList_madeCells_one, Nat.mul_one]
  apply List.ext_getElem?
  intro i
  by_cases h : i < L
  · rw [prow_get n L 0 i h]; simp [h]
  · simp [prow, h]

theorem prow_set (n L k : Nat) (_h : k < L) : (prow n L k).set k (Value.int .u8 ((n / 128 ^ k % 128 + 128 : Nat) : Int)) = prow n L (k + 1) := by
  apply List.ext_getElem?
  intro i
  by_cases h : i < L
  · rw [prow_get n L (k + 1) i h, List.getElem?_set]
    by_cases e : k = i
    · subst e; simp [prow, h]
    · rw [if_neg e, prow_get n L k i h]
      congr 2
      by_cases g : i < k
      · rw [if_pos g, if_pos (by omega)]
      · rw [if_neg g, if_neg (by omega)]
  · simp [prow, h]

theorem prow_end (n L : Nat) (hL : (vb 9 n).length = L) (hn : n < 18446744073709551616) :
    (prow n L L).set (L - 1) (Value.int .u8 ((n / 128 ^ (L - 1) : Nat) : Int)) = (vb 9 n).map (Value.int .u8) := by
  subst hL
  have p := vb_pos 9 n
  apply List.ext_getElem?
  intro i
  by_cases h : i < (vb 9 n).length
  · rw [List.getElem?_map, vb_at 9 n i (by omega) h, List.getElem?_set]
    by_cases e : (vb 9 n).length - 1 = i
    · subst e
      rw [if_pos rfl, if_pos (by simp [prow]; omega), if_neg (by omega)]
      rfl
    · rw [if_neg e, prow_get n _ _ i h, if_pos h, if_pos (by omega)]
      rfl
  · simp [prow, h]

theorem shr_by (n : Int) (c k : Nat) (h : c * k ≤ 64) : Op.shift .shr .u64 n .i64 ((c : Int) * (k : Int)) = pure (.int .u64 (n / 2 ^ (c * k))) := by
  rw [← Int.natCast_mul, shift_shr .u64 .i64 n _ (by omega) (by simp only [IntKind.bits]; omega)]
  rfl

/-- A byte that is laid: its seven bits, and the mark. -/
theorem put_byte (n : Int) (k : Nat) (h0 : 0 ≤ n) : bits .or .u8 (IntKind.u8.wrap (n / 2 ^ (7 * k))) 128 = ((n.toNat / 128 ^ k % 128 + 128 : Nat) : Int) := by
  rw [IntKind.wrap_u8, bits_or128]
  have e : (2 : Int) ^ (7 * k) = ((128 ^ k : Nat) : Int) := by
    rw [Int.pow_mul]; simp
  rw [e]
  obtain ⟨m, rfl⟩ := Int.eq_ofNat_of_zero_le h0
  simp

theorem put_last (n L : Nat) (hL : (vb 9 n).length = L) (hn : n < 18446744073709551616) :
    bits .and .u8 ((n / 128 ^ (L - 1) % 128 + 128 : Nat) : Int) 127 = ((n / 128 ^ (L - 1) : Nat) : Int) := by
  have h := vb_last 9 n (by omega)
  rw [hL] at h
  generalize n / 128 ^ (L - 1) = q at h ⊢
  rw [bits_and127 _ (by omega) (by omega)]
  omega

/-- The number with a sign, folded. -/
def zg (n : Int) : Int := if n < 0 then 2 * -(n + 1) + 1 else 2 * n
/-- And back. -/
def zb (n : Int) : Int := if n % 2 = 1 then -(n / 2) - 1 else n / 2

theorem xor_zero (k : IntKind) (x : Int) : bits .xor k x 0 = k.wrap ((BitVec.ofInt k.bits x).toNat) := by
  simp [bits]

theorem xor_ones (x : Int) : bits .xor .u64 x 18446744073709551615 = IntKind.u64.wrap ((18446744073709551615 - (BitVec.ofInt 64 x).toNat : Nat) : Int) := by
  have e : BitVec.ofInt 64 18446744073709551615 = BitVec.allOnes 64 := by decide
  show IntKind.u64.wrap ((BitVec.ofInt 64 x ^^^ BitVec.ofInt 64 18446744073709551615).toNat : Int) = _
  rw [e, BitVec.xor_allOnes, BitVec.toNat_not]

theorem xor_ones_i (x : Int) : bits .xor .i64 x (-1) = IntKind.i64.wrap ((18446744073709551615 - (BitVec.ofInt 64 x).toNat : Nat) : Int) := by
  have e : BitVec.ofInt 64 (-1) = BitVec.allOnes 64 := by decide
  show IntKind.i64.wrap ((BitVec.ofInt 64 x ^^^ BitVec.ofInt 64 (-1)).toNat : Int) = _
  rw [e, BitVec.xor_allOnes, BitVec.toNat_not]

theorem zig_eq (n : Int) (h0 : -9223372036854775808 ≤ n) (h1 : n ≤ 9223372036854775807) :
    bits .xor .u64 (IntKind.u64.wrap (wrap64 (n * 2))) (IntKind.u64.wrap (n / 9223372036854775808)) = zg n := by
  unfold zg
  by_cases h : n < 0
  · have e : n / 9223372036854775808 = -1 := by omega
    have e1 : IntKind.u64.wrap (-1) = 18446744073709551615 := by decide
    rw [e, e1, if_pos h, xor_ones, IntKind.wrap_u64, IntKind.wrap_u64, BitVec.toNat_ofInt]
    unfold wrap64
    simp only [Nat.reducePow]
    omega
  · have e : n / 9223372036854775808 = 0 := by omega
    have e1 : IntKind.u64.wrap 0 = 0 := by decide
    rw [e, e1, if_neg h, xor_zero, IntKind.wrap_u64, IntKind.wrap_u64, BitVec.toNat_ofInt]
    unfold wrap64
    simp only [IntKind.bits, Nat.reducePow]
    omega

theorem and_one (n : Int) (h0 : 0 ≤ n) (h1 : n ≤ 18446744073709551615) : bits .and .u64 n 1 = n % 2 := by
  have e := u64_and n 1 h0 (by omega) (by omega) (by omega)
  have e1 : (1 : Int).toNat = 1 := rfl
  rw [e, e1, Nat.and_one_is_mod]
  omega

theorem zag_eq (n : Int) (h0 : 0 ≤ n) (h1 : n ≤ 18446744073709551615) :
    bits .xor .i64 (n / 2) (wrap64 (-wrap64 (bits .and .u64 n 1))) = zb n := by
  rw [and_one n h0 h1]
  unfold zb
  by_cases h : n % 2 = 1
  · have e : wrap64 (-wrap64 1) = -1 := by unfold wrap64; omega
    rw [h, e, if_pos rfl, xor_ones_i, Go.IntKind.wrap_i64, BitVec.toNat_ofInt]
    simp only [Nat.reducePow]
    omega
  · have e : n % 2 = 0 := by omega
    have e1 : wrap64 (-wrap64 0) = 0 := by unfold wrap64; omega
    rw [e, e1, if_neg (by omega), xor_zero, Go.IntKind.wrap_i64, BitVec.toNat_ofInt]
    simp only [IntKind.bits, Nat.reducePow]
    omega

theorem zg_bd (n : Int) (h0 : -9223372036854775808 ≤ n) (h1 : n ≤ 9223372036854775807) : 0 ≤ zg n ∧ zg n ≤ 18446744073709551615 := by
  unfold zg; split <;> omega
theorem zb_bd (n : Int) (h0 : 0 ≤ n) (h1 : n ≤ 18446744073709551615) : -9223372036854775808 ≤ zb n ∧ zb n ≤ 9223372036854775807 := by
  unfold zb; split <;> omega
theorem zb_zg (n : Int) : zb (zg n) = n := by
  unfold zb zg; split <;> split <;> omega
theorem zg_zb (n : Int) (h0 : 0 ≤ n) : zg (zb n) = n := by
  unfold zb zg; split <;> split <;> omega

end Go.Proofs.Ytjbppjemilijdaa

/- The plain mathematics of taking a number from bytes: no Go text in sight. -/
namespace Go.Proofs.Ytjbppjemilijdaa
open Go.RowKit

/-- The number that bytes begin with: i bytes are read, x is their worth; the number, how many bytes, the error's number. -/
def tk : Nat → List Int → Nat → Int → Int × Int × Int
  | 0, _, _, _ => (0, 0, 10)
  | _ + 1, [], _, _ => (0, 0, 10)
  | f + 1, c :: r, i, x =>
    if i = 9 ∧ 1 < c then (0, 0, 10)
    else if c < 128 then (x + c % 128 * 128 ^ i, (i : Int) + 1, 0)
    else tk f r (i + 1) (x + c % 128 * 128 ^ i)

theorem tk_end (f : Nat) (i : Nat) (x : Int) : tk f [] i x = (0, 0, 10) := by
  cases f <;> rfl
theorem tk_bad (f : Nat) (c : Int) (r : List Int) (x : Int) (h : 1 < c) : tk f (c :: r) 9 x = (0, 0, 10) := by
  cases f with
  | zero => rfl
  | succ f => rw [tk, if_pos ⟨rfl, h⟩]
theorem tk_last (f : Nat) (c : Int) (r : List Int) (i : Nat) (x : Int) (h : ¬ (i = 9 ∧ 1 < c)) (hc : c < 128) : tk (f + 1) (c :: r) i x = (x + c % 128 * 128 ^ i, (i : Int) + 1, 0) := by
  rw [tk, if_neg h, if_pos hc]
theorem tk_next (f : Nat) (c : Int) (r : List Int) (i : Nat) (x : Int) (h : ¬ (i = 9 ∧ 1 < c)) (hc : ¬ c < 128) : tk (f + 1) (c :: r) i x = tk f r (i + 1) (x + c % 128 * 128 ^ i) := by
  rw [tk, if_neg h, if_neg hc]

theorem pow_cast (i : Nat) : (2 : Int) ^ (7 * i) = 128 ^ i := by
  rw [Int.pow_mul]; rfl

theorem bits_or_comm (k : IntKind) (a b : Int) : bits .or k a b = bits .or k b a := by
  show k.wrap ((BitVec.ofInt k.bits a ||| BitVec.ofInt k.bits b).toNat : Int) = k.wrap ((BitVec.ofInt k.bits b ||| BitVec.ofInt k.bits a).toNat : Int)
  rw [BitVec.or_comm]

/-- Seven bits more, above those that are there. -/
theorem tk_or (i : Nat) (x c : Int) (hi : i ≤ 9) (h0 : 0 ≤ x) (hx : x < 128 ^ i) (c0 : 0 ≤ c) (hc : c ≤ 255) (h9 : ¬ (i = 9 ∧ 1 < c)) :
    bits .or .u64 x (IntKind.u64.wrap (c % 128 * 2 ^ (7 * i))) = x + c % 128 * 128 ^ i ∧
      0 ≤ x + c % 128 * 128 ^ i ∧ x + c % 128 * 128 ^ i < 128 ^ (i + 1) ∧ x + c % 128 * 128 ^ i ≤ 18446744073709551615 := by
  have hp : (0 : Int) < 128 ^ i := Int.pow_pos (by omega)
  have hb : c % 128 * 128 ^ i < 18446744073709551616 ∧ x + c % 128 * 128 ^ i ≤ 18446744073709551615 := by
    by_cases e : i = 9
    · subst e
      have : c % 128 ≤ 1 := by omega
      have e9 : (128 : Int) ^ 9 = 9223372036854775808 := by decide
      rw [e9] at *
      omega
    · have h8 : (128 : Int) ^ i ≤ 128 ^ 8 := by
        have := Nat.pow_le_pow_right (show 1 ≤ 128 by decide) (show i ≤ 8 by omega)
        exact_mod_cast this
      have e8 : (128 : Int) ^ 8 = 72057594037927936 := by decide
      rw [e8] at h8
      have : c % 128 ≤ 127 := by omega
      have : c % 128 * 128 ^ i ≤ 127 * 128 ^ i := Int.mul_le_mul_of_nonneg_right this (by omega)
      omega
  have hm0 : 0 ≤ c % 128 * 128 ^ i := Int.mul_nonneg (by omega) (by omega)
  have hw : IntKind.u64.wrap (c % 128 * 2 ^ (7 * i)) = c % 128 * 128 ^ i := by
    rw [pow_cast, IntKind.wrap_u64]
    exact Int.emod_eq_of_lt hm0 (by omega)
  refine ⟨?_, by omega, ?_, hb.2⟩
  · rw [hw, bits_or_comm, bits_join .u64 64 (by decide) (fun n h0 h1 => by rw [IntKind.wrap_u64]; omega) (7 * i) _ _ hm0 ?_ (by omega) h0 (by rw [pow_cast]; exact hx) (by omega)]
    · omega
    · rw [pow_cast]; exact Int.mul_emod_left _ _
  · rw [Int.pow_succ]
    have : c % 128 * 128 ^ i ≤ 127 * 128 ^ i := Int.mul_le_mul_of_nonneg_right (by omega) (by omega)
    omega

end Go.Proofs.Ytjbppjemilijdaa

/- The contract of Take, over the turned text: the number that any bytes begin with, as the plain function 'tk' tells it; no memory turns. -/
namespace Go.Proofs.Ytjbppjemilijdaa
open Go.RowKit

def tkEnd (r : Int × Int × Int) : Ending := .returned (.tuple #[.int .u64 r.1, .int .i64 r.2.1, .int .i64 r.2.2])



set_option maxHeartbeats 2000000 in
theorem take_any (b off len cap : Nat) (zs : List Int) (w : World) (hl : Hid (zs.length = len)) (hlen : (len : Int) ≤ 9223372036854775807)
    (HC : Hid (∀ i, i < len → w.cell? ⟨b, off + i, none⟩ = some (.int .u8 (zs.getD i 0)))) (HZ : Hid (∀ i, 0 ≤ zs.getD i 0 ∧ zs.getD i 0 ≤ 255)) :
    Calls Try.prog 82 #[.slice (some ⟨b, off, none⟩) len cap] w fun e w' => e = tkEnd (tk 10 zs 0 0) ∧ w = w' := by
  go_enter Try.func82, Try.ntmps82
  go_wp2
  refine wp_scope_loop 0 (fun a' w' => w' = w ∧ ∃ (i : Nat) (x : Int) (u7 u8 u9 u10 u11 u12 u13 u14 u15 u16 u17 u18 u19 u20 u21 u22 u23 u24 u25 u26 u27 u28 u29 u30 u31 u32 u33 u34 u35 u36 u37 u38 u39 u40 u41 : Value), a' = { tmps := #[.slice (some ⟨b, off, none⟩) len cap, undef, .int .u64 0, .int .i64 0, .int .i64 0, .int .u64 x, .int .i64 (i : Int), u7, u8, u9, u10, u11, u12, u13, u14, u15, u16, u17, u18, u19, u20, u21, u22, u23, u24, u25, u26, u27, u28, u29, u30, u31, u32, u33, u34, u35, u36, u37, u38, u39, u40, u41, undef, undef], defers := [] } ∧ i ≤ 9 ∧ i ≤ len ∧ 0 ≤ x ∧ x ≤ 18446744073709551615 ∧ Hid (x < 128 ^ i) ∧ Hid (tk (10 - i) (zs.drop i) i x = tk 10 zs 0 0)) (fun a' _ => 10 - (intOf (a'.tmps.getD 6 undef)).toNat) rfl ?_ ?_
  · intro HJ
    go_wp2
    go_step3
    rename_i hK
    refine hK _ _ ?_
    refine HJ.out _ _ ?_
    exact ⟨rfl, 0, 0, undef, undef, undef, undef, undef, undef, undef, undef, undef, undef, undef, undef, undef, undef, undef, undef, undef, undef, undef, undef, undef, undef, undef, undef, undef, undef, undef, undef, undef, undef, undef, undef, undef, undef, undef, rfl, by omega, by omega, by omega, by omega, (by show (0 : Int) < 128 ^ 0; decide), rfl⟩
  · rintro a' w' ⟨rfl, i, x, u7, u8, u9, u10, u11, u12, u13, u14, u15, u16, u17, u18, u19, u20, u21, u22, u23, u24, u25, u26, u27, u28, u29, u30, u31, u32, u33, u34, u35, u36, u37, u38, u39, u40, u41, rfl, hi, hil, x0, x1, Hx, HT⟩
    by_cases hA : i = len
    · have e1 : ((i : Int) == (len : Int)) = true := by simp [hA]
      have E2 : Hid (tk 10 zs 0 0 = (0, 0, 10)) := by show _ = _; rw [← HT.out, List.drop_eq_nil_of_le (by rw [hl.out]; omega), tk_end]
      go_wp2
      simp only [Exit.jump]
      go_ret3
      exact ⟨by rw [E2.out]; rfl, rfl⟩
    · have hlt : i < len := by omega
      have e1 : ((i : Int) == (len : Int)) = false := by simp; omega
      obtain ⟨c, hcell, HD, c0, c255⟩ : ∃ c, w'.cell? ⟨b, off + i, none⟩ = some (.int .u8 c) ∧ Hid (zs.drop i = c :: zs.drop (i + 1)) ∧ 0 ≤ c ∧ c ≤ 255 := by
        have hz := HZ.out i
        have hlz : i < zs.length := by rw [hl.out]; exact hlt
        refine ⟨zs.getD i 0, HC.out i hlt, ?_, hz.1, hz.2⟩
        show zs.drop i = _
        rw [List.drop_eq_getElem_cons hlz]
        simp [List.getD, List.getElem?_eq_getElem hlz]
      have ha := bits_and127 c c0 (by omega)
      by_cases h9 : i = 9
      · have e9 : ((i : Int) == 9) = true := by simp; omega
        have H9 : Hid (i = 9) := h9
        by_cases h1 : 1 < c
        · have E2 : Hid (tk 10 zs 0 0 = (0, 0, 10)) := by show _ = _; rw [← HT.out, HD.out, h9, tk_bad _ _ _ _ h1]
          clear h9
          go_wp2
          simp only [Exit.jump]
          go_ret3
          exact ⟨by rw [E2.out]; rfl, rfl⟩
        · obtain ⟨hor, z0, _, zm⟩ := tk_or i x c (by omega) x0 Hx.out c0 c255 (by omega)
          have e2 := HT.out
          rw [HD.out, show 10 - i = 0 + 1 by omega, tk_last 0 c _ i x (by omega) (by omega)] at e2
          generalize x + c % 128 * 128 ^ i = z at hor z0 zm e2
          have E2 : Hid _ := e2
          clear e2 h9
          have hb := bits_and128 c c0 (by omega)
          rw [show c / 128 * 128 = 0 by omega] at hb
          go_wp2
          simp only [Exit.jump]
          go_ret3
          exact ⟨by rw [← E2.out]; rfl, rfl⟩
      · have e9 : ((i : Int) == 9) = false := by simp; omega
        obtain ⟨hor, z0, zl, zm⟩ := tk_or i x c (by omega) x0 Hx.out c0 c255 (by omega)
        obtain ⟨f, hf⟩ : ∃ f, 10 - i = f + 1 := ⟨9 - i, by omega⟩
        have hb := bits_and128 c c0 (by omega)
        have e2 := HT.out
        by_cases h128 : c < 128
        · rw [HD.out, hf, tk_last f c _ i x (by omega) h128] at e2
          generalize x + c % 128 * 128 ^ i = z at hor z0 zm zl e2
          have E2 : Hid _ := e2
          clear e2 hf zl
          rw [show c / 128 * 128 = 0 by omega] at hb
          go_wp2
          simp only [Exit.jump]
          go_ret3
          exact ⟨by rw [← E2.out]; rfl, rfl⟩
        · rw [HD.out, hf, tk_next f c _ i x (by omega) h128] at e2
          generalize x + c % 128 * 128 ^ i = z at hor z0 zm zl e2
          have E2 : Hid _ := e2
          have Zl : Hid _ := zl
          have Hf : Hid _ := hf
          clear e2 hf zl
          rw [show c / 128 * 128 = 128 by omega] at hb
          go_wp2
          go_step3
          rw [show ((i : Int) + 1) = ((i + 1 : Nat) : Int) from rfl]
          refine ⟨rfl, ⟨rfl, i + 1, z, _, _, _, _, _, _, _, _, _, _, _, _, _, _, _, _, _, _, _, _, _, _, _, _, _, _, _, _, _, _, _, _, _, _, _, rfl, by omega, by omega, z0, zm, Zl, ?_⟩, ?_⟩
          · show tk (10 - (i + 1)) _ _ _ = _
            rw [show 10 - (i + 1) = f by have := Hf.out; omega]
            exact E2.out
          · simp [intOf]
            omega
end Go.Proofs.Ytjbppjemilijdaa

/- The contracts of Take at no bytes, and of the document's own answer (the reference's TakeVarint), over the turned text: both as the plain function 'tk' tells it; no memory turns. -/
namespace Go.Proofs.Ytjbppjemilijdaa
open Go.RowKit

set_option maxHeartbeats 400000 in
theorem take_none (a : Option Addr) (cap : Nat) (w : World) :
    Calls Try.prog 82 #[.slice a 0 cap] w fun e w' => e = tkEnd (tk 10 [] 0 0) ∧ w = w' := by
  go_enter Try.func82, Try.ntmps82
  go_wp2
  go_step3
  go_wp2
  go_step3
  go_wp2
  rw [Exit.noGoto_ret]
  go_ret3
  exact ⟨rfl, rfl⟩

set_option maxHeartbeats 400000 in
theorem rtake_none (a : Option Addr) (cap : Nat) (w : World) :
    Calls Try.prog 31 #[.slice a 0 cap] w fun e w' => e = tkEnd (tk 10 [] 0 0) ∧ w = w' := by
  go_enter Try.func31, Try.ntmps31
  go_wp2
  refine wp_loop_rounds 1 ?_
  rw [rounds_succ]
  go_wp2
  go_ret3
  exact ⟨rfl, rfl⟩

set_option maxHeartbeats 2000000 in
theorem rtake_any (b off len cap : Nat) (zs : List Int) (w : World) (hl : Hid (zs.length = len)) (hlen : (len : Int) ≤ 9223372036854775807)
    (HC : Hid (∀ i, i < len → w.cell? ⟨b, off + i, none⟩ = some (.int .u8 (zs.getD i 0)))) (HZ : Hid (∀ i, 0 ≤ zs.getD i 0 ∧ zs.getD i 0 ≤ 255)) :
    Calls Try.prog 31 #[.slice (some ⟨b, off, none⟩) len cap] w fun e w' => e = tkEnd (tk 10 zs 0 0) ∧ w = w' := by
  go_enter Try.func31, Try.ntmps31
  go_wp2
  go_loop [5, 6] (fun n j => ∃ (i : Nat) (x : Int), n = .int .u64 x ∧ j = .int .i64 (i : Int) ∧ i ≤ 10 ∧ i ≤ len ∧ 0 ≤ x ∧ x ≤ 18446744073709551615 ∧ Hid (x < 128 ^ i) ∧ Hid (tk (10 - i) (zs.drop i) i x = tk 10 zs 0 0)) (fun _ j => 10 - (intOf j).toNat)
  case atStart => exact ⟨0, 0, rfl, rfl, by omega, by omega, by omega, by omega, (by show (0 : Int) < 128 ^ 0; decide), rfl⟩
  case round =>
    obtain ⟨i, x, rfl, rfl, hi, hil, x0, x1, Hx, HT⟩ := hrel
    by_cases hA : i < len
    · by_cases hT : i < 10
      · obtain ⟨c, hcell, HD, c0, c255⟩ : ∃ c, w.cell? ⟨b, off + i, none⟩ = some (.int .u8 c) ∧ Hid (zs.drop i = c :: zs.drop (i + 1)) ∧ 0 ≤ c ∧ c ≤ 255 := by
          have hz := HZ.out i
          have hlz : i < zs.length := by rw [hl.out]; exact hA
          refine ⟨zs.getD i 0, HC.out i hA, ?_, hz.1, hz.2⟩
          show zs.drop i = _
          rw [List.drop_eq_getElem_cons hlz]
          simp [List.getD, List.getElem?_eq_getElem hlz]
        have ha := bits_and127 c c0 (by omega)
        by_cases h9 : i = 9
        · have e9 : ((i : Int) == 9) = true := by simp; omega
          by_cases h1 : 1 < c
          · have E2 : Hid (tk 10 zs 0 0 = (0, 0, 10)) := by show _ = _; rw [← HT.out, HD.out, h9, tk_bad _ _ _ _ h1]
            clear h9
            go_wp2
            go_ret3
            exact ⟨by rw [E2.out]; rfl, rfl⟩
          · obtain ⟨hor, z0, _, zm⟩ := tk_or i x c (by omega) x0 Hx.out c0 c255 (by omega)
            have e2 := HT.out
            rw [HD.out, show 10 - i = 0 + 1 by omega, tk_last 0 c _ i x (by omega) (by omega)] at e2
            generalize x + c % 128 * 128 ^ i = z at hor z0 zm e2
            have E2 : Hid _ := e2
            clear e2 h9
            go_wp2
            go_ret3
            exact ⟨by rw [← E2.out]; rfl, rfl⟩
        · have e9 : ((i : Int) == 9) = false := by simp; omega
          obtain ⟨hor, z0, zl, zm⟩ := tk_or i x c (by omega) x0 Hx.out c0 c255 (by omega)
          obtain ⟨f, hf⟩ : ∃ f, 10 - i = f + 1 := ⟨9 - i, by omega⟩
          have e2 := HT.out
          by_cases h128 : c < 128
          · rw [HD.out, hf, tk_last f c _ i x (by omega) h128] at e2
            generalize x + c % 128 * 128 ^ i = z at hor z0 zm zl e2
            have E2 : Hid _ := e2
            clear e2 hf zl
            go_wp2
            go_ret3
            exact ⟨by rw [← E2.out]; rfl, rfl⟩
          · rw [HD.out, hf, tk_next f c _ i x (by omega) h128] at e2
            generalize x + c % 128 * 128 ^ i = z at hor z0 zm zl e2
            have E2 : Hid _ := e2
            have Zl : Hid _ := zl
            have Hf : Hid _ := hf
            clear e2 hf zl
            go_wp2
            go_round
            case rel =>
              refine ⟨i + 1, z, rfl, by go_num, by omega, by omega, z0, zm, Zl, ?_⟩
              show tk (10 - (i + 1)) _ _ _ = _
              rw [show 10 - (i + 1) = f by have := Hf.out; omega]
              exact E2.out
            case measure => simp [intOf]; omega
      · have E2 : Hid (tk 10 zs 0 0 = (0, 0, 10)) := by show _ = _; rw [← HT.out, show 10 - i = 0 by omega]; rfl
        go_wp2
        go_ret3
        exact ⟨by rw [E2.out]; rfl, rfl⟩
    · have E2 : Hid (tk 10 zs 0 0 = (0, 0, 10)) := by show _ = _; rw [← HT.out, List.drop_eq_nil_of_le (by rw [hl.out]; omega), tk_end]
      go_wp2
      go_ret3
      exact ⟨by rw [E2.out]; rfl, rfl⟩

end Go.Proofs.Ytjbppjemilijdaa

/- The plain mathematics of numbers in so many bytes: no Go text in sight. -/
namespace Go.Proofs.Ytjbppjemilijdaa
open Go.RowKit

/-- The low bytes of a number, s of them, the lowest ahead. -/
def fx (n : Nat) (s : Nat) : List Int := (List.range s).map fun i => ((n / 256 ^ i % 256 : Nat) : Int)
/-- The number of bytes, the lowest ahead. -/
def uf : List Int → Int
  | [] => 0
  | c :: r => c + 256 * uf r

theorem fx_len (n s : Nat) : (fx n s).length = s := by simp [fx]
theorem fx_succ (n s : Nat) : fx n (s + 1) = fx n s ++ [((n / 256 ^ s % 256 : Nat) : Int)] := by
  simp [fx, List.range_succ]

theorem uf_snoc : ∀ (l : List Int) (c : Int), uf (l ++ [c]) = uf l + c * 256 ^ l.length
  | [], c => by simp [uf]
  | a :: r, c => by
    rw [List.cons_append, uf, uf, uf_snoc r c, List.length_cons, Int.pow_succ, Int.mul_add, Int.add_assoc]
    congr 2
    rw [← Int.mul_assoc, Int.mul_comm 256 c, Int.mul_assoc, Int.mul_comm 256]

theorem uf_bd : ∀ (l : List Int), (∀ c ∈ l, 0 ≤ c ∧ c ≤ 255) → 0 ≤ uf l ∧ uf l < 256 ^ l.length
  | [], _ => by simp [uf]
  | a :: r, h => by
    have ha := h a (by simp)
    have hr := uf_bd r (fun c hc => h c (by simp [hc]))
    rw [uf, List.length_cons, Int.pow_succ]
    omega

theorem uf_fx (n : Nat) : ∀ s, uf (fx n s) = ((n % 256 ^ s : Nat) : Int)
  | 0 => by simp [fx, uf]
  | s + 1 => by
    rw [fx_succ, uf_snoc, uf_fx n s, fx_len]
    have e : n % 256 ^ (s + 1) = n % 256 ^ s + n / 256 ^ s % 256 * 256 ^ s := by
      rw [Nat.pow_succ, Nat.mod_mul, Nat.mul_comm (256 ^ s)]
    rw [e]
    simp

theorem uf_fx8 (n : Int) (h0 : 0 ≤ n) (h1 : n ≤ 18446744073709551615) : uf (fx n.toNat 8) = n := by
  rw [uf_fx]
  omega

theorem fx_bd (n s : Nat) : ∀ c ∈ fx n s, 0 ≤ c ∧ c ≤ 255 := by
  intro c hc
  simp only [fx, List.mem_map] at hc
  obtain ⟨i, _, rfl⟩ := hc
  omega

theorem pow_cast8 (i : Nat) : (2 : Int) ^ (8 * i) = 256 ^ i := by
  rw [Int.pow_mul]; rfl

/-- A byte that is laid. -/
theorem fx_byte (n : Int) (k : Nat) (h0 : 0 ≤ n) : IntKind.u8.wrap (n / 2 ^ (8 * k)) = ((n.toNat / 256 ^ k % 256 : Nat) : Int) := by
  rw [IntKind.wrap_u8, pow_cast8]
  obtain ⟨m, rfl⟩ := Int.eq_ofNat_of_zero_le h0
  rw [Int.toNat_natCast, Int.natCast_emod, Int.natCast_ediv, Int.natCast_pow]
  rfl

/-- Eight bits more, above those that are there. -/
theorem uf_or (i : Nat) (x c : Int) (hi : i ≤ 7) (h0 : 0 ≤ x) (hx : x < 256 ^ i) (c0 : 0 ≤ c) (hc : c ≤ 255) :
    bits .or .u64 x (IntKind.u64.wrap (c * 2 ^ (8 * i))) = x + c * 256 ^ i := by
  have hp : (0 : Int) < 256 ^ i := Int.pow_pos (by omega)
  have hm0 : 0 ≤ c * 256 ^ i := Int.mul_nonneg c0 (by omega)
  have h7 : (256 : Int) ^ i ≤ 256 ^ 7 := by
    have h := Nat.pow_le_pow_right (show 1 ≤ 256 by decide) hi
    have e : (256 : Int) ^ i = ((256 ^ i : Nat) : Int) := (Int.natCast_pow 256 i).symm
    rw [e, show (256 : Int) ^ 7 = ((256 ^ 7 : Nat) : Int) from rfl]
    exact Int.ofNat_le.mpr h
  have e7 : (256 : Int) ^ 7 = 72057594037927936 := by decide
  rw [e7] at h7
  have hb : c * 256 ^ i ≤ 255 * 256 ^ i := Int.mul_le_mul_of_nonneg_right hc (by omega)
  have hw : IntKind.u64.wrap (c * 2 ^ (8 * i)) = c * 256 ^ i := by
    rw [pow_cast8, IntKind.wrap_u64]
    exact Int.emod_eq_of_lt hm0 (by omega)
  rw [hw, bits_or_comm, bits_join .u64 64 (by decide) (fun n h0 h1 => by rw [IntKind.wrap_u64]; omega) (8 * i) _ _ hm0 ?_ (by omega) h0 (by rw [pow_cast8]; exact hx) (by omega)]
  · omega
  · rw [pow_cast8]; exact Int.mul_emod_left _ _

/-- The row that Fixed has laid behind k rounds. -/
def frow (n : Nat) (s k : Nat) : List Value := (List.range s).map fun i => Value.int .u8 (if i < k then ((n / 256 ^ i % 256 : Nat) : Int) else 0)

theorem frow_get (n s k i : Nat) (h : i < s) : (frow n s k)[i]? = some (Value.int .u8 (if i < k then ((n / 256 ^ i % 256 : Nat) : Int) else 0)) := by
  simp [frow, h]

theorem frow_zero (n s : Nat) : (madeCells #[Value.int .u8 0] (s * 1)).toList = frow n s 0 := by
  rw [toList_madeCells_one, Nat.mul_one]
  apply List.ext_getElem?
  intro i
  by_cases h : i < s
  · rw [frow_get n s 0 i h]; simp [h]
  · simp [frow, h]

theorem frow_set (n s k : Nat) : (frow n s k).set k (Value.int .u8 ((n / 256 ^ k % 256 : Nat) : Int)) = frow n s (k + 1) := by
  apply List.ext_getElem?
  intro i
  by_cases h : i < s
  · rw [frow_get n s (k + 1) i h, List.getElem?_set]
    by_cases e : k = i
    · subst e; simp [frow, h]
    · rw [if_neg e, frow_get n s k i h]
      congr 2
      by_cases g : i < k
      · rw [if_pos g, if_pos (by omega)]
      · rw [if_neg g, if_neg (by omega)]
  · simp [frow, h]

theorem frow_end (n s : Nat) : frow n s s = (fx n s).map (Value.int .u8) := by
  apply List.ext_getElem?
  intro i
  by_cases h : i < s
  · rw [frow_get n s s i h, if_pos h]; simp [fx, h]
  · simp [frow, fx, h]

end Go.Proofs.Ytjbppjemilijdaa

/- Contracts of Fixed and Unfixed, the program's and the document's own, over the turned text. -/
namespace Go.Proofs.Ytjbppjemilijdaa
open Go.RowKit

/-- How many bytes Fixed answers. -/
def fsz (size : Int) : Nat := (min (max size 0) 8).toNat

theorem uf_take (zs : List Int) (k : Nat) (h : k < zs.length) : uf (zs.take (k + 1)) = uf (zs.take k) + zs.getD k 0 * 256 ^ k := by
  rw [List.take_succ_eq_append_getElem h, uf_snoc]
  simp [List.getD, List.getElem?_eq_getElem h, Nat.min_eq_left (Nat.le_of_lt h)]

theorem uf_take_bd (zs : List Int) (hz : ∀ i, 0 ≤ zs.getD i 0 ∧ zs.getD i 0 ≤ 255) (k : Nat) (hk : k ≤ zs.length) : 0 ≤ uf (zs.take k) ∧ uf (zs.take k) < 256 ^ k := by
  have := uf_bd (zs.take k) (fun c hc => by
    obtain ⟨i, hi, rfl⟩ := List.getElem_of_mem (List.mem_of_mem_take hc)
    have := hz i
    simpa [List.getD, List.getElem?_eq_getElem hi] using this)
  simpa [Nat.min_eq_left hk] using this

set_option maxHeartbeats 400000 in
theorem unfixed_low (b off len cap : Nat) (zs : List Int) (w : World) (hl : Hid (zs.length = len)) (hlen : (len : Int) ≤ 9223372036854775807)
    (HC : Hid (∀ i, i < len → w.cell? ⟨b, off + i, none⟩ = some (.int .u8 (zs.getD i 0)))) (HZ : Hid (∀ i, 0 ≤ zs.getD i 0 ∧ zs.getD i 0 ≤ 255)) (h8 : len ≤ 8) :
    Calls Try.prog 84 #[.slice (some ⟨b, off, none⟩) len cap] w fun e w' => e = .returned (.int .u64 (uf (zs.take len))) ∧ w = w' := by
  go_enter Try.func84, Try.ntmps84
  go_wp2
  go_loop [3, 8] (fun n i => ∃ (k : Nat) (x : Int), k ≤ len ∧ i = .int .i64 k ∧ n = .int .u64 x ∧ 0 ≤ x ∧ Hid (x < 256 ^ k) ∧ Hid (x = uf (zs.take k))) (fun _ i => 8 - (intOf i).toNat)
  case atStart => exact ⟨0, 0, Nat.zero_le _, rfl, rfl, by omega, (by show (0 : Int) < 256 ^ 0; decide), rfl⟩
  case round =>
    obtain ⟨k, x, hk, rfl, rfl, x0, Hx, HX⟩ := hrel
    by_cases hlt : k < len
    · obtain ⟨c, y, hcell, c0, c255, hor, y0, HY, HU⟩ : ∃ c y, w.cell? ⟨b, off + k, none⟩ = some (.int .u8 c) ∧ 0 ≤ c ∧ c ≤ 255 ∧ bits .or .u64 x (IntKind.u64.wrap (c * 2 ^ (8 * k))) = y ∧ 0 ≤ y ∧ Hid (y < 256 ^ (k + 1)) ∧ Hid (y = uf (zs.take (k + 1))) := by
        have hz := HZ.out k
        have hu := uf_take zs k (by rw [hl.out]; omega)
        have hb := uf_take_bd zs HZ.out (k + 1) (by rw [hl.out]; omega)
        refine ⟨zs.getD k 0, uf (zs.take (k + 1)), HC.out k (by omega), hz.1, hz.2, ?_, hb.1, hb.2, rfl⟩
        rw [hu, ← HX.out]
        exact uf_or k x _ (by omega) x0 Hx.out hz.1 hz.2
      go_wp2
      go_round
      case rel => exact ⟨k + 1, y, by omega, by go_num, rfl, y0, HY, HU⟩
      case measure => simp [intOf]; omega
    · obtain rfl : k = len := by omega
      go_wp2
      go_ret
      exact ⟨ret_int HX.out, rfl⟩

set_option maxHeartbeats 400000 in
theorem unfixed_high (b off len cap : Nat) (zs : List Int) (w : World) (hl : Hid (zs.length = len)) (hlen : (len : Int) ≤ 9223372036854775807)
    (HC : Hid (∀ i, i < len → w.cell? ⟨b, off + i, none⟩ = some (.int .u8 (zs.getD i 0)))) (HZ : Hid (∀ i, 0 ≤ zs.getD i 0 ∧ zs.getD i 0 ≤ 255)) (h8 : 8 < len) :
    Calls Try.prog 84 #[.slice (some ⟨b, off, none⟩) len cap] w fun e w' => e = .returned (.int .u64 (uf (zs.take 8))) ∧ w = w' := by
  go_enter Try.func84, Try.ntmps84
  go_wp2
  go_loop [3, 8] (fun n i => ∃ (k : Nat) (x : Int), k ≤ 8 ∧ i = .int .i64 k ∧ n = .int .u64 x ∧ 0 ≤ x ∧ Hid (x < 256 ^ k) ∧ Hid (x = uf (zs.take k))) (fun _ i => 8 - (intOf i).toNat)
  case atStart => exact ⟨0, 0, Nat.zero_le _, rfl, rfl, by omega, (by show (0 : Int) < 256 ^ 0; decide), rfl⟩
  case round =>
    obtain ⟨k, x, hk, rfl, rfl, x0, Hx, HX⟩ := hrel
    by_cases hlt : k < 8
    · obtain ⟨c, y, hcell, c0, c255, hor, y0, HY, HU⟩ : ∃ c y, w.cell? ⟨b, off + k, none⟩ = some (.int .u8 c) ∧ 0 ≤ c ∧ c ≤ 255 ∧ bits .or .u64 x (IntKind.u64.wrap (c * 2 ^ (8 * k))) = y ∧ 0 ≤ y ∧ Hid (y < 256 ^ (k + 1)) ∧ Hid (y = uf (zs.take (k + 1))) := by
        have hz := HZ.out k
        have hu := uf_take zs k (by rw [hl.out]; omega)
        have hb := uf_take_bd zs HZ.out (k + 1) (by rw [hl.out]; omega)
        refine ⟨zs.getD k 0, uf (zs.take (k + 1)), HC.out k (by omega), hz.1, hz.2, ?_, hb.1, hb.2, rfl⟩
        rw [hu, ← HX.out]
        exact uf_or k x _ (by omega) x0 Hx.out hz.1 hz.2
      go_wp2
      go_round
      case rel => exact ⟨k + 1, y, by omega, by go_num, rfl, y0, HY, HU⟩
      case measure => simp [intOf]; omega
    · obtain rfl : k = 8 := by omega
      go_wp2
      go_ret
      exact ⟨ret_int HX.out, rfl⟩

theorem unfixed_any (b off len cap : Nat) (zs : List Int) (w : World) (hl : Hid (zs.length = len)) (hlen : (len : Int) ≤ 9223372036854775807)
    (HC : Hid (∀ i, i < len → w.cell? ⟨b, off + i, none⟩ = some (.int .u8 (zs.getD i 0)))) (HZ : Hid (∀ i, 0 ≤ zs.getD i 0 ∧ zs.getD i 0 ≤ 255)) :
    Calls Try.prog 84 #[.slice (some ⟨b, off, none⟩) len cap] w fun e w' => e = .returned (.int .u64 (uf (zs.take 8))) ∧ w = w' := by
  by_cases h : len ≤ 8
  · have q := unfixed_low b off len cap zs w hl hlen HC HZ h
    rw [List.take_of_length_le (by rw [hl.out]; omega)] at q ⊢
    exact q
  · exact unfixed_high b off len cap zs w hl hlen HC HZ (by omega)

set_option maxHeartbeats 400000 in
theorem runfixed_any (b off len cap : Nat) (zs : List Int) (w : World) (hl : Hid (zs.length = len)) (_hlen : (len : Int) ≤ 9223372036854775807)
    (HC : Hid (∀ i, i < len → w.cell? ⟨b, off + i, none⟩ = some (.int .u8 (zs.getD i 0)))) (HZ : Hid (∀ i, 0 ≤ zs.getD i 0 ∧ zs.getD i 0 ≤ 255)) :
    Calls Try.prog 33 #[.slice (some ⟨b, off, none⟩) len cap] w fun e w' => e = .returned (.int .u64 (uf (zs.take 8))) ∧ w = w' := by
  go_enter Try.func33, Try.ntmps33
  go_wp2
  go_loop [3, 4] (fun n i => ∃ (k : Nat) (x : Int), k ≤ 8 ∧ k ≤ len ∧ i = .int .i64 k ∧ n = .int .u64 x ∧ 0 ≤ x ∧ Hid (x < 256 ^ k) ∧ Hid (x = uf (zs.take k))) (fun _ i => 8 - (intOf i).toNat)
  case atStart => exact ⟨0, 0, Nat.zero_le _, Nat.zero_le _, rfl, rfl, by omega, (by show (0 : Int) < 256 ^ 0; decide), rfl⟩
  case round =>
    obtain ⟨k, x, hk, hkl, rfl, rfl, x0, Hx, HX⟩ := hrel
    by_cases hlt : k < len
    · by_cases h8 : k < 8
      · obtain ⟨c, y, hcell, c0, c255, hor, y0, HY, HU⟩ : ∃ c y, w.cell? ⟨b, off + k, none⟩ = some (.int .u8 c) ∧ 0 ≤ c ∧ c ≤ 255 ∧ bits .or .u64 x (IntKind.u64.wrap (c * 2 ^ (8 * k))) = y ∧ 0 ≤ y ∧ Hid (y < 256 ^ (k + 1)) ∧ Hid (y = uf (zs.take (k + 1))) := by
          have hz := HZ.out k
          have hu := uf_take zs k (by rw [hl.out]; omega)
          have hb := uf_take_bd zs HZ.out (k + 1) (by rw [hl.out]; omega)
          refine ⟨zs.getD k 0, uf (zs.take (k + 1)), HC.out k (by omega), hz.1, hz.2, ?_, hb.1, hb.2, rfl⟩
          rw [hu, ← HX.out]
          exact uf_or k x _ (by omega) x0 Hx.out hz.1 hz.2
        go_wp2
        go_round
        case rel => exact ⟨k + 1, y, by omega, by omega, by go_num, rfl, y0, HY, HU⟩
        case measure => simp [intOf]; omega
      · have E : Hid (k = 8) := by show _ = _; omega
        go_wp2
        go_ret
        exact ⟨ret_int (by rw [HX.out, E.out]), rfl⟩
    · have E : Hid (zs.take k = zs.take 8) := by
        show _ = _
        rw [List.take_of_length_le (by rw [hl.out]; omega), List.take_of_length_le (by rw [hl.out]; omega)]
      go_wp2
      go_ret
      exact ⟨ret_int (by rw [HX.out, E.out]), rfl⟩

set_option maxHeartbeats 400000 in
theorem unfixed_none (a : Option Addr) (cap : Nat) (w : World) :
    Calls Try.prog 84 #[.slice a 0 cap] w fun e w' => e = .returned (.int .u64 0) ∧ w = w' := by
  go_enter Try.func84, Try.ntmps84
  go_wp2
  refine wp_loop_rounds 1 ?_
  rw [rounds_succ]
  go_wp2
  go_ret
  exact ⟨rfl, rfl⟩

set_option maxHeartbeats 400000 in
theorem runfixed_none (a : Option Addr) (cap : Nat) (w : World) :
    Calls Try.prog 33 #[.slice a 0 cap] w fun e w' => e = .returned (.int .u64 0) ∧ w = w' := by
  go_enter Try.func33, Try.ntmps33
  go_wp2
  refine wp_loop_rounds 1 ?_
  rw [rounds_succ]
  go_wp2
  go_ret
  exact ⟨rfl, rfl⟩

end Go.Proofs.Ytjbppjemilijdaa

/- A slice of bytes that is read: where it lies and what it holds ('Bs'); what becomes of it behind calls, cuts and conversions. -/
namespace Go.Proofs.Ytjbppjemilijdaa
open Go.RowKit







/-- The number that the bytes begin with: the document's own answer. -/
theorem rtake_bs {w : World} {a : Option Addr} {len cap : Nat} {zs : List Int} (h : Bs w a len cap zs) :
    Calls Try.prog 31 #[.slice a len cap] w fun e w' => e = tkEnd (tk 10 zs 0 0) ∧ w = w' := by
  obtain ⟨h1, h2, h3, h4, h5, h6⟩ := h
  by_cases hp : 0 < len
  · obtain ⟨b, off, rfl, _, hc⟩ := h6 hp
    exact rtake_any b off len cap zs w h1 h2 hc h3
  · have hl : len = 0 := by omega
    subst hl
    have hz : zs = [] := List.eq_nil_of_length_eq_zero h1
    subst hz
    exact rtake_none a cap w

/-- The number of the first eight: the document's own answer. -/
theorem runfixed_bs {w : World} {a : Option Addr} {len cap : Nat} {zs : List Int} (h : Bs w a len cap zs) :
    Calls Try.prog 33 #[.slice a len cap] w fun e w' => e = .returned (.int .u64 (uf (zs.take 8))) ∧ w = w' := by
  obtain ⟨h1, h2, h3, h4, h5, h6⟩ := h
  by_cases hp : 0 < len
  · obtain ⟨b, off, rfl, _, hc⟩ := h6 hp
    exact runfixed_any b off len cap zs w h1 h2 hc h3
  · have hl : len = 0 := by omega
    subst hl
    have hz : zs = [] := List.eq_nil_of_length_eq_zero h1
    subst hz
    exact runfixed_none a cap w



end Go.Proofs.Ytjbppjemilijdaa

/- The plain mathematics of a number that is put and taken again, and of one that is cut off: no Go text in sight. -/
namespace Go.Proofs.Ytjbppjemilijdaa
open Go.RowKit

theorem tk_back : ∀ (f i m : Nat) (x : Int) (more : List Int), i + f = 9 → m < 128 ^ (f + 1) → x + (m : Int) * 128 ^ i < 18446744073709551616 → 0 ≤ x →
    tk (f + 1) (vb f m ++ more) i x = (x + (m : Int) * 128 ^ i, (i : Int) + ((vb f m).length : Int), 0)
  | 0, i, m, x, more, hi, hm, hb, hx => by
    have e : i = 9 := by omega
    subst e
    have e9 : (128 : Int) ^ 9 = 9223372036854775808 := by decide
    have h1 : ¬ (9 = 9 ∧ 1 < (m : Int)) := by rw [e9] at hb; omega
    rw [vb, List.cons_append, tk_last 0 _ _ 9 x h1 (by rw [e9] at hb; omega)]
    have : (m : Int) % 128 = m := by rw [e9] at hb; omega
    rw [this]
    rfl
  | f + 1, i, m, x, more, hi, hm, hb, hx => by
    by_cases h : m < 128
    · rw [vb, if_pos h, List.cons_append, tk_last (f + 1) _ _ i x (by omega) (by omega)]
      have : (m : Int) % 128 = m := by omega
      rw [this]
      rfl
    · rw [vb, if_neg h, List.cons_append, tk_next (f + 1) _ _ i x (by omega) (by omega)]
      have e : ((m % 128 + 128 : Nat) : Int) % 128 = (m : Int) % 128 := by omega
      have hq : (m : Int) * 128 ^ i = (m : Int) % 128 * 128 ^ i + ((m / 128 : Nat) : Int) * 128 ^ (i + 1) := by
        have hm' : (m : Int) = (m : Int) % 128 + 128 * ((m / 128 : Nat) : Int) := by omega
        rw [Int.pow_succ]
        generalize (128 : Int) ^ i = p
        generalize ((m / 128 : Nat) : Int) = q at hm' ⊢
        generalize (m : Int) % 128 = r at hm' ⊢
        rw [hm', Int.add_mul, Int.mul_comm 128 q, Int.mul_assoc, Int.mul_comm 128 p]
      have hp : (0 : Int) ≤ 128 ^ i := Int.le_of_lt (Int.pow_pos (by omega))
      have hr : 0 ≤ (m : Int) % 128 * 128 ^ i := Int.mul_nonneg (by omega) hp
      rw [e, tk_back f (i + 1) (m / 128) (x + (m : Int) % 128 * 128 ^ i) more (by omega) (by rw [Nat.pow_succ] at hm; omega) (by omega) (by omega)]
      rw [hq]
      simp only [List.length_cons, Prod.mk.injEq, and_true]
      exact ⟨by omega, by omega⟩

theorem tk_put (n : Int) (more : List Int) (h0 : 0 ≤ n) (h1 : n ≤ 18446744073709551615) : tk 10 (vb 9 n.toNat ++ more) 0 0 = (n, ((vb 9 n.toNat).length : Int), 0) := by
  rw [tk_back 9 0 n.toNat 0 more (by omega) (by omega) (by simp; omega) (by omega)]
  simp
  omega

/-- Bytes that all go on are no number. -/
theorem tk_on : ∀ (l : List Int) (f i : Nat) (x : Int), (∀ c ∈ l, 128 ≤ c) → tk f l i x = (0, 0, 10)
  | [], f, i, x, _ => tk_end f i x
  | c :: r, 0, i, x, _ => rfl
  | c :: r, f + 1, i, x, h => by
    have hc : 128 ≤ c := h c (by simp)
    by_cases h9 : i = 9
    · subst h9; exact tk_bad _ c r x (by omega)
    · rw [tk_next f c r i x (by omega) (by omega)]
      exact tk_on r f (i + 1) _ (fun c hc => h c (by simp [hc]))

theorem vb_cut : ∀ (f m k : Nat), k < (vb f m).length → ∀ c ∈ (vb f m).take k, 128 ≤ c
  | 0, m, k, hk => by
    have : k = 0 := by simp [vb] at hk; omega
    subst this; simp
  | f + 1, m, k, hk => by
    rw [vb] at hk ⊢
    by_cases h : m < 128
    · rw [if_pos h] at hk ⊢
      have : k = 0 := by simp at hk; omega
      subst this; simp
    · rw [if_neg h] at hk ⊢
      cases k with
      | zero => simp
      | succ k =>
        intro c hc
        rw [List.take_succ_cons, List.mem_cons] at hc
        rcases hc with rfl | hc
        · omega
        · exact vb_cut f (m / 128) k (by simpa using hk) c hc

theorem tk_cut (n k : Nat) (h : k < (vb 9 n).length) : tk 10 ((vb 9 n).take k) 0 0 = (0, 0, 10) := tk_on _ _ _ _ (vb_cut 9 n k h)

theorem vb_bd : ∀ (f m : Nat), m < 128 ^ (f + 1) → ∀ c ∈ vb f m, 0 ≤ c ∧ c ≤ 255
  | 0, m, hm => by
    intro c hc
    simp [vb] at hc
    subst hc
    simp at hm
    omega
  | f + 1, m, hm => by
    rw [vb]
    by_cases h : m < 128
    · rw [if_pos h]; intro c hc; simp at hc; subst hc; omega
    · rw [if_neg h]
      intro c hc
      rw [List.mem_cons] at hc
      rcases hc with rfl | hc
      · omega
      · exact vb_bd f (m / 128) (by rw [Nat.pow_succ] at hm; omega) c hc

end Go.Proofs.Ytjbppjemilijdaa

/- The plain mathematics of fields on the wire: no Go text in sight. -/
namespace Go.Proofs.Ytjbppjemilijdaa
open Go.RowKit

/-- One of the four kinds. -/
def kindOk (k : Int) : Bool := k == 0 || k == 1 || k == 2 || k == 5

/-- A field's worth as bytes. -/
def wbody (kind n : Int) (zs : List Int) : List Int :=
  if kind = 0 then vb 9 n.toNat else if kind = 1 then fx n.toNat 8 else if kind = 5 then fx n.toNat 4 else vb 9 zs.length ++ zs

/-- Whether a field may be. -/
def wok (num kind : Int) : Bool := decide (1 ≤ num) && decide (num ≤ 536870911) && kindOk kind

/-- A field as bytes. -/
def wput (num kind n : Int) (zs : List Int) : List Int := if wok num kind then vb 9 (8 * num + kind).toNat ++ wbody kind n zs else []

/-- The error's number. -/
def werr (num kind : Int) : Int := if wok num kind then 0 else 20

theorem kind_cases {k : Int} (h : kindOk k = true) : k = 0 ∨ k = 1 ∨ k = 2 ∨ k = 5 := by
  simp [kindOk] at h
  omega

end Go.Proofs.Ytjbppjemilijdaa

/- Contracts of the document's own answers for a field on the wire (the reference's kind, Put), over the turned text. -/
namespace Go.Proofs.Ytjbppjemilijdaa
open Go.RowKit

set_option maxHeartbeats 400000 in
theorem rkind_any (k : Int) (w : World) :
    Calls Try.prog 32 #[.int .i64 k] w fun e w' => e = .returned (.bool (kindOk k)) ∧ w = w' := by
  by_cases h0 : k = 0
  · subst h0
    go_enter Try.func32, Try.ntmps32
    go_wp2
    go_ret
    exact ⟨rfl, rfl⟩
  · by_cases h1 : k = 1
    · subst h1
      go_enter Try.func32, Try.ntmps32
      go_wp2
      go_ret
      exact ⟨rfl, rfl⟩
    · by_cases h2 : k = 2
      · subst h2
        go_enter Try.func32, Try.ntmps32
        go_wp2
        go_ret
        exact ⟨rfl, rfl⟩
      · have e0 : (k == 0) = false := by simpa using h0
        have e1 : (k == 1) = false := by simpa using h1
        have e2 : (k == 2) = false := by simpa using h2
        have E : Hid (kindOk k = (k == 5)) := by show _ = _; simp [kindOk, e0, e1, e2]
        clear h0 h1 h2
        go_enter Try.func32, Try.ntmps32
        go_wp2
        go_ret
        exact ⟨by rw [E.out]; rfl, rfl⟩

/-- A struct of four cells in a box of the call's own, behind a call that turns nothing that was there. -/
theorem box4 {w w1 : World} {x0 x1 x2 x3 : Value} {t : TypeId} (hb : Below (w.alloc (.cells #[x0, x1, x2, x3] t)).heap.size (w.alloc (.cells #[x0, x1, x2, x3] t)) w1) :
    w1.cell? ⟨w.heap.size, 0, none⟩ = some x0 ∧ w1.cell? ⟨w.heap.size, 1, none⟩ = some x1 ∧ w1.cell? ⟨w.heap.size, 2, none⟩ = some x2 ∧ w1.cell? ⟨w.heap.size, 3, none⟩ = some x3 ∧ Below w.heap.size w w1 ∧ w.heap.size < w1.heap.size := by
  have hs : w.heap.size < (w.alloc (.cells #[x0, x1, x2, x3] t)).heap.size := by simp
  have hz := hb.size
  refine ⟨?_, ?_, ?_, ?_, (((Below.refl _ _).alloc (Nat.le_refl _) _).trans (hb.mono (by omega))), by omega⟩
  all_goals (rw [hb.cell hs]; simp)

end Go.Proofs.Ytjbppjemilijdaa

/- The plain mathematics of taking a field from the wire: no Go text in sight. -/
namespace Go.Proofs.Ytjbppjemilijdaa
open Go.RowKit

/-- What 'tk' answers: a number, and how many bytes; or nothing, and the error. -/
theorem tk_shape : ∀ (f : Nat) (zs : List Int) (i : Nat) (x : Int), i + f = 10 → (∀ c ∈ zs, 0 ≤ c ∧ c ≤ 255) → 0 ≤ x → x < 128 ^ i →
    tk f zs i x = (0, 0, 10) ∨ ∃ (n : Int) (m : Nat), tk f zs i x = (n, (m : Int), 0) ∧ 0 ≤ n ∧ n ≤ 18446744073709551615 ∧ i < m ∧ m ≤ i + zs.length ∧ m ≤ 10
  | 0, zs, i, x, _, _, _, _ => .inl rfl
  | f + 1, [], i, x, _, _, _, _ => .inl rfl
  | f + 1, c :: r, i, x, hi, hb, h0, hx => by
    have hc := hb c (by simp)
    by_cases hbad : i = 9 ∧ 1 < c
    · obtain ⟨rfl, h1⟩ := hbad
      exact .inl (tk_bad _ _ _ _ h1)
    · obtain ⟨_, z0, zl, zm⟩ := tk_or i x c (by omega) h0 hx hc.1 hc.2 hbad
      by_cases hl : c < 128
      · rw [tk_last f c r i x hbad hl]
        exact .inr ⟨_, i + 1, by simp, z0, zm, by omega, by simp, by omega⟩
      · rw [tk_next f c r i x hbad hl]
        rcases tk_shape f r (i + 1) _ (by omega) (fun c hc => hb c (by simp [hc])) z0 zl with h | ⟨n, m, h1, h2, h3, h4, h5, h6⟩
        · exact .inl h
        · exact .inr ⟨n, m, h1, h2, h3, by omega, by simp; omega, h6⟩

theorem tk_ways (zs : List Int) (hb : ∀ c ∈ zs, 0 ≤ c ∧ c ≤ 255) :
    tk 10 zs 0 0 = (0, 0, 10) ∨ ∃ (n : Int) (m : Nat), tk 10 zs 0 0 = (n, (m : Int), 0) ∧ 0 ≤ n ∧ n ≤ 18446744073709551615 ∧ 0 < m ∧ m ≤ zs.length ∧ m ≤ 10 := by
  rcases tk_shape 10 zs 0 0 (by omega) hb (by omega) (by decide) with h | ⟨n, m, h1, h2, h3, h4, h5, h6⟩
  · exact .inl h
  · exact .inr ⟨n, m, h1, h2, h3, h4, by omega, h6⟩

/-- A field that was taken: its number, its kind, its worth, its bytes; how many bytes it takes; the error's number. -/
structure Tkn where
  num : Int
  kind : Int
  n : Int
  zs : List Int
  used : Int
  err : Int

def Tkn.no (e : Int) : Tkn := ⟨0, 0, 0, [], 0, e⟩

/-- Whether a tag may be. -/
def tagOk (tag : Int) : Bool := decide (tag < 4294967296) && decide (8 ≤ tag) && kindOk (tag % 8)

/-- What stands behind a tag of m bytes. -/
def wworth (tag : Int) (m : Nat) (rest : List Int) : Tkn :=
  if tag % 8 = 1 then (if rest.length < 8 then .no 21 else ⟨tag / 8, 1, uf (rest.take 8), [], (m : Int) + 8, 0⟩)
  else if tag % 8 = 5 then (if rest.length < 4 then .no 21 else ⟨tag / 8, 5, uf (rest.take 4), [], (m : Int) + 4, 0⟩)
  else if (tk 10 rest 0 0).2.2 = 0 then
    (if tag % 8 = 0 then ⟨tag / 8, 0, (tk 10 rest 0 0).1, [], (m : Int) + (tk 10 rest 0 0).2.1, 0⟩
    else if (tk 10 rest 0 0).1 ≤ (rest.length : Int) - (tk 10 rest 0 0).2.1 then
      ⟨tag / 8, 2, 0, (rest.take ((tk 10 rest 0 0).2.1 + (tk 10 rest 0 0).1).toNat).drop (tk 10 rest 0 0).2.1.toNat, (m : Int) + (tk 10 rest 0 0).2.1 + (tk 10 rest 0 0).1, 0⟩
    else .no 21)
  else .no 10

/-- The field that bytes begin with. -/
def wtake (zs : List Int) : Tkn :=
  if (tk 10 zs 0 0).2.2 = 0 then
    (if tagOk (tk 10 zs 0 0).1 then wworth (tk 10 zs 0 0).1 (tk 10 zs 0 0).2.1.toNat (zs.drop (tk 10 zs 0 0).2.1.toNat) else .no 20)
  else .no 10

end Go.Proofs.Ytjbppjemilijdaa
