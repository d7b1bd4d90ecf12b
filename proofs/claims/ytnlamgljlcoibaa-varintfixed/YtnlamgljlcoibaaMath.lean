/- The plain mathematics of numbers as bytes: no Go text in sight. It proves nothing of the program by itself. -/
import Derived.Lib.BitFns
import Derived.WalkKit
import Derived.Laws.BitsAllLaws
namespace Go.Proofs.Ytnlamgljlcoibaa
open Go.RowKit

/-- The bytes of a number, seven bits a byte, the lowest ahead (at most 'f' + 1 of them). -/
def vb : Nat → Nat → List Int
  | 0, n => [(n : Int)]
  | f + 1, n => if n < 128 then [(n : Int)] else ((n % 128 + 128 : Nat) : Int) :: vb f (n / 128)

theorem vb_pos : ∀ (f n : Nat), 1 ≤ (vb f n).length
  | 0, n => by simp [vb]
  | f + 1, n => by
    unfold vb
    split <;> simp

theorem vb_len_le : ∀ (f n : Nat), (vb f n).length ≤ f + 1
  | 0, n => by simp [vb]
  | f + 1, n => by
    have := vb_len_le f (n / 128)
    unfold vb
    split <;> simp <;> omega

/-- How many bytes: by the number of bits. -/
theorem vb_bits : ∀ (f x : Nat), 1 ≤ x → x < 18446744073709551616 → x < 128 ^ (f + 1) → (Lib.bitLen x + 6) / 7 = (vb f x).length
  | 0, x, h1, h2, h3 => by
    have a := Lib.bitLen_le x 7 (by omega) (by simpa using h3)
    have b := Lib.bitLen_half x (by omega) (by simpa using h2)
    simp [vb]
    omega
  | f + 1, x, h1, h2, h3 => by
    unfold vb
    by_cases h : x < 128
    · have a := Lib.bitLen_le x 7 (by omega) (by simpa using h)
      have b := Lib.bitLen_half x (by omega) (by simpa using h2)
      rw [if_pos h]
      simp
      omega
    · have a := Lib.bitLen_shift 7 x (by omega) (by simpa using h2)
      have e : (2 : Nat) ^ 7 = 128 := by decide
      rw [e] at a
      have b := vb_bits f (x / 128) (by omega) (by omega) (by rw [Nat.pow_succ] at h3; omega)
      rw [if_neg h, a]
      simp only [List.length_cons]
      omega

theorem or_one (a : Nat) : a ||| 1 = a / 2 * 2 + 1 := by
  have h1 : (a ||| 1) / 2 = a / 2 := by rw [Nat.or_div_two]; simp
  have h2 : (a ||| 1) % 2 = 1 := by rw [Nat.or_mod_two_eq_one]; omega
  omega

theorem bits_or_one (n : Int) (h0 : 0 ≤ n) (h1 : n ≤ 18446744073709551615) : bits .or .u64 n 1 = n / 2 * 2 + 1 := by
  have e := u64_or n 1 h0 (by omega) (by omega) (by omega)
  have e1 : (1 : Int).toNat = 1 := rfl
  rw [e, e1, or_one]
  omega

theorem vb_odd (n : Nat) : (vb 9 (n / 2 * 2 + 1)).length = (vb 9 n).length := by
  show (vb (8 + 1) (n / 2 * 2 + 1)).length = (vb (8 + 1) n).length
  unfold vb
  by_cases h : n < 128
  · rw [if_pos h, if_pos (by omega)]; simp
  · rw [if_neg h, if_neg (by omega)]
    have : (n / 2 * 2 + 1) / 128 = n / 128 := by omega
    simp [this]

theorem size_eq (n : Int) (h0 : 0 ≤ n) (h1 : n ≤ 18446744073709551615) : ((Lib.bitLen (n / 2 * 2 + 1).toNat : Int) + 6) / 7 = ((vb 9 n.toNat).length : Int) := by
  have e : (n / 2 * 2 + 1).toNat = n.toNat / 2 * 2 + 1 := by omega
  rw [e, ← vb_odd, ← vb_bits 9 _ (by omega) (by omega) (by omega)]
  omega

/-- What lies at each place. -/
theorem vb_at : ∀ (f n i : Nat), n < 128 ^ (f + 1) → i < (vb f n).length →
    (vb f n)[i]? = some (if i + 1 < (vb f n).length then ((n / 128 ^ i % 128 + 128 : Nat) : Int) else ((n / 128 ^ i : Nat) : Int))
  | 0, n, i, hn, hi => by
    have : i = 0 := by simp [vb] at hi; omega
    subst this
    simp [vb]
  | f + 1, n, i, hn, hi => by
    unfold vb at hi ⊢
    by_cases h : n < 128
    · rw [if_pos h] at hi ⊢
      have : i = 0 := by simp at hi; omega
      subst this
      simp
    · rw [if_neg h] at hi ⊢
      cases i with
      | zero =>
        have := vb_pos f (n / 128)
        simp
        intro hx; rw [hx] at this; simp at this
      | succ i =>
        have ih := vb_at f (n / 128) i (by rw [Nat.pow_succ] at hn; omega) (by simp at hi; omega)
        have e : n / 128 ^ (i + 1) = n / 128 / 128 ^ i := by rw [Nat.pow_succ, Nat.mul_comm, Nat.div_div_eq_div_mul]
        simp only [List.getElem?_cons_succ, List.length_cons, Nat.add_lt_add_iff_right, e]
        exact ih

/-- The last byte is below 128. -/
theorem vb_last : ∀ (f n : Nat), n < 128 ^ (f + 1) → n / 128 ^ ((vb f n).length - 1) < 128
  | 0, n, hn => by simp [vb]; simpa using hn
  | f + 1, n, hn => by
    unfold vb
    by_cases h : n < 128
    · rw [if_pos h]; simpa using h
    · rw [if_neg h]
      have ih := vb_last f (n / 128) (by rw [Nat.pow_succ] at hn; omega)
      have p := vb_pos f (n / 128)
      have e : (((n % 128 + 128 : Nat) : Int) :: vb f (n / 128)).length - 1 = (vb f (n / 128)).length - 1 + 1 := by simp; omega
      rw [e, Nat.pow_succ, Nat.mul_comm, ← Nat.div_div_eq_div_mul]
      exact ih

theorem or128 : ∀ a : Fin 256, a.val ||| 128 = a.val % 128 + 128 := by decide +kernel
theorem and127 : ∀ a : Fin 256, a.val &&& 127 = a.val % 128 := by decide +kernel
theorem and128 : ∀ a : Fin 256, a.val &&& 128 = a.val / 128 * 128 := by decide +kernel

theorem bits_or128 (x : Int) : bits .or .u8 (x % 256) 128 = x % 128 + 128 := by
  have e := u8_or (x % 256) 128 (by omega) (by omega) (by omega) (by omega)
  have o := or128 ⟨(x % 256).toNat, by omega⟩
  have e1 : (128 : Int).toNat = 128 := rfl
  rw [e, e1]
  simp only at o
  rw [o]
  omega

theorem bits_and127 (x : Int) (h0 : 0 ≤ x) (h1 : x < 256) : bits .and .u8 x 127 = x % 128 := by
  have e := u8_and x 127 h0 h1 (by omega) (by omega)
  have o := and127 ⟨x.toNat, by omega⟩
  have e1 : (127 : Int).toNat = 127 := rfl
  rw [e, e1]
  simp only at o
  rw [o]
  omega

theorem bits_and128 (x : Int) (h0 : 0 ≤ x) (h1 : x < 256) : bits .and .u8 x 128 = x / 128 * 128 := by
  have e := u8_and x 128 h0 h1 (by omega) (by omega)
  have o := and128 ⟨x.toNat, by omega⟩
  have e1 : (128 : Int).toNat = 128 := rfl
  rw [e, e1]
  simp only at o
  rw [o]
  omega

/-- The table's byte: how many bits its place wants. -/
theorem tab_at (m : Nat) (h : m < Lib.len8tab.size) : (Lib.len8tab[m].toNat : Int) = (Lib.bitLen m : Int) ∧ Lib.bitLen m ≤ 8 := by
  have hs := Lib.len8tab_size
  have e := Lib.len8_eq ⟨m, by omega⟩
  have l := Lib.bitLen_le8 ⟨m, by omega⟩
  simp only [Lib.len8, Int.toNat_natCast] at e l
  rw [getElem?_pos Lib.len8tab m h] at e
  exact ⟨by simpa using e, l⟩

theorem len_close (C : Nat) (x : Nat) (y : Int) (hy : y.toNat < Lib.len8tab.size) (hC : C ≤ 56) (hx : x < 18446744073709551616) (h : y.toNat = x / 2 ^ C) (h1 : 2 ^ C ≤ x ∨ C = 0) :
    wrap64 ((C : Int) + wrap64 ((Lib.len8tab[y.toNat].toNat : Nat) : Int)) = (Lib.bitLen x : Int) := by
  obtain ⟨a, b⟩ := tab_at y.toNat hy
  rw [a]
  have e : Lib.bitLen x = C + Lib.bitLen y.toNat := by
    rcases h1 with h1 | h1
    · rw [h]; exact Lib.bitLen_shift C x h1 (by simpa using hx)
    · subst h1; rw [h]; simp
  unfold wrap64
  omega

/-- The row that Put has laid behind k rounds. -/
def prow (n : Nat) (L k : Nat) : List Value := (List.range L).map fun i => Value.int .u8 (if i < k then ((n / 128 ^ i % 128 + 128 : Nat) : Int) else 0)

theorem prow_get (n L k i : Nat) (h : i < L) : (prow n L k)[i]? = some (Value.int .u8 (if i < k then ((n / 128 ^ i % 128 + 128 : Nat) : Int) else 0)) := by
  simp [prow, h]

theorem prow_zero (n L : Nat) : (madeCells #[Value.int .u8 0] (L * 1)).toList = prow n L 0 := by
  rw [toList_madeCells_one, Nat.mul_one]
  apply List.ext_getElem?
  intro i
  by_cases h : i < L
  · rw [prow_get n L 0 i h]; simp [h]
  · simp [prow, h]

theorem prow_set (n L k : Nat) (_h : k < L) : (prow n L k).set k (Value.int .u8 ((n / 128 ^ k % 128 + 128 : Nat) : Int)) = prow n L (k + 1) := by
  apply List.ext_getElem?
  intro i
  by_cases h : i < L
  · rw [prow_get n L (k + 1) i h, List.getElem?_set]
    by_cases e : k = i
    · subst e; simp [prow, h]
    · rw [if_neg e, prow_get n L k i h]
      congr 2
      by_cases g : i < k
      · rw [if_pos g, if_pos (by omega)]
      · rw [if_neg g, if_neg (by omega)]
  · simp [prow, h]

theorem prow_end (n L : Nat) (hL : (vb 9 n).length = L) (hn : n < 18446744073709551616) :
    (prow n L L).set (L - 1) (Value.int .u8 ((n / 128 ^ (L - 1) : Nat) : Int)) = (vb 9 n).map (Value.int .u8) := by
  subst hL
  have p := vb_pos 9 n
  apply List.ext_getElem?
  intro i
  by_cases h : i < (vb 9 n).length
  · rw [List.getElem?_map, vb_at 9 n i (by omega) h, List.getElem?_set]
    by_cases e : (vb 9 n).length - 1 = i
    · subst e
      rw [if_pos rfl, if_pos (by simp [prow]; omega), if_neg (by omega)]
      rfl
    · rw [if_neg e, prow_get n _ _ i h, if_pos h, if_pos (by omega)]
      rfl
  · simp [prow, h]

theorem shr_by (n : Int) (c k : Nat) (h : c * k ≤ 64) : Op.shift .shr .u64 n .i64 ((c : Int) * (k : Int)) = pure (.int .u64 (n / 2 ^ (c * k))) := by
  rw [← Int.natCast_mul, shift_shr .u64 .i64 n _ (by omega) (by simp only [IntKind.bits]; omega)]
  rfl

/-- A byte that is laid: its seven bits, and the mark. -/
theorem put_byte (n : Int) (k : Nat) (h0 : 0 ≤ n) : bits .or .u8 (IntKind.u8.wrap (n / 2 ^ (7 * k))) 128 = ((n.toNat / 128 ^ k % 128 + 128 : Nat) : Int) := by
  rw [IntKind.wrap_u8, bits_or128]
  have e : (2 : Int) ^ (7 * k) = ((128 ^ k : Nat) : Int) := by
    rw [Int.pow_mul]; simp
  rw [e]
  obtain ⟨m, rfl⟩ := Int.eq_ofNat_of_zero_le h0
  simp

theorem put_last (n L : Nat) (hL : (vb 9 n).length = L) (hn : n < 18446744073709551616) :
    bits .and .u8 ((n / 128 ^ (L - 1) % 128 + 128 : Nat) : Int) 127 = ((n / 128 ^ (L - 1) : Nat) : Int) := by
  have h := vb_last 9 n (by omega)
  rw [hL] at h
  generalize n / 128 ^ (L - 1) = q at h ⊢
  rw [bits_and127 _ (by omega) (by omega)]
  omega

/-- The number with a sign, folded. -/
def zg (n : Int) : Int := if n < 0 then 2 * -(n + 1) + 1 else 2 * n
/-- And back. -/
def zb (n : Int) : Int := if n % 2 = 1 then -(n / 2) - 1 else n / 2

theorem xor_zero (k : IntKind) (x : Int) : bits .xor k x 0 = k.wrap ((BitVec.ofInt k.bits x).toNat) := by
  simp [bits]

theorem xor_ones (x : Int) : bits .xor .u64 x 18446744073709551615 = IntKind.u64.wrap ((18446744073709551615 - (BitVec.ofInt 64 x).toNat : Nat) : Int) := by
  have e : BitVec.ofInt 64 18446744073709551615 = BitVec.allOnes 64 := by decide
  show IntKind.u64.wrap ((BitVec.ofInt 64 x ^^^ BitVec.ofInt 64 18446744073709551615).toNat : Int) = _
  rw [e, BitVec.xor_allOnes, BitVec.toNat_not]

theorem xor_ones_i (x : Int) : bits .xor .i64 x (-1) = IntKind.i64.wrap ((18446744073709551615 - (BitVec.ofInt 64 x).toNat : Nat) : Int) := by
  have e : BitVec.ofInt 64 (-1) = BitVec.allOnes 64 := by decide
  show IntKind.i64.wrap ((BitVec.ofInt 64 x ^^^ BitVec.ofInt 64 (-1)).toNat : Int) = _
  rw [e, BitVec.xor_allOnes, BitVec.toNat_not]

theorem zig_eq (n : Int) (h0 : -9223372036854775808 ≤ n) (h1 : n ≤ 9223372036854775807) :
    bits .xor .u64 (IntKind.u64.wrap (wrap64 (n * 2))) (IntKind.u64.wrap (n / 9223372036854775808)) = zg n := by
  unfold zg
  by_cases h : n < 0
  · have e : n / 9223372036854775808 = -1 := by omega
    have e1 : IntKind.u64.wrap (-1) = 18446744073709551615 := by decide
    rw [e, e1, if_pos h, xor_ones, IntKind.wrap_u64, IntKind.wrap_u64, BitVec.toNat_ofInt]
    unfold wrap64
    simp only [Nat.reducePow]
    omega
  · have e : n / 9223372036854775808 = 0 := by omega
    have e1 : IntKind.u64.wrap 0 = 0 := by decide
    rw [e, e1, if_neg h, xor_zero, IntKind.wrap_u64, IntKind.wrap_u64, BitVec.toNat_ofInt]
    unfold wrap64
    simp only [IntKind.bits, Nat.reducePow]
    omega

theorem and_one (n : Int) (h0 : 0 ≤ n) (h1 : n ≤ 18446744073709551615) : bits .and .u64 n 1 = n % 2 := by
  have e := u64_and n 1 h0 (by omega) (by omega) (by omega)
  have e1 : (1 : Int).toNat = 1 := rfl
  rw [e, e1, Nat.and_one_is_mod]
  omega

theorem zag_eq (n : Int) (h0 : 0 ≤ n) (h1 : n ≤ 18446744073709551615) :
    bits .xor .i64 (n / 2) (wrap64 (-wrap64 (bits .and .u64 n 1))) = zb n := by
  rw [and_one n h0 h1]
  unfold zb
  by_cases h : n % 2 = 1
  · have e : wrap64 (-wrap64 1) = -1 := by unfold wrap64; omega
    rw [h, e, if_pos rfl, xor_ones_i, Go.IntKind.wrap_i64, BitVec.toNat_ofInt]
    simp only [Nat.reducePow]
    omega
  · have e : n % 2 = 0 := by omega
    have e1 : wrap64 (-wrap64 0) = 0 := by unfold wrap64; omega
    rw [e, e1, if_neg (by omega), xor_zero, Go.IntKind.wrap_i64, BitVec.toNat_ofInt]
    simp only [IntKind.bits, Nat.reducePow]
    omega

theorem zg_bd (n : Int) (h0 : -9223372036854775808 ≤ n) (h1 : n ≤ 9223372036854775807) : 0 ≤ zg n ∧ zg n ≤ 18446744073709551615 := by
  unfold zg; split <;> omega
theorem zb_bd (n : Int) (h0 : 0 ≤ n) (h1 : n ≤ 18446744073709551615) : -9223372036854775808 ≤ zb n ∧ zb n ≤ 9223372036854775807 := by
  unfold zb; split <;> omega
theorem zb_zg (n : Int) : zb (zg n) = n := by
  unfold zb zg; split <;> split <;> omega
theorem zg_zb (n : Int) (h0 : 0 ≤ n) : zg (zb n) = n := by
  unfold zb zg; split <;> split <;> omega

end Go.Proofs.Ytnlamgljlcoibaa
