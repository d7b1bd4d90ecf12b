/- The plain mathematics of a number that is put and taken again, and of one that is cut off: no Go text in sight. -/
import Derived.Test.YtnlamgljlcoibaaTkMath
namespace Go.Proofs.Ytnlamgljlcoibaa
open Go.RowKit

theorem tk_back : ∀ (f i m : Nat) (x : Int) (more : List Int), i + f = 9 → m < 128 ^ (f + 1) → x + (m : Int) * 128 ^ i < 18446744073709551616 → 0 ≤ x →
    tk (f + 1) (vb f m ++ more) i x = (x + (m : Int) * 128 ^ i, (i : Int) + ((vb f m).length : Int), 0)
  | 0, i, m, x, more, hi, hm, hb, hx => by
    have e : i = 9 := by omega
    subst e
    have e9 : (128 : Int) ^ 9 = 9223372036854775808 := by decide
    have h1 : ¬ (9 = 9 ∧ 1 < (m : Int)) := by rw [e9] at hb; omega
    rw [vb, List.cons_append, tk_last 0 _ _ 9 x h1 (by rw [e9] at hb; omega)]
    have : (m : Int) % 128 = m := by rw [e9] at hb; omega
    rw [this]
    rfl
  | f + 1, i, m, x, more, hi, hm, hb, hx => by
    by_cases h : m < 128
    · rw [vb, if_pos h, List.cons_append, tk_last (f + 1) _ _ i x (by omega) (by omega)]
      have : (m : Int) % 128 = m := by omega
      rw [this]
      rfl
    · rw [vb, if_neg h, List.cons_append, tk_next (f + 1) _ _ i x (by omega) (by omega)]
      have e : ((m % 128 + 128 : Nat) : Int) % 128 = (m : Int) % 128 := by omega
      have hq : (m : Int) * 128 ^ i = (m : Int) % 128 * 128 ^ i + ((m / 128 : Nat) : Int) * 128 ^ (i + 1) := by
        have hm' : (m : Int) = (m : Int) % 128 + 128 * ((m / 128 : Nat) : Int) := by omega
        rw [Int.pow_succ]
        generalize (128 : Int) ^ i = p
        generalize ((m / 128 : Nat) : Int) = q at hm' ⊢
        generalize (m : Int) % 128 = r at hm' ⊢
        rw [hm', Int.add_mul, Int.mul_comm 128 q, Int.mul_assoc, Int.mul_comm 128 p]
      have hp : (0 : Int) ≤ 128 ^ i := Int.le_of_lt (Int.pow_pos (by omega))
      have hr : 0 ≤ (m : Int) % 128 * 128 ^ i := Int.mul_nonneg (by omega) hp
      rw [e, tk_back f (i + 1) (m / 128) (x + (m : Int) % 128 * 128 ^ i) more (by omega) (by rw [Nat.pow_succ] at hm; omega) (by omega) (by omega)]
      rw [hq]
      simp only [List.length_cons, Prod.mk.injEq, and_true]
      exact ⟨by omega, by omega⟩

theorem tk_put (n : Int) (more : List Int) (h0 : 0 ≤ n) (h1 : n ≤ 18446744073709551615) : tk 10 (vb 9 n.toNat ++ more) 0 0 = (n, ((vb 9 n.toNat).length : Int), 0) := by
  rw [tk_back 9 0 n.toNat 0 more (by omega) (by omega) (by simp; omega) (by omega)]
  simp
  omega

/-- Bytes that all go on are no number. -/
theorem tk_on : ∀ (l : List Int) (f i : Nat) (x : Int), (∀ c ∈ l, 128 ≤ c) → tk f l i x = (0, 0, 10)
  | [], f, i, x, _ => tk_end f i x
  | c :: r, 0, i, x, _ => rfl
  | c :: r, f + 1, i, x, h => by
    have hc : 128 ≤ c := h c (by simp)
    by_cases h9 : i = 9
    · subst h9; exact tk_bad _ c r x (by omega)
    · rw [tk_next f c r i x (by omega) (by omega)]
      exact tk_on r f (i + 1) _ (fun c hc => h c (by simp [hc]))

theorem vb_cut : ∀ (f m k : Nat), k < (vb f m).length → ∀ c ∈ (vb f m).take k, 128 ≤ c
  | 0, m, k, hk => by
    have : k = 0 := by simp [vb] at hk; omega
    subst this; simp
  | f + 1, m, k, hk => by
    rw [vb] at hk ⊢
    by_cases h : m < 128
    · rw [if_pos h] at hk ⊢
      have : k = 0 := by simp at hk; omega
      subst this; simp
    · rw [if_neg h] at hk ⊢
      cases k with
      | zero => simp
      | succ k =>
        intro c hc
        rw [List.take_succ_cons, List.mem_cons] at hc
        rcases hc with rfl | hc
        · omega
        · exact vb_cut f (m / 128) k (by simpa using hk) c hc

theorem tk_cut (n k : Nat) (h : k < (vb 9 n).length) : tk 10 ((vb 9 n).take k) 0 0 = (0, 0, 10) := tk_on _ _ _ _ (vb_cut 9 n k h)

theorem vb_bd : ∀ (f m : Nat), m < 128 ^ (f + 1) → ∀ c ∈ vb f m, 0 ≤ c ∧ c ≤ 255
  | 0, m, hm => by
    intro c hc
    simp [vb] at hc
    subst hc
    simp at hm
    omega
  | f + 1, m, hm => by
    rw [vb]
    by_cases h : m < 128
    · rw [if_pos h]; intro c hc; simp at hc; subst hc; omega
    · rw [if_neg h]
      intro c hc
      rw [List.mem_cons] at hc
      rcases hc with rfl | hc
      · omega
      · exact vb_bd f (m / 128) (by rw [Nat.pow_succ] at hm; omega) c hc

end Go.Proofs.Ytnlamgljlcoibaa
