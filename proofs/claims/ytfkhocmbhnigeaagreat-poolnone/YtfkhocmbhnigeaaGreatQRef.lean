/- The contracts of the document's own answers on digits (the reference's digit, run), over the turned text. -/
import Derived.Test.YtfkhocmbhnigeaaGreatURef
import Derived.Test.YtfkhocmbhnigeaaGreatQMath
namespace Go.Proofs.YtfkhocmbhnigeaaGreat
open Go.RowKit

/-- A byte of a text. -/
theorem str_at (zs : List Int) (hz : ∀ i, 0 ≤ zs.getD i 0 ∧ zs.getD i 0 ≤ 255) (k : Nat) (h : k < (strOfNums zs).size) : (((strOfNums zs)[k]'h).toNat : Int) = zs.getD k 0 := by
  have hk : k < zs.length := by rw [strOfNums_size] at h; exact h
  have := hz k
  show ((((zs.map fun n => UInt8.ofNat n.toNat).toArray)[k]'(by simpa using hk)).toNat : Int) = _
  simp only [List.getElem_toArray, List.getElem_map]
  simp only [List.getD, List.getElem?_eq_getElem hk, Option.getD_some] at this ⊢
  simp
  omega

theorem qrn_stop (base : Int) (f : Nat) (zs : List Int) (k : Nat) (n : Int) (h : zs.length ≤ k ∨ f = 0 ∨ base ≤ dgt (zs.getD k 0)) : qrn base f (zs.drop k) n = (n, 0) := by
  cases f with
  | zero => rfl
  | succ f =>
    rcases Nat.lt_or_ge k zs.length with hk | hk
    · rw [List.drop_eq_getElem_cons hk, qrn, if_neg]
      have : zs[k] = zs.getD k 0 := by simp [List.getD, List.getElem?_eq_getElem hk]
      rw [this]
      omega
    · rw [List.drop_eq_nil_of_le hk]; rfl

theorem qrn_step (base : Int) (f : Nat) (zs : List Int) (k : Nat) (n : Int) (hk : k < zs.length) (h : dgt (zs.getD k 0) < base) :
    qrn base (f + 1) (zs.drop k) n = ((qrn base f (zs.drop (k + 1)) (n * base + dgt (zs.getD k 0))).1, (qrn base f (zs.drop (k + 1)) (n * base + dgt (zs.getD k 0))).2 + 1) := by
  have e : zs[k] = zs.getD k 0 := by simp [List.getD, List.getElem?_eq_getElem hk]
  rw [List.drop_eq_getElem_cons hk, qrn, e, if_pos h]

theorem dgt_1 {c : Int} (h : 48 ≤ c ∧ c ≤ 57) : dgt c = c - 48 := by unfold dgt; rw [if_pos h]

theorem dgt_2 {c : Int} (h : 97 ≤ c ∧ c ≤ 102) : dgt c = c - 87 := by unfold dgt; rw [if_neg (by omega), if_pos h]

theorem dgt_3 {c : Int} (h : 65 ≤ c ∧ c ≤ 70) : dgt c = c - 55 := by unfold dgt; rw [if_neg (by omega), if_neg (by omega), if_pos h]

theorem dgt_4 {c : Int} (h1 : ¬ (48 ≤ c ∧ c ≤ 57)) (h2 : ¬ (97 ≤ c ∧ c ≤ 102)) (h3 : ¬ (65 ≤ c ∧ c ≤ 70)) : dgt c = 99 := by unfold dgt; rw [if_neg h1, if_neg h2, if_neg h3]

end Go.Proofs.YtfkhocmbhnigeaaGreat
