/- The contract of the document's own decimal digits (the reference's Digits), over the turned text. -/
import Derived.Test.YtjkcmcefmciinaaDoorQNum
namespace Go.Proofs.YtjkcmcefmciinaaDoor
open Go.RowKit
set_option linter.unusedVariables false

/-- What holds at a round's beginning: the number that is left, the digits that are there, how many more there may be. -/
def DigJ (N n : Int) (D : List Int) (f : Nat) : Prop :=
  (D = [] ∧ n = N ∧ f = 20) ∨ (D ≠ [] ∧ n = 0 ∧ qdg 20 N = D) ∨ (D ≠ [] ∧ 0 < n ∧ qdg 20 N = qdg f n ++ D)

theorem DigJ.step {N n : Int} {D : List Int} {f : Nat} (h : DigJ N n D (f + 1)) (hn : 0 ≤ n) (hgo : 0 < n ∨ D = []) : DigJ N (n / 10) ((48 + n % 10) :: D) f := by
  have key : ∀ t, qdg 20 N = qdg (f + 1) n ++ t → DigJ N (n / 10) ((48 + n % 10) :: t) f := by
    intro t e
    by_cases k : n < 10
    · refine .inr (.inl ⟨by simp, by omega, ?_⟩)
      rw [e, qdg_ten f n k, show n % 10 = n by omega]
      rfl
    · refine .inr (.inr ⟨by simp, by omega, ?_⟩)
      rw [e, qdg_more f n (by omega)]
      simp
  rcases h with ⟨rfl, rfl, h⟩ | ⟨h1, h2, _⟩ | ⟨_, h2, h3⟩
  · exact key [] (by rw [h]; simp)
  · rcases hgo with h | h
    · omega
    · exact absurd h h1
  · exact key D h3

end Go.Proofs.YtjkcmcefmciinaaDoor
