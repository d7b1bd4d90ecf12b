/- The contract of the document's own decimal digits (the reference's Digits), over the turned text. -/
import Derived.Test.YtilcaihfoelapaaDoorQNum
namespace Go.Proofs.YtilcaihfoelapaaDoor
open Go.RowKit
set_option linter.unusedVariables false

/-- What holds at a round's beginning: the number that is left, the digits that are there, how many more there may be. -/
def DigJ (N n : Int) (D : List Int) (f : Nat) : Prop :=
  (D = [] ∧ n = N ∧ f = 20) ∨ (D ≠ [] ∧ n = 0 ∧ qdg 20 N = D) ∨ (D ≠ [] ∧ 0 < n ∧ qdg 20 N = qdg f n ++ D)

theorem DigJ.step {N n : Int} {D : List Int} {f : Nat} (h : DigJ N n D (f + 1)) (hn : 0 ≤ n) (hgo : 0 < n ∨ D = []) : DigJ N (n / 10) ((48 + n % 10) :: D) f := by
  have key : ∀ t, qdg 20 N = qdg (f + 1) n ++ t → DigJ N (n / 10) ((48 + n % 10) :: t) f := by
    intro t e
    by_cases k : n < 10
    · refine .inr (.inl ⟨by simp, by omega, ?_⟩)
      rw [e, qdg_ten f n k, show n % 10 = n by omega]
      rfl
    · refine .inr (.inr ⟨by simp, by omega, ?_⟩)
      rw [e, qdg_more f n (by omega)]
      simp
  rcases h with ⟨rfl, rfl, h⟩ | ⟨h1, h2, _⟩ | ⟨_, h2, h3⟩
  · exact key [] (by rw [h]; simp)
  · rcases hgo with h | h
    · omega
    · exact absurd h h1
  · exact key D h3

set_option maxHeartbeats 1000000 in
theorem rdig_any (N : Int) (w : World) (h0 : 0 ≤ N) (h1 : N ≤ 18446744073709551615) :
    Calls Tryd.prog 17 #[.int .u64 N] w fun e w' => e = .returned (.string (strOfNums (qdg 20 N))) ∧ w = w' := by
  go_enter Tryd.func17, Tryd.ntmps17
  go_wp2
  go_loopw [0, 3] (fun m v wr => ∃ (n : Int) (D : List Int) (f : Nat), m = .int .u64 n ∧ v = .string (strOfNums D) ∧ 0 ≤ n ∧ n ≤ 18446744073709551615 ∧ D.length + f ≤ 20 ∧ Hid (n < 10 ^ f) ∧ Hid (DigJ N n D f) ∧ wr = w)
    (fun m v _ => (intOf m).toNat + (match v with | .string b => if b.size = 0 then 1 else 0 | _ => 0))
  case atStart => exact ⟨N, [], 20, rfl, rfl, h0, h1, by simp, (by show N < 10 ^ 20; omega), .inl ⟨rfl, rfl, rfl⟩, rfl⟩
  case round =>
    obtain ⟨n, D, f, rfl, rfl, n0, n1, hD, HF, HJ, rfl⟩ := hrel
    by_cases hgo : 0 < n ∨ D = []
    · obtain ⟨g, rfl⟩ : ∃ g, f = g + 1 := by
        cases f with
        | zero =>
          have hf := HF.out
          simp at hf
          rcases HJ.out with ⟨_, _, h⟩ | ⟨h, h2, _⟩ | ⟨_, h2, _⟩
          · omega
          · rcases hgo with h' | h'
            · omega
            · exact absurd h' h
          · omega
        | succ g => exact ⟨g, rfl⟩
      have HF' : Hid (n / 10 < 10 ^ g) := by show _ < _; have := HF.out; rw [Int.pow_succ] at this; omega
      have HJ' : Hid (DigJ N (n / 10) ((48 + n % 10) :: D) g) := HJ.out.step n0 hgo
      have henc := enc_1 (48 + n % 10) (by omega) (by omega)
      have hadd := fun W => run_add W [48 + n % 10] D (by simp only [List.length_cons, List.length_nil]; omega)
      have hs1 := strOfNums_size ((48 + n % 10) :: D)
      simp only [List.cons_append, List.nil_append, List.length_cons] at hadd hs1
      have HS1 : Hid _ := hs1
      clear HF HJ hs1
      by_cases hn : 0 < n
      · clear hgo
        have HM : Hid ((intOf (.int .u64 (n / 10))).toNat < (intOf (.int .u64 n)).toNat) := by show (n / 10).toNat < n.toNat; omega
        go_wp2
        go_roundw
        case rel => exact ⟨n / 10, _, g, rfl, rfl, by omega, by omega, by simp only [List.length_cons]; omega, HF', HJ', by first | rfl | trivial⟩
        case measure =>
          have := HM.out; have e := HS1.out
          simp only [e]
          simp at this ⊢
          omega
      · have hD0 : D = [] := by rcases hgo with h | h; exact absurd h hn; exact h
        subst hD0
        obtain rfl : n = 0 := by omega
        have hne : ((strOfNums []).toList == []) = true := by rw [str_list]; rfl
        have hs0 : (strOfNums []).size = 0 := strOfNums_size []
        clear hgo
        have e48 : Utf8.encode 48 ++ strOfNums [] = strOfNums [48] := by rw [enc_1 48 (by omega) (by omega), str_app]; rfl
        have E48 : Hid _ := e48
        have s48 : (strOfNums [48]).size = 1 := strOfNums_size [48]
        clear e48 henc hadd HS1
        go_wp2
        rw [E48.out]
        go_roundw
        case rel => exact ⟨0, [48], g, rfl, rfl, by omega, by omega, by simp only [List.length_cons, List.length_nil] at hD ⊢; omega, HF', HJ', by first | rfl | trivial⟩
        case measure => simp [s48, hs0]
    · have hn : n = 0 := by omega
      subst hn
      have E : Hid (qdg 20 N = D) := by
        rcases HJ.out with ⟨h, _, _⟩ | ⟨_, _, h⟩ | ⟨_, h, _⟩
        · exact absurd (Or.inr h) hgo
        · exact h
        · omega
      have hne : ((strOfNums D).toList == []) = false := by
        cases D with
        | nil => exact absurd (Or.inr rfl) hgo
        | cons c r => exact str_ne c r
      clear HJ HF hgo
      go_wp2
      go_ret
      exact ⟨by rw [E.out]; rfl, rfl⟩

end Go.Proofs.YtilcaihfoelapaaDoor
