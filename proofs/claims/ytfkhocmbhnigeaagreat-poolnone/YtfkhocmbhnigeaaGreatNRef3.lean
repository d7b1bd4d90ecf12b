/- The contracts of the reference's own Parts, Full. -/
import Derived.Test.YtfkhocmbhnigeaaGreatNStr
namespace Go.Proofs.YtfkhocmbhnigeaaGreat
open Go.RowKit
set_option linter.unusedVariables false
set_option linter.unusedSimpArgs false

theorem lpc_more (s : List Int) (f i : Nat) (h : f ≤ i) (hi : i < s.length) : lpc s f (i + 1) = lpc s f i ++ [s.getD i 0] := by
  unfold lpc
  rw [List.take_add_one, List.getElem?_eq_getElem hi, List.drop_append_of_le_length (by simp; omega)]
  simp [List.getD, hi]

theorem lpc_none (s : List Int) (i : Nat) : lpc s i i = [] := by unfold lpc; simp

theorem lpc_bd (s : List Int) (i k : Nat) (h : byts s) : byts (lpc s i k) := fun c hc => h c (List.mem_of_mem_take (List.mem_of_mem_drop hc))

theorem run_piece (s : List Int) (i k : Nat) (h1 : i ≤ k) (h2 : k ≤ s.length) : ∀ W, (Instr.slice 9 (.string (strOfNums s)) (some (.int .i64 (i : Int))) (some (.int .i64 (k : Int))) none).run Tryz.prog W = .ok (.string (strOfNums (lpc s i k))) W := fun W => by
  rw [run_cut (strOfNums s) i k _ _ rfl rfl h1 (by rw [strOfNums_size]; exact h2) W, str_cut]
  unfold lpc
  rw [List.drop_take]

theorem nsp_len : ∀ (s cur : List Int), (nsp cur s).length ≤ s.length + 1
  | [], cur => by simp [nsp]
  | c :: r, cur => by
    rw [nsp]
    split
    · have := nsp_len r []; simp only [List.length_cons]; omega
    · have := nsp_len r (cur ++ [c]); simp only [List.length_cons]; omega

theorem nsp_each : ∀ (s cur z : List Int), z ∈ nsp cur s → z.length ≤ cur.length + s.length
  | [], cur, z, h => by
    simp only [nsp, List.mem_cons, List.not_mem_nil, or_false] at h
    subst h; simp
  | c :: r, cur, z, h => by
    rw [nsp] at h
    by_cases k : c = 46
    · rw [if_pos k] at h
      rcases List.mem_cons.1 h with h | h
      · subst h; omega
      · have := nsp_each r [] z h; simp only [List.length_nil, List.length_cons] at this ⊢; omega
    · rw [if_neg k] at h
      have := nsp_each r (cur ++ [c]) z h
      simp only [List.length_append, List.length_cons, List.length_nil] at this ⊢
      omega

end Go.Proofs.YtfkhocmbhnigeaaGreat
