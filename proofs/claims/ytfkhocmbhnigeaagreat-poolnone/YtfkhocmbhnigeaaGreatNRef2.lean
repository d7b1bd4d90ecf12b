/- The contract of the reference's own Parent. -/
import Derived.Test.YtfkhocmbhnigeaaGreatNRef
import Derived.Deep.QuietTactic
import Derived.BigQuiet
namespace Go.Proofs.YtfkhocmbhnigeaaGreat
open Go.RowKit
set_option linter.unusedVariables false
set_option linter.unusedSimpArgs false

/-- 's[:k]' of a text. -/
theorem run_head (s : List Int) (k : Nat) (hk : k ≤ s.length) (hl : (s.length : Int) ≤ 9223372036854775807) : ∀ W, (Instr.slice 9 (.string (strOfNums s)) none (some (.int .i64 (k : Int))) none).run Tryz.prog W = .ok (.string (strOfNums (s.take k))) W := fun W => by
  have hsz := strOfNums_size s
  rw [run_slice_string_h (P := Tryz.prog) W 9 (strOfNums s) Tryz.underlying9 .i64 (k : Int) (by omega) (by omega)]
  rw [Int.toNat_natCast, str_cut]
  simp

/-- 's[k:]' of a text. -/
theorem run_tail (s : List Int) (k : Nat) (hk : k ≤ s.length) (ii : Int) (hi : ii = (k : Int)) : ∀ W, (Instr.slice 9 (.string (strOfNums s)) (some (.int .i64 ii)) none none).run Tryz.prog W = .ok (.string (strOfNums (s.drop k))) W := fun W => by
  rw [run_cut_to (strOfNums s) k ii hi (by rw [strOfNums_size]; exact hk) W, str_cut, strOfNums_size, List.take_of_length_le (by simp)]

set_option maxHeartbeats 1000000 in
theorem rparent_any (s : List Int) (w : World) (hz : Hid (∀ i, 0 ≤ s.getD i 0 ∧ s.getD i 0 ≤ 255)) (hlen : (s.length : Int) ≤ 1000000) :
    Calls Tryz.prog 96 #[.string (strOfNums s)] w fun e w' => e = .returned (.tuple #[.string (strOfNums (nparent s).1), .string (strOfNums (nparent s).2)]) ∧ Below w.heap.size w w' := by
  obtain ⟨X, hX⟩ : ∃ X, X = strOfNums s := ⟨_, rfl⟩
  have hsz : X.size = s.length := by rw [hX]; exact strOfNums_size s
  have HA : Hid (∀ k, (h : k < s.length) → ((X[k]'(hsz ▸ h)).toNat : Int) = s.getD k 0) := fun k h => by subst hX; exact str_at s hz.out k _
  have HH : Hid (∀ k, k ≤ s.length → ∀ W, (Instr.slice 9 (.string X) none (some (.int .i64 (k : Int))) none).run Tryz.prog W = .ok (.string (strOfNums (s.take k))) W) := fun k hk => by subst hX; exact run_head s k hk (by omega)
  have HT : Hid (∀ k, k + 1 ≤ s.length → ∀ W, (Instr.slice 9 (.string X) (some (.int .i64 ((k : Int) + 1))) none none).run Tryz.prog W = .ok (.string (strOfNums (s.drop (k + 1)))) W) := fun k hk => by subst hX; exact run_tail s (k + 1) hk _ (by omega)
  have HX : Hid (X = strOfNums s) := hX
  rw [← hX]
  clear hX
  go_enter Tryz.func96, Tryz.ntmps96
  go_wp2
  go_loopw [4] (fun v wr => ∃ k : Nat, v = .int .i64 ((k : Int) - 1) ∧ k ≤ s.length ∧ Hid (nlast s s.length = nlast s k) ∧ w = wr) (fun v _ => (intOf v + 1).toNat)
  case atStart => exact ⟨s.length, rfl, by omega, rfl, rfl⟩
  case round =>
    obtain ⟨k, rfl, hk, HJ, rfl⟩ := hrel
    cases k with
    | zero =>
      have E : Hid (nparent s = ([], s)) := by
        show _ = _
        unfold nparent
        rw [HJ.out]
        rfl
      clear HJ
      go_wp2
      go_ret2
      refine ⟨?_, Below.refl _ _⟩
      rw [E.out, ← HX.out]
      rfl
    | succ k =>
      rw [show (((k + 1 : Nat) : Int) - 1) = (k : Int) by omega]
      have hat := HA.out k (by omega)
      have HJ' := HJ.out
      rw [nlast] at HJ'
      by_cases h46 : s.getD k 0 = 46
      · rw [if_pos h46] at HJ'
        rw [h46] at hat
        have E : Hid (nparent s = (s.take k, s.drop (k + 1))) := by
          show _ = _
          unfold nparent
          rw [HJ', if_neg (by omega), Nat.add_sub_cancel]
        have h1 := HH.out k (by omega)
        have h2 := HT.out k (by omega)
        obtain ⟨A, hA1⟩ : ∃ A, A = strOfNums (s.take k) := ⟨_, rfl⟩
        obtain ⟨B, hB1⟩ : ∃ B, B = strOfNums (s.drop (k + 1)) := ⟨_, rfl⟩
        rw [← hA1] at h1
        rw [← hB1] at h2
        have HA1 : Hid (A = strOfNums (s.take k)) := hA1
        have HB1 : Hid (B = strOfNums (s.drop (k + 1))) := hB1
        clear hA1 hB1
        clear HJ HJ' h46
        go_wp2
        go_quiet (fail)
        rename_i K _ hK
        refine hK _ _ ?_
        go_wp2
        go_ret2
        refine ⟨?_, below_drewN (Below.refl _ _) _⟩
        rw [E.out]
        simp only
        rw [← HA1.out, ← HB1.out]
        rfl
      · rw [if_neg h46] at HJ'
        have HJ2 : Hid _ := HJ'
        generalize s.getD k 0 = c at hat h46
        have e46 : (c == 46) = false := by simpa using h46
        clear HJ HJ'
        go_wp2
        go_roundw
        case rel => first | exact ⟨k, rfl, by omega, HJ2, by first | rfl | trivial⟩ | ((repeat apply Exists.intro); exact ⟨⟨k, rfl, by omega, HJ2, by first | rfl | trivial⟩, rfl⟩)
        case measure => first | (simp [intOf]; done) | (simp [intOf]; omega)

end Go.Proofs.YtfkhocmbhnigeaaGreat
