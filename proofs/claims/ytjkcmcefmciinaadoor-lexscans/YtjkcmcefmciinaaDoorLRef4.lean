/- The contracts of the reference's own Line and Doc, over the turned text. -/
import Derived.Test.YtjkcmcefmciinaaDoorLRef3
import Derived.Test.YtjkcmcefmciinaaDoorLBack
import Derived.Lib.MinMax
namespace Go.Proofs.YtjkcmcefmciinaaDoor
open Go.RowKit
set_option linter.unusedVariables false
set_option linter.unusedSimpArgs false

theorem lline_bd (s : List Int) : ∀ k, 1 ≤ lline s k ∧ lline s k ≤ k + 1
  | 0 => by simp [lline]
  | k + 1 => by
    have := lline_bd s k
    unfold lline
    split <;> omega

/-- A place that is one. -/
def lclamp (len : Nat) (x : Int) : Nat := if x < 0 then 0 else if (len : Int) < x then len else x.toNat

set_option maxHeartbeats 1000000 in
theorem rline_any (s : List Int) (x : Int) (w : World) (hz : Hid (∀ i, 0 ≤ s.getD i 0 ∧ s.getD i 0 ≤ 255)) (hlen : (s.length : Int) ≤ 100000) :
    Calls Tryd.prog 14 #[.string (strOfNums s), .int .i64 x] w fun e w' => e = .returned (.tuple #[.int .i64 (lline s (lclamp s.length x)), .int .i64 ((lclamp s.length x : Int) - (lnAt s (lclamp s.length x) : Int) + 1)]) ∧ w = w' := by
  have hsz := strOfNums_size s
  have HA : Hid (∀ k, (h : k < s.length) → (((strOfNums s)[k]'(by rw [hsz]; exact h)).toNat : Int) = s.getD k 0) := fun k h => str_at s hz.out k _
  have hc : lclamp s.length x ≤ s.length := by unfold lclamp; split; omega; split <;> omega
  have q := fun W => rlineAt_any s (lclamp s.length x) W hz (by omega) hc
  have hln := lnAt_le s (lclamp s.length x)
  obtain ⟨K, hK⟩ : ∃ K, K = lclamp s.length x := ⟨_, rfl⟩
  have hways : (x < 0 ∧ K = 0) ∨ ((s.length : Int) < x ∧ K = s.length) ∨ (0 ≤ x ∧ x ≤ (s.length : Int) ∧ x = (K : Int)) := by
    rw [hK]
    unfold lclamp
    by_cases h1 : x < 0
    · rw [if_pos h1]; exact .inl ⟨h1, rfl⟩
    · rw [if_neg h1]
      by_cases h2 : (s.length : Int) < x
      · rw [if_pos h2]; exact .inr (.inl ⟨h2, rfl⟩)
      · rw [if_neg h2]; exact .inr (.inr ⟨by omega, by omega, by omega⟩)
  rw [← hK] at q hc hln ⊢
  clear hK
  generalize strOfNums s = S at hsz HA q ⊢
  have Q : Hid _ := q
  clear q
  obtain ⟨y, hy⟩ : ∃ y, y = lline s K := ⟨_, rfl⟩
  rw [← hy]
  have HY : Hid (y = lline s K) := hy
  clear hy
  obtain ⟨N, hN⟩ : ∃ N, N = lnAt s K := ⟨_, rfl⟩
  rw [← hN] at Q hln ⊢
  clear hN
  have hmm : min (max x 0) (s.length : Int) = (K : Int) := by omega
  clear hways
  go_enter Tryd.func14, Tryd.ntmps14
  go_wp2
  go_loopw [6, 7] (fun v i wr => ∃ k : Nat, v = .int .i64 (lline s k) ∧ i = .int .i64 (k : Int) ∧ k ≤ K ∧ w = wr) (fun _ i _ => K - (intOf i).toNat)
  case atStart => exact ⟨0, rfl, rfl, by omega, rfl⟩
  case round =>
    obtain ⟨k, rfl, rfl, hk, rfl⟩ := hrel
    obtain ⟨b1, b2⟩ := lline_bd s k
    by_cases hkK : k < K
    · have hat := HA.out k (by omega)
      have E : Hid (lline s (k + 1) = if s.getD k 0 = 10 then lline s k + 1 else lline s k) := rfl
      generalize s.getD k 0 = c at hat E
      by_cases hc10 : c = 10
      · subst hc10
        have E2 : Hid (lline s (k + 1) = lline s k + 1) := by have := E.out; rw [if_pos rfl] at this; exact this
        clear E
        generalize lline s k = u at b1 b2 E2 ⊢
        go_wp2
        go_roundw
        case rel => first | exact ⟨k + 1, by rw [E2.out], by go_num, by omega, by first | rfl | trivial⟩ | ((repeat apply Exists.intro); exact ⟨⟨k + 1, by rw [E2.out], by go_num, by omega, by first | rfl | trivial⟩, rfl⟩)
        case measure => simp [intOf]; omega
      · have e10 : (c == 10) = false := by simpa using hc10
        have E2 : Hid (lline s (k + 1) = lline s k) := by have := E.out; rw [if_neg hc10] at this; exact this
        clear E
        generalize lline s k = u at b1 b2 E2 ⊢
        go_wp2
        go_roundw
        case rel => first | exact ⟨k + 1, by rw [E2.out], by go_num, by omega, by first | rfl | trivial⟩ | ((repeat apply Exists.intro); exact ⟨⟨k + 1, by rw [E2.out], by go_num, by omega, by first | rfl | trivial⟩, rfl⟩)
        case measure => simp [intOf]; omega
    · obtain rfl : k = K := by omega
      rw [← HY.out] at b1 b2 ⊢
      go_wp2_with fail
      refine Calls.mono (Q.out _) ?_
      rintro e w1 ⟨rfl, rfl⟩
      go_wp2
      go_ret2
      exact ⟨rfl, rfl⟩

theorem lpc_snoc (s : List Int) (f i : Nat) (h : f ≤ i) (hi : i < s.length) : lpc s f (i + 1) = lpc s f i ++ [s.getD i 0] := by
  unfold lpc
  rw [List.take_succ_eq_append_getElem hi, List.drop_append_of_le_length (by simp; omega)]
  simp [List.getD, List.getElem?_eq_getElem hi]

theorem str_pc (s : List Int) (i k : Nat) : (strOfNums s).extract i k = strOfNums (lpc s i k) := by
  rw [str_cut]; unfold lpc; rw [List.drop_take]

set_option maxHeartbeats 1000000 in
theorem rdocs_any (s : List Int) (w : World) (hz : Hid (∀ i, 0 ≤ s.getD i 0 ∧ s.getD i 0 ≤ 255)) (hlen : (s.length : Int) ≤ 100000) :
    Calls Tryd.prog 17 #[.string (strOfNums s)] w fun e w' => e = .returned (.string (strOfNums (ldocs s))) ∧ w = w' := by
  have hsz := strOfNums_size s
  have HA : Hid (∀ k, (h : k < s.length) → (((strOfNums s)[k]'(by rw [hsz]; exact h)).toNat : Int) = s.getD k 0) := fun k h => str_at s hz.out k _
  have HX : Hid (∀ i k, (strOfNums s).extract i k = strOfNums (lpc s i k)) := str_pc s
  obtain ⟨R, hR⟩ : ∃ R, R = ldocs s := ⟨_, rfl⟩
  rw [← hR]
  have HR : Hid (R = [] ++ ldcs (lpc s 0 0) (s.drop 0)) := hR
  clear hR
  generalize strOfNums s = S at hsz HA HX
  go_enter Tryd.func17, Tryd.ntmps17
  go_wp2
  go_loopw [3, 4, 5] (fun o f i wr => ∃ (O : List Int) (m k : Nat), o = .string (strOfNums O) ∧ f = .int .i64 (m : Int) ∧ i = .int .i64 (k : Int) ∧ m ≤ k ∧ k ≤ s.length ∧ O.length ≤ 3 * m ∧ Hid (R = O ++ ldcs (lpc s m k) (s.drop k)) ∧ w = wr) (fun _ _ i _ => s.length - (intOf i).toNat)
  case atStart => exact ⟨[], 0, 0, rfl, rfl, rfl, by omega, by omega, by simp, HR, rfl⟩
  case round =>
    obtain ⟨O, m, k, rfl, rfl, rfl, hmk, hk, hO, HQ, rfl⟩ := hrel
    clear HR
    by_cases hks : k < s.length
    · have hat := HA.out k hks
      have HQ' := HQ.out
      have hsn := lpc_snoc s m k hmk hks
      rw [drop_at hks, ldcs] at HQ'
      have hll : (lpc s m k).length = k - m := lpc_len s m k hmk hk
      by_cases hc : s.getD k 0 = 10
      · rw [hc] at hat hsn
        rw [if_pos hc] at HQ'
        have hx := HX.out m (k + 1)
        rw [hsn] at hx
        have hs1 := run_cut S m (k + 1) (m : Int) ((k : Int) + 1) rfl (by omega) (by omega) (by omega)
        rw [hx] at hs1
        have E : Hid (R = (O ++ ([47, 47] ++ (lpc s m k ++ [10]))) ++ ldcs (lpc s (k + 1) (k + 1)) (s.drop (k + 1))) := by
          show _ = _
          rw [HQ', show lpc s (k + 1) (k + 1) = [] by unfold lpc; exact List.drop_eq_nil_of_le (by simp; omega)]
          simp
        clear HQ HQ' hsn hx
        generalize lpc s m k = L at hll hs1 E
        have a1 : ∀ W, (Op.stringOp .add { data := #[47, 47] } (strOfNums (L ++ [10]))).run Tryd.prog W = .ok (.string (strOfNums ([47, 47] ++ (L ++ [10])))) W := fun W => run_add W [47, 47] (L ++ [10]) (by simp only [List.length_append, List.length_cons, List.length_nil]; omega)
        have hl2 : ([47, 47] ++ (L ++ [10])).length = k - m + 3 := by simp only [List.length_append, List.length_cons, List.length_nil]; omega
        generalize [47, 47] ++ (L ++ [10]) = M at a1 E hl2
        have a2 : ∀ W, (Op.stringOp .add (strOfNums O) (strOfNums M)).run Tryd.prog W = .ok (.string (strOfNums (O ++ M))) W := fun W => run_add W O M (by omega)
        go_wp2
        go_roundw
        case rel => first | exact ⟨O ++ M, k + 1, k + 1, rfl, by go_num, by go_num, by omega, by omega, by simp only [List.length_append]; omega, E, by first | rfl | trivial⟩ | ((repeat apply Exists.intro); exact ⟨⟨O ++ M, k + 1, k + 1, rfl, by go_num, by go_num, by omega, by omega, by simp only [List.length_append]; omega, E, by first | rfl | trivial⟩, rfl⟩)
        case measure => simp [intOf]; omega
      · have E : Hid (R = O ++ ldcs (lpc s m (k + 1)) (s.drop (k + 1))) := by
          show _ = _
          rw [if_neg hc] at HQ'
          rw [HQ', hsn]
        generalize s.getD k 0 = c at hat hc
        have e10 : (c == 10) = false := by simpa using hc
        clear HQ HQ' hsn
        go_wp2
        go_roundw
        case rel => first | exact ⟨O, m, k + 1, rfl, rfl, by go_num, by omega, by omega, hO, E, by first | rfl | trivial⟩ | ((repeat apply Exists.intro); exact ⟨⟨O, m, k + 1, rfl, rfl, by go_num, by omega, by omega, hO, E, by first | rfl | trivial⟩, rfl⟩)
        case measure => simp [intOf]; omega
    · obtain rfl : k = s.length := by omega
      have hll : (lpc s m s.length).length = s.length - m := lpc_len s m s.length hmk hk
      by_cases hm : m < s.length
      · have hs1 := run_cut_to S m (m : Int) rfl (by omega)
        rw [hsz, HX.out m s.length] at hs1
        have E : Hid (R = O ++ ([47, 47] ++ lpc s m s.length ++ [10])) := by
          show _ = _
          rw [HQ.out, List.drop_eq_nil_of_le (Nat.le_refl _)]
          cases hL : lpc s m s.length with
          | nil => rw [hL] at hll; simp at hll; omega
          | cons x y => rfl
        clear HQ
        generalize lpc s m s.length = L at hll hs1 E
        have a1 : ∀ W, (Op.stringOp .add { data := #[47, 47] } (strOfNums L)).run Tryd.prog W = .ok (.string (strOfNums ([47, 47] ++ L))) W := fun W => run_add W [47, 47] L (by simp only [List.length_cons, List.length_nil]; omega)
        have hl2 : ([47, 47] ++ L).length = s.length - m + 2 := by simp only [List.length_append, List.length_cons, List.length_nil]; omega
        generalize [47, 47] ++ L = M at a1 E hl2
        have a2 : ∀ W, (Op.stringOp .add (strOfNums M) { data := #[10] }).run Tryd.prog W = .ok (.string (strOfNums (M ++ [10]))) W := fun W => run_add W M [10] (by simp only [List.length_cons, List.length_nil]; omega)
        have hl3 : (M ++ [10]).length = s.length - m + 3 := by simp only [List.length_append, List.length_cons, List.length_nil]; omega
        generalize M ++ [10] = P at a2 E hl3
        have a3 : ∀ W, (Op.stringOp .add (strOfNums O) (strOfNums P)).run Tryd.prog W = .ok (.string (strOfNums (O ++ P))) W := fun W => run_add W O P (by omega)
        go_wp2
        go_ret
        exact ⟨by rw [E.out]; rfl, rfl⟩
      · have hm' : ¬ (m : Int) < (s.length : Int) := by omega
        have E : Hid (R = O) := by
          show _ = _
          rw [HQ.out, List.drop_eq_nil_of_le (Nat.le_refl _)]
          have : lpc s m s.length = [] := List.eq_nil_of_length_eq_zero (by omega)
          rw [this]
          simp [ldcs]
        clear HQ
        go_wp2
        go_ret
        exact ⟨by rw [E.out]; rfl, rfl⟩

end Go.Proofs.YtjkcmcefmciinaaDoor
