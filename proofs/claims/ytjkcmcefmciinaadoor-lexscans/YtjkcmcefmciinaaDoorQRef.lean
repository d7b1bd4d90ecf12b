/- The contracts of the document's own answers on digits (the reference's digit, run), over the turned text. -/
import Derived.Test.YtjkcmcefmciinaaDoorURef
import Derived.Test.YtjkcmcefmciinaaDoorQMath
namespace Go.Proofs.YtjkcmcefmciinaaDoor
open Go.RowKit

/-- A byte of a text. -/
theorem str_at (zs : List Int) (hz : ∀ i, 0 ≤ zs.getD i 0 ∧ zs.getD i 0 ≤ 255) (k : Nat) (h : k < (strOfNums zs).size) : (((strOfNums zs)[k]'h).toNat : Int) = zs.getD k 0 := by
  have hk : k < zs.length := by rw [strOfNums_size] at h; exact h
  have := hz k
  show ((((zs.map fun n => UInt8.ofNat n.toNat).toArray)[k]'(by simpa using hk)).toNat : Int) = _
  simp only [List.getElem_toArray, List.getElem_map]
  simp only [List.getD, List.getElem?_eq_getElem hk, Option.getD_some] at this ⊢
  simp
  omega

theorem qrn_stop (base : Int) (f : Nat) (zs : List Int) (k : Nat) (n : Int) (h : zs.length ≤ k ∨ f = 0 ∨ base ≤ dgt (zs.getD k 0)) : qrn base f (zs.drop k) n = (n, 0) := by
  cases f with
  | zero => rfl
  | succ f =>
    rcases Nat.lt_or_ge k zs.length with hk | hk
    · rw [List.drop_eq_getElem_cons hk, qrn, if_neg]
      have : zs[k] = zs.getD k 0 := by simp [List.getD, List.getElem?_eq_getElem hk]
      rw [this]
      omega
    · rw [List.drop_eq_nil_of_le hk]; rfl

theorem qrn_step (base : Int) (f : Nat) (zs : List Int) (k : Nat) (n : Int) (hk : k < zs.length) (h : dgt (zs.getD k 0) < base) :
    qrn base (f + 1) (zs.drop k) n = ((qrn base f (zs.drop (k + 1)) (n * base + dgt (zs.getD k 0))).1, (qrn base f (zs.drop (k + 1)) (n * base + dgt (zs.getD k 0))).2 + 1) := by
  have e : zs[k] = zs.getD k 0 := by simp [List.getD, List.getElem?_eq_getElem hk]
  rw [List.drop_eq_getElem_cons hk, qrn, e, if_pos h]

theorem dgt_1 {c : Int} (h : 48 ≤ c ∧ c ≤ 57) : dgt c = c - 48 := by unfold dgt; rw [if_pos h]

theorem dgt_2 {c : Int} (h : 97 ≤ c ∧ c ≤ 102) : dgt c = c - 87 := by unfold dgt; rw [if_neg (by omega), if_pos h]

theorem dgt_3 {c : Int} (h : 65 ≤ c ∧ c ≤ 70) : dgt c = c - 55 := by unfold dgt; rw [if_neg (by omega), if_neg (by omega), if_pos h]

theorem dgt_4 {c : Int} (h1 : ¬ (48 ≤ c ∧ c ≤ 57)) (h2 : ¬ (97 ≤ c ∧ c ≤ 102)) (h3 : ¬ (65 ≤ c ∧ c ≤ 70)) : dgt c = 99 := by unfold dgt; rw [if_neg h1, if_neg h2, if_neg h3]

set_option maxHeartbeats 400000 in
theorem rdigit_any (c : Int) (w : World) (h0 : 0 ≤ c) (h1 : c ≤ 255) :
    Calls Tryd.prog 43 #[.int .u8 c] w fun e w' => e = .returned (.int .i64 (dgt c)) ∧ w = w' := by
  by_cases k1 : 48 ≤ c
  · by_cases k2 : c ≤ 57
    · have E : Hid (dgt c = c - 48) := dgt_1 ⟨k1, k2⟩
      go_enter Tryd.func43, Tryd.ntmps43
      go_wp2
      go_ret
      exact ⟨by rw [E.out]; rfl, rfl⟩
    · by_cases k3 : 97 ≤ c
      · have k3' : 65 ≤ c := by omega
        by_cases k4 : c ≤ 102
        · have E : Hid (dgt c = c - 97 + 10) := by show _ = _; rw [dgt_2 ⟨k3, k4⟩]; omega
          go_enter Tryd.func43, Tryd.ntmps43
          go_wp2
          go_ret
          exact ⟨by rw [E.out]; rfl, rfl⟩
        · have E : Hid (dgt c = 99) := dgt_4 (by omega) (by omega) (by omega)
          have k5 : ¬ c ≤ 70 := by omega
          go_enter Tryd.func43, Tryd.ntmps43
          go_wp2
          go_ret
          exact ⟨by rw [E.out]; rfl, rfl⟩
      · by_cases k4 : 65 ≤ c
        · by_cases k5 : c ≤ 70
          · have E : Hid (dgt c = c - 65 + 10) := by show _ = _; rw [dgt_3 ⟨k4, k5⟩]; omega
            go_enter Tryd.func43, Tryd.ntmps43
            go_wp2
            go_ret
            exact ⟨by rw [E.out]; rfl, rfl⟩
          · have E : Hid (dgt c = 99) := dgt_4 (by omega) (by omega) (by omega)
            go_enter Tryd.func43, Tryd.ntmps43
            go_wp2
            go_ret
            exact ⟨by rw [E.out]; rfl, rfl⟩
        · have E : Hid (dgt c = 99) := dgt_4 (by omega) (by omega) (by omega)
          go_enter Tryd.func43, Tryd.ntmps43
          go_wp2
          go_ret
          exact ⟨by rw [E.out]; rfl, rfl⟩
  · have k3 : ¬ 97 ≤ c := by omega
    have k4 : ¬ 65 ≤ c := by omega
    have E : Hid (dgt c = 99) := dgt_4 (by omega) (by omega) (by omega)
    go_enter Tryd.func43, Tryd.ntmps43
    go_wp2
    go_ret
    exact ⟨by rw [E.out]; rfl, rfl⟩

set_option maxHeartbeats 1000000 in
theorem rrun_any (zs : List Int) (base : Int) (most : Nat) (w : World) (hz : Hid (∀ i, 0 ≤ zs.getD i 0 ∧ zs.getD i 0 ≤ 255)) (b0 : 0 ≤ base) (b1 : base ≤ 16) (hm : most ≤ 8) (hlen : (zs.length : Int) ≤ 9223372036854775807) :
    Calls Tryd.prog 56 #[.string (strOfNums zs), .int .i64 base, .int .i64 (most : Int)] w fun e w' => e = .returned (.tuple #[.int .i64 (qrn base most zs 0).1, .int .i64 ((qrn base most zs 0).2 : Int)]) ∧ w = w' := by
  have hsz := strOfNums_size zs
  go_enter Tryd.func56, Tryd.ntmps56
  go_wp2
  go_loopw [8, 9] (fun v i wr => ∃ (n : Int) (k : Nat), v = .int .i64 n ∧ i = .int .i64 (k : Int) ∧ 0 ≤ n ∧ k ≤ most ∧ k ≤ zs.length ∧ Hid (n < ((16 ^ k : Nat) : Int)) ∧ Hid (qrn base most zs 0 = ((qrn base (most - k) (zs.drop k) n).1, (qrn base (most - k) (zs.drop k) n).2 + k)) ∧ wr = w) (fun _ i _ => most - (intOf i).toNat)
  case atStart => exact ⟨0, 0, rfl, rfl, by omega, by omega, by omega, (by show (0 : Int) < _; decide), (by show _ = _; simp), rfl⟩
  case round =>
    obtain ⟨n, k, rfl, rfl, n0, hkm, hkl, HN, HQ, rfl⟩ := hrel
    have hend : (zs.length ≤ k ∨ most - k = 0 ∨ base ≤ dgt (zs.getD k 0)) → Hid (qrn base most zs 0 = (n, k)) := by
      intro h
      have := HQ.out
      rw [qrn_stop base (most - k) zs k n h] at this
      rw [this]
      show _ = _
      simp
    by_cases h1 : k < zs.length
    · by_cases h2 : k < most
      · obtain ⟨c, hc⟩ : ∃ c, c = zs.getD k 0 := ⟨_, rfl⟩
        have hcb := hz.out k
        have hat := str_at zs hz.out k (by rw [hsz]; exact h1)
        rw [← hc] at hcb hat hend
        obtain ⟨c0, c255⟩ := hcb
        have HC : Hid (c = zs.getD k 0) := hc
        clear hc
        have q := fun W => rdigit_any c W c0 c255
        have hd := dgt_bd c
        by_cases h3 : dgt c < base
        · have hstep : Hid (qrn base most zs 0 = ((qrn base (most - (k + 1)) (zs.drop (k + 1)) (n * base + dgt c)).1, (qrn base (most - (k + 1)) (zs.drop (k + 1)) (n * base + dgt c)).2 + (k + 1))) := by
            show _ = _
            have := HQ.out
            obtain ⟨f, hf⟩ : ∃ f, most - k = f + 1 := ⟨most - k - 1, by omega⟩
            rw [hf, qrn_step base f zs k n h1 (by rw [← HC.out]; exact h3), ← HC.out] at this
            rw [this, show most - (k + 1) = f by omega]
            simp only [Prod.mk.injEq, true_and]
            omega
          have e0 : 0 ≤ n * base := Int.mul_nonneg n0 b0
          have hn' : Hid (n * base + dgt c < ((16 ^ (k + 1) : Nat) : Int)) := by
            show _ < _
            have := HN.out
            have e : n * base ≤ n * 16 := Int.mul_le_mul_of_nonneg_left b1 n0
            rw [Nat.pow_succ]
            omega
          have hn8 : n * base + dgt c < 4294967296 := by
            have := hn'.out
            have h8 : 16 ^ (k + 1) ≤ 16 ^ 8 := Nat.pow_le_pow_right (by omega) (by omega)
            omega
          clear hend
          generalize dgt c = d at q hd h3 hstep hn' hn8
          obtain ⟨m, hm'⟩ : ∃ m, m = n * base := ⟨_, rfl⟩
          rw [← hm'] at hstep hn' hn8 e0
          have Q : Hid _ := q
          clear q
          have hmm : n * base = m := hm'.symm
          clear hm'
          go_wp2_with fail
          refine Calls.mono (Q.out _) ?_
          rintro e w1 ⟨rfl, rfl⟩
          go_wp2_with fail
          refine Calls.mono (Q.out _) ?_
          rintro e w1 ⟨rfl, rfl⟩
          go_wp2
          go_roundw
          case rel => exact ⟨m + d, k + 1, rfl, by go_num, by omega, by omega, by omega, hn', hstep, by first | rfl | trivial⟩
          case measure => simp [intOf]; omega
        · have HE := hend (Or.inr (Or.inr (by omega)))
          clear hend
          generalize dgt c = d at q hd h3
          have Q : Hid _ := q
          clear q
          go_wp2_with fail
          refine Calls.mono (Q.out _) ?_
          rintro e w1 ⟨rfl, rfl⟩
          go_wp2
          go_ret2
          exact ⟨by rw [HE.out]; rfl, rfl⟩
      · have HE := hend (Or.inr (Or.inl (by omega)))
        clear hend
        go_wp2
        go_ret2
        exact ⟨by rw [HE.out]; rfl, rfl⟩
    · have HE := hend (Or.inl (by omega))
      clear hend
      go_wp2
      go_ret2
      exact ⟨by rw [HE.out]; rfl, rfl⟩

end Go.Proofs.YtjkcmcefmciinaaDoor
