/- Put together by a program out of these texts of mine: NRef, NRef2, QDig, TInt, NStr, NRef4. -/
import Derived.Deep.QuietTactic
import Derived.BigQuiet
import Derived.SliceStrings
import Derived.Test.YtcnjjhdmnagkgaaGreatDoorBunC2

namespace Go.Proofs.YtcnjjhdmnagkgaaGreatDoor
open Go.RowKit
set_option linter.unusedVariables false
set_option linter.unusedSimpArgs false

theorem nident_big (s : List Int) (h : 200 < s.length ∨ s.length = 0) : nident s = false := by
  unfold nident
  rw [decide_eq_false (by omega)]
  simp

theorem nident_bad (s : List Int) (k : Nat) (hk : k < s.length) (h : lletter (s.getD k 0) = false) : nident s = false := by
  unfold nident
  have : s.all lletter = false := by
    rw [List.all_eq_false]
    refine ⟨s[k], List.getElem_mem hk, ?_⟩
    rw [show s.getD k 0 = s[k] by simp [List.getD, hk]] at h
    rw [h]; decide
  rw [this]; rfl

theorem nident_good (s : List Int) (h : ∀ k, k < s.length → lletter (s.getD k 0) = true) (h1 : 1 ≤ s.length) (h2 : s.length ≤ 200) : nident s = !lnumb (s.getD 0 0) := by
  unfold nident
  have : s.all lletter = true := by
    rw [List.all_eq_true]
    intro c hc
    obtain ⟨k, hk, rfl⟩ := List.getElem_of_mem hc
    have := h k hk
    rwa [show s.getD k 0 = s[k] by simp [List.getD, hk]] at this
  rw [this, decide_eq_true ⟨h1, h2⟩]; rfl

set_option maxHeartbeats 1000000 in
theorem rident_any (s : List Int) (w : World) (hz : Hid (∀ i, 0 ≤ s.getD i 0 ∧ s.getD i 0 ≤ 255)) (hlen : (s.length : Int) ≤ 9223372036854775807) :
    Calls Tryz.prog 30 #[.string (strOfNums s)] w fun e w' => e = .returned (.bool (nident s)) ∧ w = w' := by
  have hsz := strOfNums_size s
  have HA : Hid (∀ k, (h : k < s.length) → (((strOfNums s)[k]'(by rw [hsz]; exact h)).toNat : Int) = s.getD k 0) := fun k h => str_at s hz.out k _
  generalize strOfNums s = S at hsz HA
  go_enter Tryz.func30, Tryz.ntmps30
  go_wp2
  go_loopw [3] (fun v wr => ∃ k : Nat, v = .int .i64 (k : Int) ∧ k ≤ s.length ∧ Hid (∀ j, j < k → lletter (s.getD j 0) = true) ∧ w = wr) (fun v _ => s.length - (intOf v).toNat)
  case atStart => exact ⟨0, rfl, by omega, fun j hj => absurd hj (by omega), rfl⟩
  case round =>
    obtain ⟨k, rfl, hk, HJ, rfl⟩ := hrel
    by_cases hkl : k < s.length
    · have hat := HA.out k hkl
      have hcb := hz.out k
      obtain ⟨c, hc⟩ : ∃ c, c = s.getD k 0 := ⟨_, rfl⟩
      have HC : Hid (c = s.getD k 0) := hc
      rw [← hc] at hat hcb
      obtain ⟨c0, c255⟩ := hcb
      have q := fun W => rletter_any c W c0 c255
      clear hc
      by_cases hl : lletter c = true
      · rw [hl] at q
        have Q : Hid _ := q
        have HJ2 : Hid (∀ j, j < k + 1 → lletter (s.getD j 0) = true) := fun j hj => by
          by_cases e : j = k
          · rw [e, ← HC.out]; exact hl
          · exact HJ.out j (by omega)
        clear q hl HJ
        go_wp2_with fail
        refine Calls.mono (Q.out _) ?_
        rintro e w1 ⟨rfl, rfl⟩
        go_wp2
        go_roundw
        case rel => first | exact ⟨k + 1, by go_num, by omega, HJ2, by first | rfl | trivial⟩ | ((repeat apply Exists.intro); exact ⟨⟨k + 1, by go_num, by omega, HJ2, by first | rfl | trivial⟩, rfl⟩)
        case measure => simp [intOf]; omega
      · have hl' : lletter c = false := by simpa using hl
        rw [hl'] at q
        have Q : Hid _ := q
        have E : Hid (nident s = false) := nident_bad s k hkl (by rw [← HC.out]; exact hl')
        clear q hl hl' HJ
        go_wp2_with fail
        refine Calls.mono (Q.out _) ?_
        rintro e w1 ⟨rfl, rfl⟩
        go_wp2
        go_ret
        exact ⟨by rw [E.out]; rfl, rfl⟩
    · obtain rfl : k = s.length := by omega
      by_cases h0 : s.length = 0
      · have E : Hid (nident s = false) := nident_big s (.inr h0)
        have h1 : ¬ (1 : Int) ≤ (s.length : Int) := by omega
        clear HJ h0
        go_wp2
        go_ret
        exact ⟨by rw [E.out]; rfl, rfl⟩
      · have h1 : (1 : Int) ≤ (s.length : Int) := by omega
        by_cases h2 : s.length ≤ 200
        · have h2' : (s.length : Int) ≤ 200 := by omega
          have hat := HA.out 0 (by omega)
          have hcb := hz.out 0
          have E : Hid (nident s = !lnumb (s.getD 0 0)) := nident_good s HJ.out (by omega) h2
          generalize s.getD 0 0 = c at hat hcb E
          obtain ⟨c0, c255⟩ := hcb
          have Q : Hid _ := fun W => rnumber_any c W c0 c255
          clear HJ
          go_wp2_with fail
          refine Calls.mono (Q.out _) ?_
          rintro e w1 ⟨rfl, rfl⟩
          go_wp2
          go_ret
          exact ⟨by rw [E.out]; rfl, rfl⟩
        · have h2' : ¬ (s.length : Int) ≤ 200 := by omega
          have E : Hid (nident s = false) := nident_big s (.inl (by omega))
          clear HJ
          go_wp2
          go_ret
          exact ⟨by rw [E.out]; rfl, rfl⟩

theorem run_tail (s : List Int) (k : Nat) (hk : k ≤ s.length) (ii : Int) (hi : ii = (k : Int)) : ∀ W, (Instr.slice 9 (.string (strOfNums s)) (some (.int .i64 ii)) none none).run Tryz.prog W = .ok (.string (strOfNums (s.drop k))) W := fun W => by
  rw [run_cut_to (strOfNums s) k ii hi (by rw [strOfNums_size]; exact hk) W, str_cut, strOfNums_size, List.take_of_length_le (by simp)]

end Go.Proofs.YtcnjjhdmnagkgaaGreatDoor

namespace Go.Proofs.YtcnjjhdmnagkgaaGreatDoor
open Go.RowKit
set_option linter.unusedVariables false

def DigJ (N n : Int) (D : List Int) (f : Nat) : Prop :=
  (D = [] ∧ n = N ∧ f = 20) ∨ (D ≠ [] ∧ n = 0 ∧ qdg 20 N = D) ∨ (D ≠ [] ∧ 0 < n ∧ qdg 20 N = qdg f n ++ D)

theorem DigJ.step {N n : Int} {D : List Int} {f : Nat} (h : DigJ N n D (f + 1)) (hn : 0 ≤ n) (hgo : 0 < n ∨ D = []) : DigJ N (n / 10) ((48 + n % 10) :: D) f := by
  have key : ∀ t, qdg 20 N = qdg (f + 1) n ++ t → DigJ N (n / 10) ((48 + n % 10) :: t) f := by
    intro t e
    by_cases k : n < 10
    · refine .inr (.inl ⟨by simp, by omega, ?_⟩)
      rw [e, qdg_ten f n k, show n % 10 = n by omega]
      rfl
    · refine .inr (.inr ⟨by simp, by omega, ?_⟩)
      rw [e, qdg_more f n (by omega)]
      simp
  rcases h with ⟨rfl, rfl, h⟩ | ⟨h1, h2, _⟩ | ⟨_, h2, h3⟩
  · exact key [] (by rw [h]; simp)
  · rcases hgo with h | h
    · omega
    · exact absurd h h1
  · exact key D h3

set_option maxHeartbeats 1000000 in
theorem rdig_any (N : Int) (w : World) (h0 : 0 ≤ N) (h1 : N ≤ 18446744073709551615) :
    Calls Tryz.prog 101 #[.int .u64 N] w fun e w' => e = .returned (.string (strOfNums (qdg 20 N))) ∧ w = w' := by
  go_enter Tryz.func101, Tryz.ntmps101
  go_wp2
  go_loopw [0, 3] (fun m v wr => ∃ (n : Int) (D : List Int) (f : Nat), m = .int .u64 n ∧ v = .string (strOfNums D) ∧ 0 ≤ n ∧ n ≤ 18446744073709551615 ∧ D.length + f ≤ 20 ∧ Hid (n < 10 ^ f) ∧ Hid (DigJ N n D f) ∧ wr = w)
    (fun m v _ => (intOf m).toNat + (match v with | .string b => if b.size = 0 then 1 else 0 | _ => 0))
  case atStart => exact ⟨N, [], 20, rfl, rfl, h0, h1, by simp, (by show N < 10 ^ 20; omega), .inl ⟨rfl, rfl, rfl⟩, rfl⟩
  case round =>
    obtain ⟨n, D, f, rfl, rfl, n0, n1, hD, HF, HJ, rfl⟩ := hrel
    by_cases hgo : 0 < n ∨ D = []
    · obtain ⟨g, rfl⟩ : ∃ g, f = g + 1 := by
        cases f with
        | zero =>
          have hf := HF.out
          simp at hf
          rcases HJ.out with ⟨_, _, h⟩ | ⟨h, h2, _⟩ | ⟨_, h2, _⟩
          · omega
          · rcases hgo with h' | h'
            · omega
            · exact absurd h' h
          · omega
        | succ g => exact ⟨g, rfl⟩
      have HF' : Hid (n / 10 < 10 ^ g) := by show _ < _; have := HF.out; rw [Int.pow_succ] at this; omega
      have HJ' : Hid (DigJ N (n / 10) ((48 + n % 10) :: D) g) := HJ.out.step n0 hgo
      have henc := enc_1 (48 + n % 10) (by omega) (by omega)
      have hadd := fun W => run_add W [48 + n % 10] D (by simp only [List.length_cons, List.length_nil]; omega)
      have hs1 := strOfNums_size ((48 + n % 10) :: D)
      simp only [List.cons_append, List.nil_append, List.length_cons] at hadd hs1
      have HS1 : Hid _ := hs1
      clear HF HJ hs1
      by_cases hn : 0 < n
      · clear hgo
        have HM : Hid ((intOf (.int .u64 (n / 10))).toNat < (intOf (.int .u64 n)).toNat) := by show (n / 10).toNat < n.toNat; omega
        go_wp2
        go_roundw
        case rel => exact ⟨n / 10, _, g, rfl, rfl, by omega, by omega, by simp only [List.length_cons]; omega, HF', HJ', by first | rfl | trivial⟩
        case measure =>
          have := HM.out; have e := HS1.out
          simp only [e]
          simp at this ⊢
          omega
      · have hD0 : D = [] := by rcases hgo with h | h; exact absurd h hn; exact h
        subst hD0
        obtain rfl : n = 0 := by omega
        have hne : ((strOfNums []).toList == []) = true := by rw [str_list]; rfl
        have hs0 : (strOfNums []).size = 0 := strOfNums_size []
        clear hgo
        have e48 : Utf8.encode 48 ++ strOfNums [] = strOfNums [48] := by rw [enc_1 48 (by omega) (by omega), str_app]; rfl
        have E48 : Hid _ := e48
        have s48 : (strOfNums [48]).size = 1 := strOfNums_size [48]
        clear e48 henc hadd HS1
        go_wp2
        rw [E48.out]
        go_roundw
        case rel => exact ⟨0, [48], g, rfl, rfl, by omega, by omega, by simp only [List.length_cons, List.length_nil] at hD ⊢; omega, HF', HJ', by first | rfl | trivial⟩
        case measure => simp [s48, hs0]
    · have hn : n = 0 := by omega
      subst hn
      have E : Hid (qdg 20 N = D) := by
        rcases HJ.out with ⟨h, _, _⟩ | ⟨_, _, h⟩ | ⟨_, h, _⟩
        · exact absurd (Or.inr h) hgo
        · exact h
        · omega
      have hne : ((strOfNums D).toList == []) = false := by
        cases D with
        | nil => exact absurd (Or.inr rfl) hgo
        | cons c r => exact str_ne c r
      clear HJ HF hgo
      go_wp2
      go_ret
      exact ⟨by rw [E.out]; rfl, rfl⟩

end Go.Proofs.YtcnjjhdmnagkgaaGreatDoor

namespace Go.Proofs.YtcnjjhdmnagkgaaGreatDoor
open Go.RowKit
set_option linter.unusedVariables false
set_option linter.unusedSimpArgs false

def tintd (minus : Bool) (d : List Int) : Int × Bool × Bool :=
  if (qnum d).2 = false ∨ qdg 20 (qnum d).1 ≠ d ∨ (minus = true ∧ ((qnum d).1 = 0 ∨ 9223372036854775808 < (qnum d).1)) then (0, false, false) else ((qnum d).1, minus, true)

def tint (s : List Int) : Int × Bool × Bool := if s.getD 0 0 = 45 then tintd true (s.drop 1) else tintd false s

theorem qnm_bd (base : Int) (hb : 0 < base) : ∀ (s : List Int) (n : Int), 0 ≤ n → n ≤ 18446744073709551615 → 0 ≤ (qnm base s n).1 ∧ (qnm base s n).1 ≤ 18446744073709551615
  | [], n, h0, h1 => by rw [qnm]; exact ⟨h0, h1⟩
  | c :: r, n, h0, h1 => by
    rw [qnm]
    by_cases h : base ≤ dgt c ∨ (18446744073709551615 - dgt c) / base < n
    · rw [if_pos h]; decide
    · rw [if_neg h]
      have hd := dgt_bd c
      have hm : 0 ≤ n * base := Int.mul_nonneg h0 (by omega)
      have hle : n ≤ (18446744073709551615 - dgt c) / base := by omega
      have := Int.mul_le_of_le_ediv hb hle
      exact qnm_bd base hb r _ (by omega) (by omega)

theorem qnum_bd (s : List Int) : 0 ≤ (qnum s).1 ∧ (qnum s).1 ≤ 18446744073709551615 := by
  unfold qnum
  repeat' split
  all_goals first | (refine qnm_bd _ (by omega) _ _ (by omega) (by omega)) | (simp)

set_option maxHeartbeats 1000000 in
theorem rint_go (s : List Int) (m : Bool) (d : List Int) (w : World) (hm : s.getD 0 0 = 45 ∧ m = true ∧ d = s.drop 1 ∨ s.getD 0 0 ≠ 45 ∧ m = false ∧ d = s) (hz : Hid (∀ i, 0 ≤ s.getD i 0 ∧ s.getD i 0 ≤ 255)) (hlen : (s.length : Int) ≤ 1000000) :
    Calls Tryz.prog 60 #[.string (strOfNums s)] w fun e w' => e = .returned (.tuple #[.int .u64 (tintd m d).1, .bool (tintd m d).2.1, .bool (tintd m d).2.2]) ∧ Below w.heap.size w w' := by
  have hdz : ∀ c ∈ d, 0 ≤ c ∧ c ≤ 255 := by
    rcases hm with ⟨_, _, rfl⟩ | ⟨_, _, rfl⟩
    · exact fun c hc => mem_bd hz.out c (List.mem_of_mem_drop hc)
    · exact mem_bd hz.out
  have hdl : (d.length : Int) ≤ 1000000 := by
    rcases hm with ⟨_, _, rfl⟩ | ⟨_, _, rfl⟩
    · rw [List.length_drop]; omega
    · exact hlen
  have q := fun W => rnum_any d W (getD_bd hdz) (by omega)
  have hb := qnum_bd d
  have q2 := fun W => rdig_any (qnum d).1 W hb.1 hb.2
  have hdg := qdg_bd 20 (qnum d).1 hb.1
  have heq := str_eq (z1 := qdg 20 (qnum d).1) (z2 := d) (fun c hc => by have := hdg.1 c hc; omega) hdz
  have HD : Hid (tintd m d = if (qnum d).2 = false ∨ qdg 20 (qnum d).1 ≠ d ∨ (m = true ∧ ((qnum d).1 = 0 ∨ 9223372036854775808 < (qnum d).1)) then (0, false, false) else ((qnum d).1, m, true)) := rfl
  generalize (qnum d).1 = N at q q2 hb heq HD
  generalize (qnum d).2 = B at q HD
  obtain ⟨N0, N1⟩ := hb
  have Q1 : Hid _ := q
  have Q2 : Hid _ := q2
  clear q q2 hdg hdz
  rcases hm with ⟨h45, rfl, hd⟩ | ⟨h45, rfl, hd⟩
  · have hs0 : s ≠ [] := fun h => by rw [h] at h45; simp at h45
    have hl : 0 < s.length := List.length_pos_iff.2 hs0
    obtain ⟨X, hX⟩ : ∃ X, X = strOfNums s := ⟨_, rfl⟩
    have hne : (X.toList == []) = false := by
      rw [hX]
      cases s with
      | nil => exact absurd rfl hs0
      | cons c r => exact str_ne c r
    have hsz : X.size = s.length := by rw [hX]; exact strOfNums_size s
    have hat : ((X[0]'(hsz ▸ hl)).toNat : Int) = 45 := by subst hX; rw [← h45]; exact str_at s hz.out 0 _
    have h1 : ∀ W, (Instr.slice 9 (.string X) (some (.int .i64 1)) none none).run Tryz.prog W = .ok (.string (strOfNums d)) W := by subst hX; rw [hd]; exact run_tail s 1 (by omega) _ rfl
    rw [← hX]
    clear hX h45 hd hs0
    generalize strOfNums d = DS at h1 Q1 heq
    cases B with
    | false =>
      have HE : Hid (tintd true d = (0, false, false)) := by show _ = _; rw [HD.out, if_pos (.inl rfl)]
      clear HD heq
      go_enter Tryz.func60, Tryz.ntmps60
      go_wp2_with fail
      refine Calls.mono (Q1.out _) ?_
      rintro e w1 ⟨rfl, hb1⟩
      go_wp2
      go_ret3
      exact ⟨by rw [HE.out]; rfl, hb1⟩
    | true =>
      by_cases hqd : qdg 20 N = d
      · rw [show (qdg 20 N == d) = true by simpa using hqd] at heq
        by_cases hN0 : N = 0
        · subst hN0
          have HE : Hid (tintd true d = (0, false, false)) := by show _ = _; rw [HD.out, if_pos (.inr (.inr ⟨rfl, .inl rfl⟩))]
          generalize strOfNums (qdg 20 0) = DG at Q2 heq
          clear HD hqd
          go_enter Tryz.func60, Tryz.ntmps60
          go_wp2_with fail
          refine Calls.mono (Q1.out _) ?_
          rintro e w1 ⟨rfl, hb1⟩
          go_wp2_with fail
          refine Calls.mono (Q2.out _) ?_
          rintro e w2 ⟨rfl, rfl⟩
          go_wp2
          go_ret3
          exact ⟨by rw [HE.out]; rfl, hb1⟩
        have e0 : (N == 0) = false := by simpa using hN0
        by_cases hN1 : 9223372036854775808 < N
        · have HE : Hid (tintd true d = (0, false, false)) := by show _ = _; rw [HD.out, if_pos (.inr (.inr ⟨rfl, .inr hN1⟩))]
          generalize strOfNums (qdg 20 N) = DG at Q2 heq
          clear HD hqd
          go_enter Tryz.func60, Tryz.ntmps60
          go_wp2_with fail
          refine Calls.mono (Q1.out _) ?_
          rintro e w1 ⟨rfl, hb1⟩
          go_wp2_with fail
          refine Calls.mono (Q2.out _) ?_
          rintro e w2 ⟨rfl, rfl⟩
          go_wp2
          go_ret3
          exact ⟨by rw [HE.out]; rfl, hb1⟩
        have HE : Hid (tintd true d = (N, true, true)) := by
          show _ = _
          rw [HD.out, if_neg]
          rintro (h | h | ⟨_, h | h⟩)
          · exact absurd h (by decide)
          · exact h hqd
          · exact hN0 h
          · exact hN1 h
        generalize strOfNums (qdg 20 N) = DG at Q2 heq
        clear HD hqd
        go_enter Tryz.func60, Tryz.ntmps60
        go_wp2_with fail
        refine Calls.mono (Q1.out _) ?_
        rintro e w1 ⟨rfl, hb1⟩
        go_wp2_with fail
        refine Calls.mono (Q2.out _) ?_
        rintro e w2 ⟨rfl, rfl⟩
        go_wp2
        go_ret3
        exact ⟨by rw [HE.out]; rfl, hb1⟩
      · rw [show (qdg 20 N == d) = false by simpa using hqd] at heq
        have HE : Hid (tintd true d = (0, false, false)) := by show _ = _; rw [HD.out, if_pos (.inr (.inl hqd))]
        generalize strOfNums (qdg 20 N) = DG at Q2 heq
        clear HD hqd
        go_enter Tryz.func60, Tryz.ntmps60
        go_wp2_with fail
        refine Calls.mono (Q1.out _) ?_
        rintro e w1 ⟨rfl, hb1⟩
        go_wp2_with fail
        refine Calls.mono (Q2.out _) ?_
        rintro e w2 ⟨rfl, rfl⟩
        go_wp2
        go_ret3
        exact ⟨by rw [HE.out]; rfl, hb1⟩
  · subst hd
    obtain ⟨X, hX⟩ : ∃ X, X = strOfNums d := ⟨_, rfl⟩
    rw [← hX] at heq Q1 ⊢
    have hsz : X.size = d.length := by rw [hX]; exact strOfNums_size d
    by_cases hs0 : d = []
    · have hne : (X.toList == []) = true := by rw [hX, hs0, str_list]; rfl
      clear hX h45 hs0
      cases B with
      | false =>
        have HE : Hid (tintd false d = (0, false, false)) := by show _ = _; rw [HD.out, if_pos (.inl rfl)]
        clear HD heq
        go_enter Tryz.func60, Tryz.ntmps60
        go_wp2_with fail
        refine Calls.mono (Q1.out _) ?_
        rintro e w1 ⟨rfl, hb1⟩
        go_wp2
        go_ret3
        exact ⟨by rw [HE.out]; rfl, hb1⟩
      | true =>
        by_cases hqd : qdg 20 N = d
        · rw [show (qdg 20 N == d) = true by simpa using hqd] at heq
          have HE : Hid (tintd false d = (N, false, true)) := by
            show _ = _
            rw [HD.out, if_neg]
            rintro (h | h | ⟨h, _⟩)
            · exact absurd h (by decide)
            · exact h hqd
            · exact absurd h (by decide)
          generalize strOfNums (qdg 20 N) = DG at Q2 heq
          clear HD hqd
          go_enter Tryz.func60, Tryz.ntmps60
          go_wp2_with fail
          refine Calls.mono (Q1.out _) ?_
          rintro e w1 ⟨rfl, hb1⟩
          go_wp2_with fail
          refine Calls.mono (Q2.out _) ?_
          rintro e w2 ⟨rfl, rfl⟩
          go_wp2
          go_ret3
          exact ⟨by rw [HE.out]; rfl, hb1⟩
        · rw [show (qdg 20 N == d) = false by simpa using hqd] at heq
          have HE : Hid (tintd false d = (0, false, false)) := by show _ = _; rw [HD.out, if_pos (.inr (.inl hqd))]
          generalize strOfNums (qdg 20 N) = DG at Q2 heq
          clear HD hqd
          go_enter Tryz.func60, Tryz.ntmps60
          go_wp2_with fail
          refine Calls.mono (Q1.out _) ?_
          rintro e w1 ⟨rfl, hb1⟩
          go_wp2_with fail
          refine Calls.mono (Q2.out _) ?_
          rintro e w2 ⟨rfl, rfl⟩
          go_wp2
          go_ret3
          exact ⟨by rw [HE.out]; rfl, hb1⟩
    · have hne : (X.toList == []) = false := by
        rw [hX]
        cases d with
        | nil => exact absurd rfl hs0
        | cons c r => exact str_ne c r
      have hl : 0 < d.length := List.length_pos_iff.2 hs0
      have hat : ((X[0]'(hsz ▸ hl)).toNat : Int) = d.getD 0 0 := by subst hX; exact str_at d hz.out 0 _
      generalize d.getD 0 0 = c0 at hat h45
      have e45 : (c0 == 45) = false := by simpa using h45
      clear hX h45 hs0
      cases B with
      | false =>
        have HE : Hid (tintd false d = (0, false, false)) := by show _ = _; rw [HD.out, if_pos (.inl rfl)]
        clear HD heq
        go_enter Tryz.func60, Tryz.ntmps60
        go_wp2_with fail
        refine Calls.mono (Q1.out _) ?_
        rintro e w1 ⟨rfl, hb1⟩
        go_wp2
        go_ret3
        exact ⟨by rw [HE.out]; rfl, hb1⟩
      | true =>
        by_cases hqd : qdg 20 N = d
        · rw [show (qdg 20 N == d) = true by simpa using hqd] at heq
          have HE : Hid (tintd false d = (N, false, true)) := by
            show _ = _
            rw [HD.out, if_neg]
            rintro (h | h | ⟨h, _⟩)
            · exact absurd h (by decide)
            · exact h hqd
            · exact absurd h (by decide)
          generalize strOfNums (qdg 20 N) = DG at Q2 heq
          clear HD hqd
          go_enter Tryz.func60, Tryz.ntmps60
          go_wp2_with fail
          refine Calls.mono (Q1.out _) ?_
          rintro e w1 ⟨rfl, hb1⟩
          go_wp2_with fail
          refine Calls.mono (Q2.out _) ?_
          rintro e w2 ⟨rfl, rfl⟩
          go_wp2
          go_ret3
          exact ⟨by rw [HE.out]; rfl, hb1⟩
        · rw [show (qdg 20 N == d) = false by simpa using hqd] at heq
          have HE : Hid (tintd false d = (0, false, false)) := by show _ = _; rw [HD.out, if_pos (.inr (.inl hqd))]
          generalize strOfNums (qdg 20 N) = DG at Q2 heq
          clear HD hqd
          go_enter Tryz.func60, Tryz.ntmps60
          go_wp2_with fail
          refine Calls.mono (Q1.out _) ?_
          rintro e w1 ⟨rfl, hb1⟩
          go_wp2_with fail
          refine Calls.mono (Q2.out _) ?_
          rintro e w2 ⟨rfl, rfl⟩
          go_wp2
          go_ret3
          exact ⟨by rw [HE.out]; rfl, hb1⟩

theorem rint_any (s : List Int) (w : World) (hz : Hid (∀ i, 0 ≤ s.getD i 0 ∧ s.getD i 0 ≤ 255)) (hlen : (s.length : Int) ≤ 1000000) :
    Calls Tryz.prog 60 #[.string (strOfNums s)] w fun e w' => e = .returned (.tuple #[.int .u64 (tint s).1, .bool (tint s).2.1, .bool (tint s).2.2]) ∧ Below w.heap.size w w' := by
  unfold tint
  by_cases h : s.getD 0 0 = 45
  · rw [if_pos h]
    exact rint_go s true (s.drop 1) w (.inl ⟨h, rfl, rfl⟩) hz hlen
  · rw [if_neg h]
    exact rint_go s false s w (.inr ⟨h, rfl, rfl⟩) hz hlen

def scell (z : List Int) : Value := .string (strOfNums z)

def byts (z : List Int) : Prop := ∀ c ∈ z, 0 ≤ c ∧ c ≤ 255

def Ss (w : World) (a : Option Addr) (len cap : Nat) (zs : List (List Int)) : Prop :=
  zs.length = len ∧ (len : Int) ≤ 9223372036854775807 ∧ len ≤ cap ∧ (a = none → cap = 0) ∧ (∀ z ∈ zs, byts z) ∧
    (0 < len → ∃ b off, a = some ⟨b, off, none⟩ ∧ b < w.heap.size ∧ ∀ i z, zs[i]? = some z → w.cell? ⟨b, off + i, none⟩ = some (scell z))

open Go.ChangeShapes Go.WideShapes Go.ChangeAt
theorem ss_open {H : Type} {enc : TypeId × Value → H} {W : World} {a : Option Addr} {len cap : Nat} {d : DataW H} {ps : List MemPlace}
    (h : DataW.Trod enc Tryz.prog W 0 (fun _ => true) true 40 (.slice a len cap) d ps) : ∃ zs, Ss W a len cap zs := by
  obtain ⟨fuel, hf⟩ := h
  have hf' : DataW.trod enc Tryz.prog W 0 (fun _ => true) true fuel 40 [.slice a len cap] = some (d, ps) := by simpa [Value.cells] using hf
  rcases open_strings Tryz.underlying40 Tryz.underlying9 (by kernel_rfl) hf' with ⟨hcs, _⟩ | ⟨x, l, c, ss, hcs, _, hl, hm, hz, _, hcell, hws⟩
  · simp at hcs
    obtain ⟨rfl, rfl, rfl⟩ := hcs
    exact ⟨[], rfl, by omega, Nat.le_refl _, fun _ => rfl, by simp, fun h => absurd h (by omega)⟩
  · simp at hcs
    obtain ⟨rfl, rfl, rfl⟩ := hcs
    simp only [if_true] at hz
    have hex : ∀ s : ByteArray, ∃ z : List Int, s = strOfNums z ∧ byts z := fun s => by
      obtain ⟨z, h1, h2⟩ := str_nums s
      exact ⟨z, h1, mem_bd h2⟩
    refine ⟨(ss.take len).map (fun s => (hex s).choose), by simp; omega, by unfold maxLen at hm; omega, hl, fun h => by simp at h, ?_, ?_⟩
    · intro z hz
      obtain ⟨s, _, rfl⟩ := List.mem_map.1 hz
      exact (hex s).choose_spec.2
    · intro hp
      obtain ⟨b, off, spot⟩ := x
      have hc0 := hcell 0 (by omega)
      have hspot : spot = none := by simpa [Addr.add] using World.cell?_spot hc0
      subst hspot
      refine ⟨b, off, rfl, ?_, ?_⟩
      · rcases Nat.lt_or_ge b W.heap.size with h | h
        · exact h
        · simp [World.cell?, Addr.add, Array.getElem?_eq_none h] at hc0
      · intro i z hi
        rw [List.getElem?_map] at hi
        cases hs : (ss.take len)[i]? with
        | none => rw [hs] at hi; simp at hi
        | some s =>
          rw [hs] at hi
          simp at hi
          subst hi
          have hil : i < len := by
            have := (List.getElem?_eq_some_iff.1 hs).1
            simp at this
            omega
          have := hcell i (by omega)
          have hp : (⟨b, off, none⟩ : Addr).add i = ⟨b, off + i, none⟩ := by unfold Addr.add; split <;> simp_all
          rw [hp] at this
          rw [this]
          rw [List.getElem?_take, if_pos hil] at hs
          simp only [List.getD, hs, Option.getD_some, scell]
          rw [← (hex s).choose_spec.1]

def nwords : List (List Int) := [[], [100, 111, 117, 98, 108, 101], [102, 108, 111, 97, 116], [105, 110, 116, 54, 52], [117, 105, 110, 116, 54, 52], [105, 110, 116, 51, 50], [102, 105, 120, 101, 100, 54, 52], [102, 105, 120, 101, 100, 51, 50], [98, 111, 111, 108], [115, 116, 114, 105, 110, 103], [], [], [98, 121, 116, 101, 115], [117, 105, 110, 116, 51, 50], [], [115, 102, 105, 120, 101, 100, 51, 50], [115, 102, 105, 120, 101, 100, 54, 52], [115, 105, 110, 116, 51, 50], [115, 105, 110, 116, 54, 52]]

end Go.Proofs.YtcnjjhdmnagkgaaGreatDoor
