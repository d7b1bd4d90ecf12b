/- The contract of the reference's own comments of a token (doc), over the turned text. -/
import Derived.Test.YtjkcmcefmciinaaDoorLRef2
import Derived.Test.YtjkcmcefmciinaaDoorQNum
namespace Go.Proofs.YtjkcmcefmciinaaDoor
open Go.RowKit
set_option linter.unusedVariables false
set_option linter.unusedSimpArgs false

theorem lown_len (s : List Int) (frm to : Nat) (t : List Int) (h : lown s frm to = some t) : t.length + frm ≤ to := by
  unfold lown at h
  simp only at h
  have := lrun_ge lblank s to (to - frm) frm
  by_cases k : lrun lblank s to (to - frm) frm + 2 ≤ to ∧ s.getD (lrun lblank s to (to - frm) frm) 0 = 47 ∧ s.getD (lrun lblank s to (to - frm) frm + 1) 0 = 47
  · rw [if_pos k] at h
    simp only [Option.some.injEq] at h
    rw [← h]
    simp only [List.length_drop, List.length_take]
    omega
  · rw [if_neg k] at h; simp at h

set_option maxHeartbeats 2000000 in
theorem rdoc_any {w : World} {a : Option Addr} {len cap : Nat} {ms : List Nat} (s : List Int) (k : Nat) (hI : Hid (Is w a len cap ms)) (hz : Hid (∀ i, 0 ≤ s.getD i 0 ∧ s.getD i 0 ≤ 255)) (hlen : (s.length : Int) ≤ 100000) (hk : k ≤ s.length) (hl6 : len ≤ 1000000) (HM : Hid (∀ i, ms.getD i 0 ≤ 1000000)) :
    Calls Tryd.prog 22 #[.string (strOfNums s), .int .i64 (k : Int), .slice a len cap] w fun e w' => e = .returned (.string (strOfNums (ldoc s k ms))) ∧ w = w' := by
  have hsz := strOfNums_size s
  have HA : Hid (∀ k, (h : k < s.length) → (((strOfNums s)[k]'(by rw [hsz]; exact h)).toNat : Int) = s.getD k 0) := fun k h => str_at s hz.out k _
  have HLN : Hid (∀ j W, j ≤ s.length → Calls Tryd.prog 28 #[.string (strOfNums s), .int .i64 (j : Int)] W fun e w' => e = .returned (.int .i64 ((lnAt s j : Nat) : Int)) ∧ W = w') := fun j W hj => rlineAt_any s j W hz (by omega) hj
  have HOW : Hid (∀ f t W, f ≤ t → t ≤ s.length → Calls Tryd.prog 41 #[.string (strOfNums s), .int .i64 (f : Int), .int .i64 (t : Int)] W fun e w' => e = .returned (.tuple #[.string (strOfNums ((lown s f t).getD [])), .bool (lown s f t).isSome]) ∧ W = w') := fun f t W h1 h2 => rown_any s f t W hz (by omega) h1 h2
  have HIN : Hid (∀ j, j ≤ s.length → Calls Tryd.prog 42 #[.slice a len cap, .int .i64 (j : Int)] w fun e w' => e = .returned (.bool (linside ms j)) ∧ w = w') := fun j hj => rinside_any hI j hl6 (by omega) HM
  obtain ⟨R, hR⟩ : ∃ R, R = ldoc s k ms := ⟨_, rfl⟩
  rw [← hR]
  have HR : Hid (R = ldoc s k ms) := hR
  clear hR
  have hfk := lnAt_le s k
  obtain ⟨F, hF⟩ : ∃ F, F = lnAt s k := ⟨_, rfl⟩
  have q := fun W => HLN.out k W hk
  rw [← hF] at hfk q
  have HF : Hid (F = lnAt s k) := hF
  have Q : Hid _ := q
  clear hF q
  generalize strOfNums s = S at hsz HA HLN HOW Q
  go_enter Tryd.func22, Tryd.ntmps22
  go_wp2_with fail
  refine Calls.mono (Q.out _) ?_
  rintro e w1 ⟨rfl, rfl⟩
  go_wp2
  go_loopw [8] (fun v wr => ∃ j : Nat, v = .int .i64 (j : Int) ∧ F ≤ j ∧ j ≤ k ∧ Hid (lrun lblank s k (k - F) F = lrun lblank s k (k - j) j) ∧ w = wr) (fun v _ => k - (intOf v).toNat)
  case atStart => exact ⟨F, rfl, by omega, hfk, rfl, rfl⟩
  case round =>
    obtain ⟨j, rfl, hFj, hjk, HQ, rfl⟩ := hrel
    by_cases hj : j < k
    · have hat := HA.out j (by omega)
      obtain ⟨c, hc⟩ : ∃ c, c = s.getD j 0 := ⟨_, rfl⟩
      have hcb := hz.out j
      have HQ' := HQ.out
      obtain ⟨m, hm⟩ : ∃ m, k - j = m + 1 := ⟨k - j - 1, by omega⟩
      rw [hm, lrun, show m = k - (j + 1) by omega] at HQ'
      rw [← hc] at hat hcb HQ'
      obtain ⟨c0, c255⟩ := hcb
      clear hc hm HQ
      have q := fun W => rblank_any c W c0 c255
      by_cases hbl : lblank c = true
      · rw [if_pos ⟨hj, hbl⟩] at HQ'
        rw [hbl] at q
        have HE : Hid _ := HQ'
        have QB : Hid _ := q
        clear HQ' q hbl
        go_wp2_with fail
        refine Calls.mono (QB.out _) ?_
        rintro e w1 ⟨rfl, rfl⟩
        go_wp2
        go_roundw
        case rel => first | exact ⟨j + 1, by go_num, by omega, by omega, HE, by first | rfl | trivial⟩ | ((repeat apply Exists.intro); exact ⟨⟨j + 1, by go_num, by omega, by omega, HE, by first | rfl | trivial⟩, rfl⟩)
        case measure => simp [intOf]; omega
      · have hbl' : lblank c = false := by simpa using hbl
        rw [if_neg (fun h => hbl h.2)] at HQ'
        have E : Hid (R = []) := by
          show _ = _
          rw [HR.out, ldoc, ← HF.out, HQ', if_neg (by omega)]
        rw [hbl'] at q
        have QB : Hid _ := q
        clear HQ' q hbl hbl'
        go_wp2_with fail
        refine Calls.mono (QB.out _) ?_
        rintro e w1 ⟨rfl, rfl⟩
        go_wp2
        go_ret
        exact ⟨by rw [E.out]; rfl, rfl⟩
    · obtain rfl : j = k := by omega
      have HE : Hid (R = ldl s ms F F []) := by
        show _ = _
        have := HQ.out
        rw [Nat.sub_self, lrun] at this
        rw [HR.out, ldoc, ← HF.out, this, if_pos rfl]
      clear HQ HR
      go_wp2
      go_loopw [7, 9] (fun v o wr => ∃ (n f : Nat) (out : List Int), v = .int .i64 (n : Int) ∧ o = .string (strOfNums out) ∧ n ≤ f ∧ n ≤ j ∧ out.length + n ≤ s.length ∧ Hid (R = ldl s ms f n out) ∧ w = wr) (fun v _ _ => (intOf v).toNat)
      case atStart => exact ⟨F, F, [], rfl, rfl, by omega, by omega, by simp; omega, HE, rfl⟩
      case round =>
        obtain ⟨n, f, out, rfl, rfl, hnf, hnj, hol, HQ, rfl⟩ := hrel
        clear HE
        by_cases hn : n = 0
        · subst hn
          have E : Hid (R = out) := by
            show _ = _
            rw [HQ.out]
            cases f with
            | zero => rfl
            | succ f => rw [ldl, if_pos rfl]
          clear HQ
          rw [show (((0 : Nat)) : Int) = 0 from rfl]
          go_wp2
          go_ret
          exact ⟨by rw [E.out]; rfl, rfl⟩
        · obtain ⟨m, rfl⟩ : ∃ m, n = m + 1 := ⟨n - 1, by omega⟩
          obtain ⟨g, rfl⟩ : ∃ g, f = g + 1 := ⟨f - 1, by omega⟩
          have HQ' := HQ.out
          rw [ldl, if_neg (by omega), show m + 1 - 1 = m by omega] at HQ'
          have hpm := lnAt_le s m
          obtain ⟨p, hp⟩ : ∃ p, p = lnAt s m := ⟨_, rfl⟩
          have q1 := fun W => HLN.out m W (by omega)
          have q2 := fun W => HOW.out p m W (by omega) (by omega)
          have q3 := HIN.out p (by omega)
          have q4 := HIN.out m (by omega)
          rw [← hp] at hpm q1 HQ'
          clear hp HQ
          have Q1 : Hid _ := q1
          clear q1
          rw [show (((m + 1 : Nat)) : Int) = (m : Int) + 1 by omega]
          have hm0 : (0 : Int) < (m : Int) + 1 := by omega
          cases ho : lown s p m with
          | none =>
            rw [ho] at q2 HQ'
            have E : Hid (R = out) := HQ'
            have Q2 : Hid _ := q2
            clear q2 q3 q4 HQ' ho
            go_wp2_with fail
            refine Calls.mono (Q1.out _) ?_
            rintro e w1 ⟨rfl, rfl⟩
            go_wp2_with fail
            refine Calls.mono (Q2.out _) ?_
            rintro e w1 ⟨rfl, rfl⟩
            go_wp2
            go_ret
            exact ⟨by rw [E.out]; rfl, rfl⟩
          | some t =>
            have htl := lown_len s p m t ho
            rw [ho] at q2 HQ'
            have Q2 : Hid _ := q2
            clear q2
            simp only at HQ'
            cases h3 : linside ms p with
            | true =>
              rw [h3] at q3 HQ'
              have E : Hid (R = out) := by show _ = _; simpa using HQ'
              have Q3 : Hid _ := q3
              clear q3 q4 HQ' ho h3
              go_wp2_with fail
              refine Calls.mono (Q1.out _) ?_
              rintro e w1 ⟨rfl, rfl⟩
              go_wp2_with fail
              refine Calls.mono (Q2.out _) ?_
              rintro e w1 ⟨rfl, rfl⟩
              go_wp2_with fail
              refine Calls.mono Q3.out ?_
              rintro e w1 ⟨rfl, rfl⟩
              go_wp2
              go_ret
              exact ⟨by rw [E.out]; rfl, rfl⟩
            | false =>
              rw [h3] at q3 HQ'
              have Q3 : Hid _ := q3
              cases h4 : linside ms m with
              | true =>
                rw [h4] at q4 HQ'
                have E : Hid (R = out) := by show _ = _; simpa using HQ'
                have Q4 : Hid _ := q4
                clear q3 q4 HQ' ho h3 h4
                go_wp2_with fail
                refine Calls.mono (Q1.out _) ?_
                rintro e w1 ⟨rfl, rfl⟩
                go_wp2_with fail
                refine Calls.mono (Q2.out _) ?_
                rintro e w1 ⟨rfl, rfl⟩
                go_wp2_with fail
                refine Calls.mono Q3.out ?_
                rintro e w1 ⟨rfl, rfl⟩
                go_wp2_with fail
                refine Calls.mono Q4.out ?_
                rintro e w1 ⟨rfl, rfl⟩
                go_wp2
                go_ret
                exact ⟨by rw [E.out]; rfl, rfl⟩
              | false =>
                rw [h4] at q4 HQ'
                have E : Hid (R = ldl s ms g p (t ++ [10] ++ out)) := by show _ = _; simpa using HQ'
                have Q4 : Hid _ := q4
                clear q3 q4 HQ' ho h3 h4
                have a1 : ∀ W, (Op.stringOp .add (strOfNums t) { data := #[10] }).run Tryd.prog W = .ok (.string (strOfNums (t ++ [10]))) W := fun W => run_add W t [10] (by simp only [List.length_cons, List.length_nil]; omega)
                have a2 : ∀ W, (Op.stringOp .add (strOfNums (t ++ [10])) (strOfNums out)).run Tryd.prog W = .ok (.string (strOfNums (t ++ [10] ++ out))) W := fun W => run_add W (t ++ [10]) out (by simp only [List.length_append, List.length_cons, List.length_nil]; omega)
                go_wp2_with fail
                refine Calls.mono (Q1.out _) ?_
                rintro e w1 ⟨rfl, rfl⟩
                go_wp2_with fail
                refine Calls.mono (Q2.out _) ?_
                rintro e w1 ⟨rfl, rfl⟩
                rw [Option.getD_some]
                go_wp2_with fail
                refine Calls.mono Q3.out ?_
                rintro e w1 ⟨rfl, rfl⟩
                go_wp2_with fail
                refine Calls.mono Q4.out ?_
                rintro e w1 ⟨rfl, rfl⟩
                go_wp2
                go_roundw
                case rel => exact ⟨p, g, t ++ [10] ++ out, rfl, by simp, by omega, by omega, by simp only [List.length_append, List.length_cons, List.length_nil]; omega, E, by first | rfl | trivial⟩
                case measure => simp [intOf]; omega

end Go.Proofs.YtjkcmcefmciinaaDoor
