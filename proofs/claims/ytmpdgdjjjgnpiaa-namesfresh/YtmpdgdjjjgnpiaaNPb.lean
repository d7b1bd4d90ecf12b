/- The program's own run, Ident. -/
import Derived.Test.YtmpdgdjjjgnpiaaNPa
namespace Go.Proofs.Ytmpdgdjjjgnpiaa
open Go.RowKit
set_option linter.unusedVariables false
set_option linter.unusedSimpArgs false

set_option maxHeartbeats 1000000 in
theorem pnrun_any (s : List Int) (w : World) (hz : Hid (∀ i, 0 ≤ s.getD i 0 ∧ s.getD i 0 ≤ 255)) (hlen : (s.length : Int) ≤ 9223372036854775807) :
    Calls Try.prog 30 #[.string (strOfNums s)] w fun e w' => ∃ m : Nat, e = .returned (.int .i64 (m : Int)) ∧ m ≤ s.length ∧ decide (∀ i, i < s.length → nok s i = true) = decide (m = s.length) ∧ Below w.heap.size w w' := by
  have hsz := strOfNums_size s
  have HD : Hid _ := dec_at s hz.out
  generalize strOfNums s = S at hsz HD
  go_enter Try.func30, Try.ntmps30
  go_wp2
  refine wp_scope_straight ?_
  go_wp2
  go_step3
  rename_i hK
  refine hK _ _ ?_
  clear hK
  go_wp2
  go_loopw [3] (fun v wr => ∃ k : Nat, v = .int .i64 (s.length : Int) ∧ wr = w.iter S k ∧ k ≤ s.length ∧ Hid (∀ j, j < k → nok s j = true)) (fun _ wr => s.length - wr.iterPos w.heap.size)
  case atStart => exact ⟨0, rfl, rfl, by omega, fun j hj => absurd hj (by omega)⟩
  case round =>
    obtain ⟨k, rfl, rfl, hk, HJ⟩ := hrel
    by_cases hkl : k < s.length
    · have hnx : ∀ ty, (Instr.next (.pointer (some ⟨w.heap.size, 0, none⟩)) true ty).run Try.prog (w.iter S k) = _ := fun ty => run_next_any w S k ty (by omega)
      have hc0 := (hz.out k).1
      have hc1 := (hz.out k).2
      rcases HD.out k hkl with ⟨h1, h2, h3⟩ | ⟨h1, h2, h3, h4, h5, h6⟩
      · rw [h2, h3] at hnx
        clear h2 h3
        have hNK : nok s k = (nlet (s.getD k 0) || (lnumb (s.getD k 0) && decide (0 < k))) := rfl
        generalize s.getD k 0 = c at hnx hc0 hc1 hNK h1
        have q1 := fun W => pnlet_any c W hc0 (by omega)
        have q2 := fun W => pndigit_any c W hc0 (by omega)
        have c31 : c ≤ 2147483647 := by omega
        cases hl : nlet c with
        | true =>
          rw [hl] at q1 hNK
          rw [Bool.true_or] at hNK
          have Q1 : Hid _ := q1
          have HJ2 : Hid (∀ j, j < k + 1 → nok s j = true) := fun j hj => by
            by_cases e : j = k
            · rw [e]; exact hNK
            · exact HJ.out j (by omega)
          clear q1 q2 hl hNK HJ
          go_wp2_with fail
          refine Calls.mono (Q1.out _) ?_
          rintro e w1 ⟨rfl, rfl⟩
          go_wp2
          go_roundw
          case rel => first | exact ⟨k + 1, rfl, rfl, by omega, HJ2⟩ | ((repeat apply Exists.intro); exact ⟨⟨k + 1, rfl, rfl, by omega, HJ2⟩, rfl⟩)
          case measure => first | (simp; done) | (simp; omega)
        | false =>
          rw [hl, Bool.false_or] at hNK
          rw [hl] at q1
          have Q1 : Hid _ := q1
          cases hd : lnumb c with
          | true =>
            rw [hd, Bool.true_and] at hNK
            rw [hd] at q2
            have Q2 : Hid _ := q2
            by_cases k0 : 0 < k
            · rw [decide_eq_true k0] at hNK
              have kk : (0 : Int) < (k : Int) := by omega
              have HJ2 : Hid (∀ j, j < k + 1 → nok s j = true) := fun j hj => by
                by_cases e : j = k
                · rw [e]; exact hNK
                · exact HJ.out j (by omega)
              clear q1 q2 hl hd hNK HJ
              go_wp2_with fail
              refine Calls.mono (Q1.out _) ?_
              rintro e w1 ⟨rfl, rfl⟩
              go_wp2_with fail
              refine Calls.mono (Q2.out _) ?_
              rintro e w1 ⟨rfl, rfl⟩
              go_wp2
              go_roundw
              case rel => first | exact ⟨k + 1, rfl, rfl, by omega, HJ2⟩ | ((repeat apply Exists.intro); exact ⟨⟨k + 1, rfl, rfl, by omega, HJ2⟩, rfl⟩)
              case measure => first | (simp; done) | (simp; omega)
            · rw [decide_eq_false k0] at hNK
              obtain rfl : k = 0 := by omega
              have E : Hid (decide (∀ i, i < s.length → nok s i = true) = decide (0 = s.length)) := by
                show _ = _
                rw [decide_eq_false (p := 0 = s.length) (by omega), decide_eq_false (fun h => by have := h 0 hkl; rw [hNK] at this; simp at this)]
              clear q1 q2 hl hd hNK HJ
              go_wp2_with fail
              refine Calls.mono (Q1.out _) ?_
              rintro e w1 ⟨rfl, rfl⟩
              go_wp2_with fail
              refine Calls.mono (Q2.out _) ?_
              rintro e w1 ⟨rfl, rfl⟩
              go_wp2
              simp only [Exit.noGoto]
              go_ret
              exact ⟨0, rfl, by omega, E.out, (Below.refl _ _).alloc (Nat.le_refl _) _⟩
          | false =>
            rw [hd, Bool.false_and] at hNK
            rw [hd] at q2
            have Q2 : Hid _ := q2
            have E : Hid (decide (∀ i, i < s.length → nok s i = true) = decide (k = s.length)) := by
              show _ = _
              rw [decide_eq_false (p := k = s.length) (by omega), decide_eq_false (fun h => by have := h k hkl; rw [hNK] at this; simp at this)]
            clear q1 q2 hl hd hNK HJ
            go_wp2_with fail
            refine Calls.mono (Q1.out _) ?_
            rintro e w1 ⟨rfl, rfl⟩
            go_wp2_with fail
            refine Calls.mono (Q2.out _) ?_
            rintro e w1 ⟨rfl, rfl⟩
            go_wp2
            simp only [Exit.noGoto]
            go_ret
            exact ⟨k, rfl, by omega, E.out, (Below.refl _ _).alloc (Nat.le_refl _) _⟩
      · generalize ((Utf8.decode S k).1 : Int) = c at hnx h2 h3
        generalize (Utf8.decode S k).2 = d at hnx h4 h5 h6
        have q1 := fun W => pnlet_any c W (by omega) (by omega)
        have q2 := fun W => pndigit_any c W (by omega) (by omega)
        rw [show nlet c = false from decide_eq_false (by omega)] at q1
        rw [show lnumb c = false from decide_eq_false (by omega)] at q2
        have hNK : nok s k = false := by
          unfold nok
          rw [show nlet (s.getD k 0) = false from decide_eq_false (by omega), show lnumb (s.getD k 0) = false from decide_eq_false (by omega)]
          rfl
        have E : Hid (decide (∀ i, i < s.length → nok s i = true) = decide (k = s.length)) := by
          show _ = _
          rw [decide_eq_false (p := k = s.length) (by omega), decide_eq_false (fun h => by have := h k hkl; rw [hNK] at this; simp at this)]
        have Q1 : Hid _ := q1
        have Q2 : Hid _ := q2
        clear q1 q2 hNK HJ h6 h1 h4 h5
        go_wp2_with fail
        refine Calls.mono (Q1.out _) ?_
        rintro e w1 ⟨rfl, rfl⟩
        go_wp2_with fail
        refine Calls.mono (Q2.out _) ?_
        rintro e w1 ⟨rfl, rfl⟩
        go_wp2
        simp only [Exit.noGoto]
        go_ret
        exact ⟨k, rfl, by omega, E.out, (Below.refl _ _).alloc (Nat.le_refl _) _⟩
    · obtain rfl : k = s.length := by omega
      have hnx : ∀ ty, (Instr.next (.pointer (some ⟨w.heap.size, 0, none⟩)) true ty).run Try.prog (w.iter S s.length) = _ := fun ty => run_next_end w S s.length ty (by omega)
      have E : Hid (decide (∀ i, i < s.length → nok s i = true) = true) := decide_eq_true HJ.out
      clear HJ
      go_wp2
      simp only [Exit.noGoto]
      go_ret
      exact ⟨s.length, rfl, by omega, by rw [E.out, decide_eq_true rfl], (Below.refl _ _).alloc (Nat.le_refl _) _⟩

set_option maxHeartbeats 1000000 in
theorem pident_any (s : List Int) (w : World) (hT : Hid (NTab w)) (hz : Hid (∀ i, 0 ≤ s.getD i 0 ∧ s.getD i 0 ≤ 255)) (hlen : (s.length : Int) ≤ 9223372036854775807) :
    Calls Try.prog 10 #[.string (strOfNums s)] w fun e w' => e = .returned (.bool (nident s)) ∧ Below w.heap.size w w' := by
  have hsz := strOfNums_size s
  by_cases h0 : s = []
  · have hne : ((strOfNums s).toList == []) = true := by rw [h0, str_list]; rfl
    have E : Hid (nident s = false) := nident_big s (.inr (by rw [h0]; rfl))
    generalize strOfNums s = S at hsz hne
    go_enter Try.func10, Try.ntmps10
    go_wp2
    go_ret
    exact ⟨by rw [E.out]; first | rfl | exact ret_bool (by simp [hne]), Below.refl _ _⟩
  · have hne : ((strOfNums s).toList == []) = false := by
      cases s with
      | nil => exact absurd rfl h0
      | cons c r => exact str_ne c r
    have hl : 0 < s.length := List.length_pos_iff.2 h0
    by_cases h2 : s.length ≤ 200
    · have h2' : (s.length : Int) ≤ 200 := by omega
      have E := nident_nok s hl h2
      have q := fun W => pnrun_any s W hz hlen
      rw [← E] at q
      have Q : Hid _ := q
      clear q E
      generalize nident s = b at Q
      generalize strOfNums s = S at hsz hne Q
      go_enter Try.func10, Try.ntmps10
      go_wp2_with fail
      refine Calls.mono (Q.out _) ?_
      rintro e w1 ⟨m, rfl, hm, hb, hB⟩
      by_cases e : m = s.length
      · subst e
        rw [decide_eq_true rfl] at hb
        have heq : ((s.length : Int) == (s.length : Int)) = true := by simp
        go_wp2
        go_ret
        exact ⟨by rw [hb]; first | rfl | exact ret_bool (by simp), hB⟩
      · rw [decide_eq_false e] at hb
        have heq : ((m : Int) == (s.length : Int)) = false := by simp; omega
        go_wp2
        go_ret
        exact ⟨by rw [hb]; first | rfl | exact ret_bool (by simp; omega), hB⟩
    · have h2' : ¬ (s.length : Int) ≤ 200 := by omega
      have E : Hid (nident s = false) := nident_big s (.inl (by omega))
      generalize strOfNums s = S at hsz hne
      go_enter Try.func10, Try.ntmps10
      go_wp2
      go_ret
      exact ⟨by rw [E.out]; first | rfl | exact ret_bool (by simp [hne]; omega), Below.refl _ _⟩

end Go.Proofs.Ytmpdgdjjjgnpiaa
