/- Put together by a program out of these texts of mine: NPb, NPc, NPd, TInt, TChk0. -/
import Derived.Test.YtmoeibhenihhfaaGreatDoorBunA2
import Derived.Test.YtmoeibhenihhfaaGreatDoorBunA3
import Derived.Test.YtmoeibhenihhfaaGreatDoorBunA6
import Derived.Test.YtmoeibhenihhfaaGreatDoorBunA7

/- The program's own run, Ident. -/
namespace Go.Proofs.YtmoeibhenihhfaaGreatDoor
open Go.RowKit
set_option linter.unusedVariables false
set_option linter.unusedSimpArgs false

set_option maxHeartbeats 1000000 in
theorem pnrun_any (s : List Int) (w : World) (hz : Hid (∀ i, 0 ≤ s.getD i 0 ∧ s.getD i 0 ≤ 255)) (hlen : (s.length : Int) ≤ 9223372036854775807) :
    Calls Tryz.prog 57 #[.string (strOfNums s)] w fun e w' => ∃ m : Nat, e = .returned (.int .i64 (m : Int)) ∧ m ≤ s.length ∧ decide (∀ i, i < s.length → nok s i = true) = decide (m = s.length) ∧ Below w.heap.size w w' := by
  have hsz := strOfNums_size s
  have HD : Hid _ := dec_at s hz.out
  generalize strOfNums s = S at hsz HD
  go_enter Tryz.func57, Tryz.ntmps57
  go_wp2
  refine wp_scope_straight ?_
  go_wp2
  go_step3
  rename_i hK
  refine hK _ _ ?_
  clear hK
  go_wp2
  go_loopw [3] (fun v wr => ∃ k : Nat, v = .int .i64 (s.length : Int) ∧ wr = w.iter S k ∧ k ≤ s.length ∧ Hid (∀ j, j < k → nok s j = true)) (fun _ wr => s.length - wr.iterPos w.heap.size)
  case atStart => exact ⟨0, rfl, rfl, by omega, fun j hj => absurd hj (by omega)⟩
  case round =>
    obtain ⟨k, rfl, rfl, hk, HJ⟩ := hrel
    by_cases hkl : k < s.length
    · have hnx : ∀ ty, (Instr.next (.pointer (some ⟨w.heap.size, 0, none⟩)) true ty).run Tryz.prog (w.iter S k) = _ := fun ty => run_next_any w S k ty (by omega)
      have hc0 := (hz.out k).1
      have hc1 := (hz.out k).2
      rcases HD.out k hkl with ⟨h1, h2, h3⟩ | ⟨h1, h2, h3, h4, h5, h6⟩
      · rw [h2, h3] at hnx
        clear h2 h3
        have hNK : nok s k = (nlet (s.getD k 0) || (lnumb (s.getD k 0) && decide (0 < k))) := rfl
        generalize s.getD k 0 = c at hnx hc0 hc1 hNK h1
        have q1 := fun W => pnlet_any c W hc0 (by omega)
        have q2 := fun W => pndigit_any c W hc0 (by omega)
        have c31 : c ≤ 2147483647 := by omega
        cases hl : nlet c with
        | true =>
          rw [hl] at q1 hNK
          rw [Bool.true_or] at hNK
          have Q1 : Hid _ := q1
          have HJ2 : Hid (∀ j, j < k + 1 → nok s j = true) := fun j hj => by
            by_cases e : j = k
            · rw [e]; exact hNK
            · exact HJ.out j (by omega)
          clear q1 q2 hl hNK HJ
          go_wp2_with fail
          refine Calls.mono (Q1.out _) ?_
          rintro e w1 ⟨rfl, rfl⟩
          go_wp2
          go_roundw
          case rel => first | exact ⟨k + 1, rfl, rfl, by omega, HJ2⟩ | ((repeat apply Exists.intro); exact ⟨⟨k + 1, rfl, rfl, by omega, HJ2⟩, rfl⟩)
          case measure => first | (simp; done) | (simp; omega)
        | false =>
          rw [hl, Bool.false_or] at hNK
          rw [hl] at q1
          have Q1 : Hid _ := q1
          cases hd : lnumb c with
          | true =>
            rw [hd, Bool.true_and] at hNK
            rw [hd] at q2
            have Q2 : Hid _ := q2
            by_cases k0 : 0 < k
            · rw [decide_eq_true k0] at hNK
              have kk : (0 : Int) < (k : Int) := by omega
              have HJ2 : Hid (∀ j, j < k + 1 → nok s j = true) := fun j hj => by
                by_cases e : j = k
                · rw [e]; exact hNK
                · exact HJ.out j (by omega)
              clear q1 q2 hl hd hNK HJ
              go_wp2_with fail
              refine Calls.mono (Q1.out _) ?_
              rintro e w1 ⟨rfl, rfl⟩
              go_wp2_with fail
              refine Calls.mono (Q2.out _) ?_
              rintro e w1 ⟨rfl, rfl⟩
              go_wp2
              go_roundw
              case rel => first | exact ⟨k + 1, rfl, rfl, by omega, HJ2⟩ | ((repeat apply Exists.intro); exact ⟨⟨k + 1, rfl, rfl, by omega, HJ2⟩, rfl⟩)
              case measure => first | (simp; done) | (simp; omega)
            · rw [decide_eq_false k0] at hNK
              obtain rfl : k = 0 := by omega
              have E : Hid (decide (∀ i, i < s.length → nok s i = true) = decide (0 = s.length)) := by
                show _ = _
                rw [decide_eq_false (p := 0 = s.length) (by omega), decide_eq_false (fun h => by have := h 0 hkl; rw [hNK] at this; simp at this)]
              clear q1 q2 hl hd hNK HJ
              go_wp2_with fail
              refine Calls.mono (Q1.out _) ?_
              rintro e w1 ⟨rfl, rfl⟩
              go_wp2_with fail
              refine Calls.mono (Q2.out _) ?_
              rintro e w1 ⟨rfl, rfl⟩
              go_wp2
              simp only [Exit.noGoto]
              go_ret
              exact ⟨0, rfl, by omega, E.out, (Below.refl _ _).alloc (Nat.le_refl _) _⟩
          | false =>
            rw [hd, Bool.false_and] at hNK
            rw [hd] at q2
            have Q2 : Hid _ := q2
            have E : Hid (decide (∀ i, i < s.length → nok s i = true) = decide (k = s.length)) := by
              show _ = _
              rw [decide_eq_false (p := k = s.length) (by omega), decide_eq_false (fun h => by have := h k hkl; rw [hNK] at this; simp at this)]
            clear q1 q2 hl hd hNK HJ
            go_wp2_with fail
            refine Calls.mono (Q1.out _) ?_
            rintro e w1 ⟨rfl, rfl⟩
            go_wp2_with fail
            refine Calls.mono (Q2.out _) ?_
            rintro e w1 ⟨rfl, rfl⟩
            go_wp2
            simp only [Exit.noGoto]
            go_ret
            exact ⟨k, rfl, by omega, E.out, (Below.refl _ _).alloc (Nat.le_refl _) _⟩
      · generalize ((Utf8.decode S k).1 : Int) = c at hnx h2 h3
        generalize (Utf8.decode S k).2 = d at hnx h4 h5 h6
        have q1 := fun W => pnlet_any c W (by omega) (by omega)
        have q2 := fun W => pndigit_any c W (by omega) (by omega)
        rw [show nlet c = false from decide_eq_false (by omega)] at q1
        rw [show lnumb c = false from decide_eq_false (by omega)] at q2
        have hNK : nok s k = false := by
          unfold nok
          rw [show nlet (s.getD k 0) = false from decide_eq_false (by omega), show lnumb (s.getD k 0) = false from decide_eq_false (by omega)]
          rfl
        have E : Hid (decide (∀ i, i < s.length → nok s i = true) = decide (k = s.length)) := by
          show _ = _
          rw [decide_eq_false (p := k = s.length) (by omega), decide_eq_false (fun h => by have := h k hkl; rw [hNK] at this; simp at this)]
        have Q1 : Hid _ := q1
        have Q2 : Hid _ := q2
        clear q1 q2 hNK HJ h6 h1 h4 h5
        go_wp2_with fail
        refine Calls.mono (Q1.out _) ?_
        rintro e w1 ⟨rfl, rfl⟩
        go_wp2_with fail
        refine Calls.mono (Q2.out _) ?_
        rintro e w1 ⟨rfl, rfl⟩
        go_wp2
        simp only [Exit.noGoto]
        go_ret
        exact ⟨k, rfl, by omega, E.out, (Below.refl _ _).alloc (Nat.le_refl _) _⟩
    · obtain rfl : k = s.length := by omega
      have hnx : ∀ ty, (Instr.next (.pointer (some ⟨w.heap.size, 0, none⟩)) true ty).run Tryz.prog (w.iter S s.length) = _ := fun ty => run_next_end w S s.length ty (by omega)
      have E : Hid (decide (∀ i, i < s.length → nok s i = true) = true) := decide_eq_true HJ.out
      clear HJ
      go_wp2
      simp only [Exit.noGoto]
      go_ret
      exact ⟨s.length, rfl, by omega, by rw [E.out, decide_eq_true rfl], (Below.refl _ _).alloc (Nat.le_refl _) _⟩

set_option maxHeartbeats 1000000 in
theorem pident_any (s : List Int) (w : World) (hT : Hid (NTab w)) (hz : Hid (∀ i, 0 ≤ s.getD i 0 ∧ s.getD i 0 ≤ 255)) (hlen : (s.length : Int) ≤ 9223372036854775807) :
    Calls Tryz.prog 27 #[.string (strOfNums s)] w fun e w' => e = .returned (.bool (nident s)) ∧ Below w.heap.size w w' := by
  have hsz := strOfNums_size s
  by_cases h0 : s = []
  · have hne : ((strOfNums s).toList == []) = true := by rw [h0, str_list]; rfl
    have E : Hid (nident s = false) := nident_big s (.inr (by rw [h0]; rfl))
    generalize strOfNums s = S at hsz hne
    go_enter Tryz.func27, Tryz.ntmps27
    go_wp2
    go_ret
    exact ⟨by rw [E.out]; first | rfl | exact ret_bool (by simp [hne]), Below.refl _ _⟩
  · have hne : ((strOfNums s).toList == []) = false := by
      cases s with
      | nil => exact absurd rfl h0
      | cons c r => exact str_ne c r
    have hl : 0 < s.length := List.length_pos_iff.2 h0
    by_cases h2 : s.length ≤ 200
    · have h2' : (s.length : Int) ≤ 200 := by omega
      have E := nident_nok s hl h2
      have q := fun W => pnrun_any s W hz hlen
      rw [← E] at q
      have Q : Hid _ := q
      clear q E
      generalize nident s = b at Q
      generalize strOfNums s = S at hsz hne Q
      go_enter Tryz.func27, Tryz.ntmps27
      go_wp2_with fail
      refine Calls.mono (Q.out _) ?_
      rintro e w1 ⟨m, rfl, hm, hb, hB⟩
      by_cases e : m = s.length
      · subst e
        rw [decide_eq_true rfl] at hb
        have heq : ((s.length : Int) == (s.length : Int)) = true := by simp
        go_wp2
        go_ret
        exact ⟨by rw [hb]; first | rfl | exact ret_bool (by simp), hB⟩
      · rw [decide_eq_false e] at hb
        have heq : ((m : Int) == (s.length : Int)) = false := by simp; omega
        go_wp2
        go_ret
        exact ⟨by rw [hb]; first | rfl | exact ret_bool (by simp; omega), hB⟩
    · have h2' : ¬ (s.length : Int) ≤ 200 := by omega
      have E : Hid (nident s = false) := nident_big s (.inl (by omega))
      generalize strOfNums s = S at hsz hne
      go_enter Tryz.func27, Tryz.ntmps27
      go_wp2
      go_ret
      exact ⟨by rw [E.out]; first | rfl | exact ret_bool (by simp [hne]; omega), Below.refl _ _⟩

end Go.Proofs.YtmoeibhenihhfaaGreatDoor

/- The program's own Full. -/
namespace Go.Proofs.YtmoeibhenihhfaaGreatDoor
open Go.RowKit
set_option linter.unusedVariables false
set_option linter.unusedSimpArgs false

theorem nsp_skip (s : List Int) (f : Nat) : ∀ (d p : Nat), f ≤ p → p + d ≤ s.length → (∀ j, p ≤ j → j < p + d → s.getD j 0 ≠ 46) → nsp (lpc s f p) (s.drop p) = nsp (lpc s f (p + d)) (s.drop (p + d))
  | 0, p, _, _, _ => rfl
  | d + 1, p, h1, h2, h3 => by
    rw [drop_at (show p < s.length by omega), nsp, if_neg (h3 p (by omega) (by omega)), ← lpc_more s f p h1 (by omega), nsp_skip s f d (p + 1) (by omega) (by omega) (fun j a b => h3 j (by omega) (by omega))]
    rw [show p + 1 + d = p + (d + 1) by omega]

theorem lpc_tail (s : List Int) (i : Nat) : lpc s i s.length = s.drop i := by unfold lpc; rw [List.take_length]

set_option maxHeartbeats 2000000 in
theorem pfull_any (s : List Int) (w : World) (hT : Hid (NTab w)) (hz : Hid (∀ i, 0 ≤ s.getD i 0 ∧ s.getD i 0 ≤ 255)) (hlen : (s.length : Int) ≤ 100000) :
    Calls Tryz.prog 29 #[.string (strOfNums s)] w fun e w' => e = .returned (.bool (nfull s)) ∧ Below w.heap.size w w' := by
  by_cases hb : 1000 < s.length
  · have hsz := strOfNums_size s
    have hb' : (1000 : Int) < (s.length : Int) := by omega
    have E : Hid (nfull s = false) := by show _ = _; unfold nfull; rw [decide_eq_false (by omega)]; rfl
    generalize strOfNums s = S at hsz
    go_enter Tryz.func29, Tryz.ntmps29
    go_wp2
    go_ret
    exact ⟨by rw [E.out]; rfl, Below.refl _ _⟩
  · have hb' : ¬ (1000 : Int) < (s.length : Int) := by omega
    obtain ⟨R, hR⟩ : ∃ R, R = nfull s := ⟨_, rfl⟩
    have HR : Hid (R = (nsp (lpc s 0 0) (s.drop 0)).all nident) := by show _ = _; rw [hR]; unfold nfull nparts; rw [decide_eq_true (by omega), lpc_none, List.drop_zero]; rfl
    obtain ⟨X, hX⟩ : ∃ X, X = strOfNums s := ⟨_, rfl⟩
    have hsz : X.size = s.length := by rw [hX]; exact strOfNums_size s
    have HP : Hid (∀ i k, i ≤ k → k ≤ s.length → ∀ W, (Instr.slice 9 (.string X) (some (.int .i64 (i : Int))) (some (.int .i64 (k : Int))) none).run Tryz.prog W = .ok (.string (strOfNums (lpc s i k))) W) := fun i k h1 h2 => by subst hX; exact run_piece s i k h1 h2
    have HTl : Hid (∀ i, i ≤ s.length → ∀ W, (Instr.slice 9 (.string X) (some (.int .i64 (i : Int))) none none).run Tryz.prog W = .ok (.string (strOfNums (s.drop i))) W) := fun i h1 => by subst hX; exact run_tail s i h1 _ rfl
    have HD : Hid _ := dec_at s hz.out
    rw [← hX] at HD
    rw [← hR, ← hX]
    have HBy : Hid (byts s) := mem_bd hz.out
    clear hX hR
    go_enter Tryz.func29, Tryz.ntmps29
    go_wp2
    go_loopw [3] (fun v wr => ∃ p f : Nat, v = .int .i64 (f : Int) ∧ wr.heap[w.heap.size]? = some (.stringIter X p) ∧ f ≤ p ∧ p ≤ s.length ∧ Hid (R = (nsp (lpc s f p) (s.drop p)).all nident) ∧ Hid (Below w.heap.size w wr)) (fun _ wr => s.length - wr.iterPos w.heap.size)
    case atStart => exact ⟨0, 0, rfl, by have := World.iter_heap w X 0; simpa using this, by omega, by omega, HR, (Below.refl _ _).alloc (Nat.le_refl _) _⟩
    case round =>
      obtain ⟨p, f, rfl, hit, hfp, hp, HJ, HB⟩ := hrel
      have hsz1 : w.heap.size < wr.heap.size := (Array.getElem?_eq_some_iff.1 hit).1
      by_cases hpl : p < s.length
      · have hnx : ∀ ty, (Instr.next (.pointer (some ⟨w.heap.size, 0, none⟩)) true ty).run Tryz.prog wr = _ := fun ty => Lib.run_next_any_at wr w.heap.size X p ty hit (by omega)
        have HC := HD.out p hpl
        have HI2 := fun q => Lib.iterAt_heap wr w.heap.size X p q hit
        have HB2 := fun q => Lib.below_iterAt HB.out (Nat.le_refl _) X q
        have hc0 := (hz.out p).1
        have hc1 := (hz.out p).2
        by_cases h46 : s.getD p 0 = 46
        · have hc : ((Utf8.decode X p).1 : Int) = 46 ∧ (Utf8.decode X p).2 = 1 := by
            rcases HC with ⟨_, h2, h3⟩ | ⟨h1, _⟩
            · exact ⟨by omega, h3⟩
            · omega
          rw [hc.1, hc.2] at hnx
          have hI := HI2 (p + 1)
          have HB3 : Hid _ := HB2 (p + 1)
          have hcut := HP.out f p hfp hp
          have HJ' := HJ.out
          rw [drop_at hpl, nsp, if_pos h46, List.all_cons] at HJ'
          have hll : (lpc s f p).length ≤ s.length := by unfold lpc; simp; omega
          have q := fun W => pident_any (lpc s f p) W trivial (getD_bd (lpc_bd s f p HBy.out)) (by omega)
          obtain ⟨L, hL⟩ : ∃ L, L = strOfNums (lpc s f p) := ⟨_, rfl⟩
          rw [← hL] at hcut q
          clear hL
          have hio : (wr.iterAt w.heap.size X (p + 1)).iterPos w.heap.size = p + 1 := by simp [World.iterPos, hI]
          obtain ⟨wi, hwi⟩ : ∃ wi, wi = wr.iterAt w.heap.size X (p + 1) := ⟨_, rfl⟩
          rw [← hwi] at hnx hI HB3
          have hsz2 : w.heap.size < wi.heap.size := (Array.getElem?_eq_some_iff.1 hI).1
          clear hc HC HI2 HB2 hwi h46 HJ hio
          cases hid : nident (lpc s f p) with
          | true =>
            rw [hid, Bool.true_and] at HJ'
            rw [hid] at q
            have Q : Hid _ := q
            have HJ2 : Hid (R = (nsp (lpc s (p + 1) (p + 1)) (s.drop (p + 1))).all nident) := by show _ = _; rw [HJ', lpc_none]
            clear q HJ' hid
            go_wp2_with fail
            refine Calls.mono (Q.out _) ?_
            rintro e w1 ⟨rfl, hB1⟩
            have hI1 : w1.heap[w.heap.size]? = some (.stringIter X (p + 1)) := (hB1.block _ hsz2).trans hI
            have HB4 : Hid (Below w.heap.size w w1) := HB3.out.trans (hB1.mono HB3.out.size)
            go_wp2
            go_roundw
            case rel => first | exact ⟨p + 1, p + 1, by go_num, hI1, by omega, by omega, HJ2, HB4⟩ | ((repeat apply Exists.intro); exact ⟨⟨p + 1, p + 1, by go_num, hI1, by omega, by omega, HJ2, HB4⟩, rfl⟩)
            case measure => simp only [World.iterPos, hI1, hit]; omega
          | false =>
            rw [hid, Bool.false_and] at HJ'
            rw [hid] at q
            have Q : Hid _ := q
            have E : Hid (R = false) := HJ'
            clear q HJ' hid
            go_wp2_with fail
            refine Calls.mono (Q.out _) ?_
            rintro e w1 ⟨rfl, hB1⟩
            have HB4 : Hid (Below w.heap.size w w1) := HB3.out.trans (hB1.mono HB3.out.size)
            go_wp2
            go_ret
            exact ⟨by rw [E.out]; rfl, HB4.out⟩
        · have hc : ∃ (c : Int) (d : Nat), ((Utf8.decode X p).1 : Int) = c ∧ (Utf8.decode X p).2 = d ∧ c ≠ 46 ∧ 0 ≤ c ∧ c ≤ 2147483647 ∧ 1 ≤ d ∧ p + d ≤ s.length ∧ ∀ j, p ≤ j → j < p + d → s.getD j 0 ≠ 46 := by
            rcases HC with ⟨h1, h2, h3⟩ | ⟨h1, h2, h3, h4, h5, h6⟩
            · exact ⟨_, _, rfl, rfl, by omega, by omega, by omega, by omega, by omega, fun j a b => by rw [show j = p by omega]; exact h46⟩
            · exact ⟨_, _, rfl, rfl, by omega, by omega, by omega, h4, h5, fun j a b => by have := h6 j a b; omega⟩
          obtain ⟨c, d, h1, h2, h3, h4, h5, h6, h7, h8⟩ := hc
          rw [h1, h2] at hnx
          have hI := HI2 (p + d)
          have HB3 : Hid _ := HB2 (p + d)
          have HJ2 : Hid (R = (nsp (lpc s f (p + d)) (s.drop (p + d))).all nident) := by show _ = _; rw [HJ.out, nsp_skip s f d p hfp h7 h8]
          obtain ⟨wi, hwi⟩ : ∃ wi, wi = wr.iterAt w.heap.size X (p + d) := ⟨_, rfl⟩
          rw [← hwi] at hnx hI HB3
          have e46 : (c != 46) = true := by simpa using h3
          clear HC HI2 HB2 hwi h46 HJ h8 h1 h2 hc0 hc1 h3
          go_wp2
          go_roundw
          case rel => first | exact ⟨p + d, f, by go_num, hI, by omega, by omega, HJ2, HB3⟩ | ((repeat apply Exists.intro); exact ⟨⟨p + d, f, by go_num, hI, by omega, by omega, HJ2, HB3⟩, rfl⟩)
          case measure => simp only [World.iterPos, hI, hit]; omega
      · obtain rfl : p = s.length := by omega
        have hnx : ∀ ty, (Instr.next (.pointer (some ⟨w.heap.size, 0, none⟩)) true ty).run Tryz.prog wr = _ := fun ty => Lib.run_next_end_at wr w.heap.size X s.length ty hit (by omega)
        have hcut := HTl.out f hfp
        have HJ' := HJ.out
        rw [List.drop_length, nsp, List.all_cons, List.all_nil, Bool.and_true, lpc_tail] at HJ'
        have q := fun W => pident_any (s.drop f) W trivial (getD_bd (fun c hc => HBy.out c (List.mem_of_mem_drop hc))) (by simp; omega)
        rw [← HJ'] at q
        have Q : Hid _ := q
        obtain ⟨L, hL⟩ : ∃ L, L = strOfNums (s.drop f) := ⟨_, rfl⟩
        rw [← hL] at hcut Q
        clear hL q HJ' HJ
        go_wp2_with fail
        refine Calls.mono (Q.out _) ?_
        rintro e w1 ⟨rfl, hB1⟩
        have HB4 : Hid (Below w.heap.size w w1) := HB.out.trans (hB1.mono HB.out.size)
        go_wp2
        go_ret
        exact ⟨rfl, HB4.out⟩

end Go.Proofs.YtmoeibhenihhfaaGreatDoor

/- The program's own plain, Keyword. -/
namespace Go.Proofs.YtmoeibhenihhfaaGreatDoor
open Go.RowKit
set_option linter.unusedVariables false
set_option linter.unusedSimpArgs false

/-- The plain types' words, as the program lists them. -/
def npl : List (List Int) := [[100, 111, 117, 98, 108, 101], [102, 108, 111, 97, 116], [105, 110, 116, 51, 50], [105, 110, 116, 54, 52], [117, 105, 110, 116, 51, 50], [117, 105, 110, 116, 54, 52], [115, 105, 110, 116, 51, 50], [115, 105, 110, 116, 54, 52], [102, 105, 120, 101, 100, 51, 50], [102, 105, 120, 101, 100, 54, 52], [115, 102, 105, 120, 101, 100, 51, 50], [115, 102, 105, 120, 101, 100, 54, 52], [98, 111, 111, 108], [115, 116, 114, 105, 110, 103], [98, 121, 116, 101, 115]]

theorem nwf_none (s : List Int) : ∀ (l : List (List Int)) (k : Nat), s ∉ l → nwf s l k = 0
  | [], k, _ => rfl
  | z :: r, k, h => by
    rw [nwf, if_neg (fun e => h (by rw [← e.2]; simp)), nwf_none s r (k + 1) (fun e => h (List.mem_cons_of_mem _ e))]

theorem npl_word (s : List Int) : decide (nword s ≠ 0) = decide (s ∈ npl) := by
  by_cases h : s ∈ npl
  · rw [decide_eq_true h, decide_eq_true_eq]
    have all : ∀ z ∈ npl, nword z ≠ 0 := by decide
    exact all s h
  · rw [decide_eq_false h, decide_eq_false_iff_not]
    intro hn
    apply hn
    unfold nword
    by_cases h0 : s = []
    · subst h0; decide
    · refine nwf_none s nwords 0 (fun hm => ?_)
      have all : ∀ z ∈ nwords, z = [] ∨ z ∈ npl := by decide
      rcases all s hm with e | e
      · exact h0 e
      · exact h e

theorem weq (s t : List Int) (hs : byts s) (ht : byts t) (L : List UInt8) (hL : (strOfNums t).toList = L) (h : s ≠ t) : ((strOfNums s).toList == L) = false := by
  rw [← hL, str_eq hs ht]
  simpa using h

theorem str_lit (t : List Int) (L : List UInt8) (h : (t.map fun n => UInt8.ofNat n.toNat) = L) : (strOfNums t).toList = L := by rw [str_list, h]

set_option maxHeartbeats 4000000 in
theorem pplain_any (s : List Int) (w : World) (hs : Hid (byts s)) :
    Calls Tryz.prog 78 #[.string (strOfNums s)] w fun e w' => e = .returned (.bool (decide (s ∈ npl))) ∧ w = w' := by
  by_cases k0 : s = [100, 111, 117, 98, 108, 101]
  · have e0 : ((strOfNums s).toList == [100, 111, 117, 98, 108, 101]) = true := by rw [k0, str_lit _ [100, 111, 117, 98, 108, 101] rfl]; rfl
    have E : Hid (decide (s ∈ npl) = true) := decide_eq_true (by rw [k0]; decide)
    clear k0
    generalize strOfNums s = S at *
    go_enter Tryz.func78, Tryz.ntmps78
    go_wp2
    go_ret
    exact ⟨by rw [E.out]; rfl, rfl⟩
  have e0 : ((strOfNums s).toList == [100, 111, 117, 98, 108, 101]) = false := weq s _ hs.out (by unfold byts; decide) _ (str_lit _ [100, 111, 117, 98, 108, 101] rfl) k0
  by_cases k1 : s = [102, 108, 111, 97, 116]
  · have e1 : ((strOfNums s).toList == [102, 108, 111, 97, 116]) = true := by rw [k1, str_lit _ [102, 108, 111, 97, 116] rfl]; rfl
    have E : Hid (decide (s ∈ npl) = true) := decide_eq_true (by rw [k1]; decide)
    clear k1
    generalize strOfNums s = S at *
    go_enter Tryz.func78, Tryz.ntmps78
    go_wp2
    go_ret
    exact ⟨by rw [E.out]; rfl, rfl⟩
  have e1 : ((strOfNums s).toList == [102, 108, 111, 97, 116]) = false := weq s _ hs.out (by unfold byts; decide) _ (str_lit _ [102, 108, 111, 97, 116] rfl) k1
  by_cases k2 : s = [105, 110, 116, 51, 50]
  · have e2 : ((strOfNums s).toList == [105, 110, 116, 51, 50]) = true := by rw [k2, str_lit _ [105, 110, 116, 51, 50] rfl]; rfl
    have E : Hid (decide (s ∈ npl) = true) := decide_eq_true (by rw [k2]; decide)
    clear k2
    generalize strOfNums s = S at *
    go_enter Tryz.func78, Tryz.ntmps78
    go_wp2
    go_ret
    exact ⟨by rw [E.out]; rfl, rfl⟩
  have e2 : ((strOfNums s).toList == [105, 110, 116, 51, 50]) = false := weq s _ hs.out (by unfold byts; decide) _ (str_lit _ [105, 110, 116, 51, 50] rfl) k2
  by_cases k3 : s = [105, 110, 116, 54, 52]
  · have e3 : ((strOfNums s).toList == [105, 110, 116, 54, 52]) = true := by rw [k3, str_lit _ [105, 110, 116, 54, 52] rfl]; rfl
    have E : Hid (decide (s ∈ npl) = true) := decide_eq_true (by rw [k3]; decide)
    clear k3
    generalize strOfNums s = S at *
    go_enter Tryz.func78, Tryz.ntmps78
    go_wp2
    go_ret
    exact ⟨by rw [E.out]; rfl, rfl⟩
  have e3 : ((strOfNums s).toList == [105, 110, 116, 54, 52]) = false := weq s _ hs.out (by unfold byts; decide) _ (str_lit _ [105, 110, 116, 54, 52] rfl) k3
  by_cases k4 : s = [117, 105, 110, 116, 51, 50]
  · have e4 : ((strOfNums s).toList == [117, 105, 110, 116, 51, 50]) = true := by rw [k4, str_lit _ [117, 105, 110, 116, 51, 50] rfl]; rfl
    have E : Hid (decide (s ∈ npl) = true) := decide_eq_true (by rw [k4]; decide)
    clear k4
    generalize strOfNums s = S at *
    go_enter Tryz.func78, Tryz.ntmps78
    go_wp2
    go_ret
    exact ⟨by rw [E.out]; rfl, rfl⟩
  have e4 : ((strOfNums s).toList == [117, 105, 110, 116, 51, 50]) = false := weq s _ hs.out (by unfold byts; decide) _ (str_lit _ [117, 105, 110, 116, 51, 50] rfl) k4
  by_cases k5 : s = [117, 105, 110, 116, 54, 52]
  · have e5 : ((strOfNums s).toList == [117, 105, 110, 116, 54, 52]) = true := by rw [k5, str_lit _ [117, 105, 110, 116, 54, 52] rfl]; rfl
    have E : Hid (decide (s ∈ npl) = true) := decide_eq_true (by rw [k5]; decide)
    clear k5
    generalize strOfNums s = S at *
    go_enter Tryz.func78, Tryz.ntmps78
    go_wp2
    go_ret
    exact ⟨by rw [E.out]; rfl, rfl⟩
  have e5 : ((strOfNums s).toList == [117, 105, 110, 116, 54, 52]) = false := weq s _ hs.out (by unfold byts; decide) _ (str_lit _ [117, 105, 110, 116, 54, 52] rfl) k5
  by_cases k6 : s = [115, 105, 110, 116, 51, 50]
  · have e6 : ((strOfNums s).toList == [115, 105, 110, 116, 51, 50]) = true := by rw [k6, str_lit _ [115, 105, 110, 116, 51, 50] rfl]; rfl
    have E : Hid (decide (s ∈ npl) = true) := decide_eq_true (by rw [k6]; decide)
    clear k6
    generalize strOfNums s = S at *
    go_enter Tryz.func78, Tryz.ntmps78
    go_wp2
    go_ret
    exact ⟨by rw [E.out]; rfl, rfl⟩
  have e6 : ((strOfNums s).toList == [115, 105, 110, 116, 51, 50]) = false := weq s _ hs.out (by unfold byts; decide) _ (str_lit _ [115, 105, 110, 116, 51, 50] rfl) k6
  by_cases k7 : s = [115, 105, 110, 116, 54, 52]
  · have e7 : ((strOfNums s).toList == [115, 105, 110, 116, 54, 52]) = true := by rw [k7, str_lit _ [115, 105, 110, 116, 54, 52] rfl]; rfl
    have E : Hid (decide (s ∈ npl) = true) := decide_eq_true (by rw [k7]; decide)
    clear k7
    generalize strOfNums s = S at *
    go_enter Tryz.func78, Tryz.ntmps78
    go_wp2
    go_ret
    exact ⟨by rw [E.out]; rfl, rfl⟩
  have e7 : ((strOfNums s).toList == [115, 105, 110, 116, 54, 52]) = false := weq s _ hs.out (by unfold byts; decide) _ (str_lit _ [115, 105, 110, 116, 54, 52] rfl) k7
  by_cases k8 : s = [102, 105, 120, 101, 100, 51, 50]
  · have e8 : ((strOfNums s).toList == [102, 105, 120, 101, 100, 51, 50]) = true := by rw [k8, str_lit _ [102, 105, 120, 101, 100, 51, 50] rfl]; rfl
    have E : Hid (decide (s ∈ npl) = true) := decide_eq_true (by rw [k8]; decide)
    clear k8
    generalize strOfNums s = S at *
    go_enter Tryz.func78, Tryz.ntmps78
    go_wp2
    go_ret
    exact ⟨by rw [E.out]; rfl, rfl⟩
  have e8 : ((strOfNums s).toList == [102, 105, 120, 101, 100, 51, 50]) = false := weq s _ hs.out (by unfold byts; decide) _ (str_lit _ [102, 105, 120, 101, 100, 51, 50] rfl) k8
  by_cases k9 : s = [102, 105, 120, 101, 100, 54, 52]
  · have e9 : ((strOfNums s).toList == [102, 105, 120, 101, 100, 54, 52]) = true := by rw [k9, str_lit _ [102, 105, 120, 101, 100, 54, 52] rfl]; rfl
    have E : Hid (decide (s ∈ npl) = true) := decide_eq_true (by rw [k9]; decide)
    clear k9
    generalize strOfNums s = S at *
    go_enter Tryz.func78, Tryz.ntmps78
    go_wp2
    go_ret
    exact ⟨by rw [E.out]; rfl, rfl⟩
  have e9 : ((strOfNums s).toList == [102, 105, 120, 101, 100, 54, 52]) = false := weq s _ hs.out (by unfold byts; decide) _ (str_lit _ [102, 105, 120, 101, 100, 54, 52] rfl) k9
  by_cases k10 : s = [115, 102, 105, 120, 101, 100, 51, 50]
  · have e10 : ((strOfNums s).toList == [115, 102, 105, 120, 101, 100, 51, 50]) = true := by rw [k10, str_lit _ [115, 102, 105, 120, 101, 100, 51, 50] rfl]; rfl
    have E : Hid (decide (s ∈ npl) = true) := decide_eq_true (by rw [k10]; decide)
    clear k10
    generalize strOfNums s = S at *
    go_enter Tryz.func78, Tryz.ntmps78
    go_wp2
    go_ret
    exact ⟨by rw [E.out]; rfl, rfl⟩
  have e10 : ((strOfNums s).toList == [115, 102, 105, 120, 101, 100, 51, 50]) = false := weq s _ hs.out (by unfold byts; decide) _ (str_lit _ [115, 102, 105, 120, 101, 100, 51, 50] rfl) k10
  by_cases k11 : s = [115, 102, 105, 120, 101, 100, 54, 52]
  · have e11 : ((strOfNums s).toList == [115, 102, 105, 120, 101, 100, 54, 52]) = true := by rw [k11, str_lit _ [115, 102, 105, 120, 101, 100, 54, 52] rfl]; rfl
    have E : Hid (decide (s ∈ npl) = true) := decide_eq_true (by rw [k11]; decide)
    clear k11
    generalize strOfNums s = S at *
    go_enter Tryz.func78, Tryz.ntmps78
    go_wp2
    go_ret
    exact ⟨by rw [E.out]; rfl, rfl⟩
  have e11 : ((strOfNums s).toList == [115, 102, 105, 120, 101, 100, 54, 52]) = false := weq s _ hs.out (by unfold byts; decide) _ (str_lit _ [115, 102, 105, 120, 101, 100, 54, 52] rfl) k11
  by_cases k12 : s = [98, 111, 111, 108]
  · have e12 : ((strOfNums s).toList == [98, 111, 111, 108]) = true := by rw [k12, str_lit _ [98, 111, 111, 108] rfl]; rfl
    have E : Hid (decide (s ∈ npl) = true) := decide_eq_true (by rw [k12]; decide)
    clear k12
    generalize strOfNums s = S at *
    go_enter Tryz.func78, Tryz.ntmps78
    go_wp2
    go_ret
    exact ⟨by rw [E.out]; rfl, rfl⟩
  have e12 : ((strOfNums s).toList == [98, 111, 111, 108]) = false := weq s _ hs.out (by unfold byts; decide) _ (str_lit _ [98, 111, 111, 108] rfl) k12
  by_cases k13 : s = [115, 116, 114, 105, 110, 103]
  · have e13 : ((strOfNums s).toList == [115, 116, 114, 105, 110, 103]) = true := by rw [k13, str_lit _ [115, 116, 114, 105, 110, 103] rfl]; rfl
    have E : Hid (decide (s ∈ npl) = true) := decide_eq_true (by rw [k13]; decide)
    clear k13
    generalize strOfNums s = S at *
    go_enter Tryz.func78, Tryz.ntmps78
    go_wp2
    go_ret
    exact ⟨by rw [E.out]; rfl, rfl⟩
  have e13 : ((strOfNums s).toList == [115, 116, 114, 105, 110, 103]) = false := weq s _ hs.out (by unfold byts; decide) _ (str_lit _ [115, 116, 114, 105, 110, 103] rfl) k13
  by_cases k14 : s = [98, 121, 116, 101, 115]
  · have e14 : ((strOfNums s).toList == [98, 121, 116, 101, 115]) = true := by rw [k14, str_lit _ [98, 121, 116, 101, 115] rfl]; rfl
    have E : Hid (decide (s ∈ npl) = true) := decide_eq_true (by rw [k14]; decide)
    clear k14
    generalize strOfNums s = S at *
    go_enter Tryz.func78, Tryz.ntmps78
    go_wp2
    go_ret
    exact ⟨by rw [E.out]; rfl, rfl⟩
  have e14 : ((strOfNums s).toList == [98, 121, 116, 101, 115]) = false := weq s _ hs.out (by unfold byts; decide) _ (str_lit _ [98, 121, 116, 101, 115] rfl) k14
  have E : Hid (decide (s ∈ npl) = false) := decide_eq_false (fun h => by
    simp only [npl, List.mem_cons, List.not_mem_nil, or_false, k0, k1, k2, k3, k4, k5, k6, k7, k8, k9, k10, k11, k12, k13, k14] at h)
  clear k0 k1 k2 k3 k4 k5 k6 k7 k8 k9 k10 k11 k12 k13 k14
  generalize strOfNums s = S at *
  go_enter Tryz.func78, Tryz.ntmps78
  go_wp2
  go_ret
  exact ⟨by rw [E.out]; rfl, rfl⟩

set_option maxHeartbeats 4000000 in
theorem pkey_any (s : List Int) (w : World) (hT : Hid (NTab w)) (hz : Hid (∀ i, 0 ≤ s.getD i 0 ∧ s.getD i 0 ≤ 255)) (hlen : (s.length : Int) ≤ 100000) :
    Calls Tryz.prog 65 #[.string (strOfNums s)] w fun e w' => e = .returned (.bool (nkey s)) ∧ Below w.heap.size w w' := by
  have hs : Hid (byts s) := mem_bd hz.out
  have q := fun W => pplain_any s W hs
  have Q : Hid _ := q
  clear q
  by_cases k0 : s = [109, 101, 115, 115, 97, 103, 101]
  · have e0 : ((strOfNums s).toList == [109, 101, 115, 115, 97, 103, 101]) = true := by rw [k0, str_lit _ [109, 101, 115, 115, 97, 103, 101] rfl]; rfl
    have E : Hid (nkey s = true) := by show _ = _; unfold nkey; rw [decide_eq_true (by rw [k0]; decide)]; rfl
    clear k0
    clear Q
    generalize strOfNums s = S at *
    go_enter Tryz.func65, Tryz.ntmps65
    go_wp2
    go_ret
    exact ⟨by rw [E.out]; rfl, Below.refl _ _⟩
  have e0 : ((strOfNums s).toList == [109, 101, 115, 115, 97, 103, 101]) = false := weq s _ hs.out (by unfold byts; decide) _ (str_lit _ [109, 101, 115, 115, 97, 103, 101] rfl) k0
  by_cases k1 : s = [101, 110, 117, 109]
  · have e1 : ((strOfNums s).toList == [101, 110, 117, 109]) = true := by rw [k1, str_lit _ [101, 110, 117, 109] rfl]; rfl
    have E : Hid (nkey s = true) := by show _ = _; unfold nkey; rw [decide_eq_true (by rw [k1]; decide)]; rfl
    clear k1
    clear Q
    generalize strOfNums s = S at *
    go_enter Tryz.func65, Tryz.ntmps65
    go_wp2
    go_ret
    exact ⟨by rw [E.out]; rfl, Below.refl _ _⟩
  have e1 : ((strOfNums s).toList == [101, 110, 117, 109]) = false := weq s _ hs.out (by unfold byts; decide) _ (str_lit _ [101, 110, 117, 109] rfl) k1
  by_cases k2 : s = [101, 120, 116, 101, 110, 100]
  · have e2 : ((strOfNums s).toList == [101, 120, 116, 101, 110, 100]) = true := by rw [k2, str_lit _ [101, 120, 116, 101, 110, 100] rfl]; rfl
    have E : Hid (nkey s = true) := by show _ = _; unfold nkey; rw [decide_eq_true (by rw [k2]; decide)]; rfl
    clear k2
    clear Q
    generalize strOfNums s = S at *
    go_enter Tryz.func65, Tryz.ntmps65
    go_wp2
    go_ret
    exact ⟨by rw [E.out]; rfl, Below.refl _ _⟩
  have e2 : ((strOfNums s).toList == [101, 120, 116, 101, 110, 100]) = false := weq s _ hs.out (by unfold byts; decide) _ (str_lit _ [101, 120, 116, 101, 110, 100] rfl) k2
  by_cases k3 : s = [101, 120, 116, 101, 110, 115, 105, 111, 110, 115]
  · have e3 : ((strOfNums s).toList == [101, 120, 116, 101, 110, 115, 105, 111, 110, 115]) = true := by rw [k3, str_lit _ [101, 120, 116, 101, 110, 115, 105, 111, 110, 115] rfl]; rfl
    have E : Hid (nkey s = true) := by show _ = _; unfold nkey; rw [decide_eq_true (by rw [k3]; decide)]; rfl
    clear k3
    clear Q
    generalize strOfNums s = S at *
    go_enter Tryz.func65, Tryz.ntmps65
    go_wp2
    go_ret
    exact ⟨by rw [E.out]; rfl, Below.refl _ _⟩
  have e3 : ((strOfNums s).toList == [101, 120, 116, 101, 110, 115, 105, 111, 110, 115]) = false := weq s _ hs.out (by unfold byts; decide) _ (str_lit _ [101, 120, 116, 101, 110, 115, 105, 111, 110, 115] rfl) k3
  by_cases k4 : s = [111, 112, 116, 105, 111, 110]
  · have e4 : ((strOfNums s).toList == [111, 112, 116, 105, 111, 110]) = true := by rw [k4, str_lit _ [111, 112, 116, 105, 111, 110] rfl]; rfl
    have E : Hid (nkey s = true) := by show _ = _; unfold nkey; rw [decide_eq_true (by rw [k4]; decide)]; rfl
    clear k4
    clear Q
    generalize strOfNums s = S at *
    go_enter Tryz.func65, Tryz.ntmps65
    go_wp2
    go_ret
    exact ⟨by rw [E.out]; rfl, Below.refl _ _⟩
  have e4 : ((strOfNums s).toList == [111, 112, 116, 105, 111, 110]) = false := weq s _ hs.out (by unfold byts; decide) _ (str_lit _ [111, 112, 116, 105, 111, 110] rfl) k4
  by_cases k5 : s = [111, 110, 101, 111, 102]
  · have e5 : ((strOfNums s).toList == [111, 110, 101, 111, 102]) = true := by rw [k5, str_lit _ [111, 110, 101, 111, 102] rfl]; rfl
    have E : Hid (nkey s = true) := by show _ = _; unfold nkey; rw [decide_eq_true (by rw [k5]; decide)]; rfl
    clear k5
    clear Q
    generalize strOfNums s = S at *
    go_enter Tryz.func65, Tryz.ntmps65
    go_wp2
    go_ret
    exact ⟨by rw [E.out]; rfl, Below.refl _ _⟩
  have e5 : ((strOfNums s).toList == [111, 110, 101, 111, 102]) = false := weq s _ hs.out (by unfold byts; decide) _ (str_lit _ [111, 110, 101, 111, 102] rfl) k5
  by_cases k6 : s = [109, 97, 112]
  · have e6 : ((strOfNums s).toList == [109, 97, 112]) = true := by rw [k6, str_lit _ [109, 97, 112] rfl]; rfl
    have E : Hid (nkey s = true) := by show _ = _; unfold nkey; rw [decide_eq_true (by rw [k6]; decide)]; rfl
    clear k6
    clear Q
    generalize strOfNums s = S at *
    go_enter Tryz.func65, Tryz.ntmps65
    go_wp2
    go_ret
    exact ⟨by rw [E.out]; rfl, Below.refl _ _⟩
  have e6 : ((strOfNums s).toList == [109, 97, 112]) = false := weq s _ hs.out (by unfold byts; decide) _ (str_lit _ [109, 97, 112] rfl) k6
  by_cases k7 : s = [114, 101, 115, 101, 114, 118, 101, 100]
  · have e7 : ((strOfNums s).toList == [114, 101, 115, 101, 114, 118, 101, 100]) = true := by rw [k7, str_lit _ [114, 101, 115, 101, 114, 118, 101, 100] rfl]; rfl
    have E : Hid (nkey s = true) := by show _ = _; unfold nkey; rw [decide_eq_true (by rw [k7]; decide)]; rfl
    clear k7
    clear Q
    generalize strOfNums s = S at *
    go_enter Tryz.func65, Tryz.ntmps65
    go_wp2
    go_ret
    exact ⟨by rw [E.out]; rfl, Below.refl _ _⟩
  have e7 : ((strOfNums s).toList == [114, 101, 115, 101, 114, 118, 101, 100]) = false := weq s _ hs.out (by unfold byts; decide) _ (str_lit _ [114, 101, 115, 101, 114, 118, 101, 100] rfl) k7
  by_cases k8 : s = [111, 112, 116, 105, 111, 110, 97, 108]
  · have e8 : ((strOfNums s).toList == [111, 112, 116, 105, 111, 110, 97, 108]) = true := by rw [k8, str_lit _ [111, 112, 116, 105, 111, 110, 97, 108] rfl]; rfl
    have E : Hid (nkey s = true) := by show _ = _; unfold nkey; rw [decide_eq_true (by rw [k8]; decide)]; rfl
    clear k8
    clear Q
    generalize strOfNums s = S at *
    go_enter Tryz.func65, Tryz.ntmps65
    go_wp2
    go_ret
    exact ⟨by rw [E.out]; rfl, Below.refl _ _⟩
  have e8 : ((strOfNums s).toList == [111, 112, 116, 105, 111, 110, 97, 108]) = false := weq s _ hs.out (by unfold byts; decide) _ (str_lit _ [111, 112, 116, 105, 111, 110, 97, 108] rfl) k8
  by_cases k9 : s = [114, 101, 113, 117, 105, 114, 101, 100]
  · have e9 : ((strOfNums s).toList == [114, 101, 113, 117, 105, 114, 101, 100]) = true := by rw [k9, str_lit _ [114, 101, 113, 117, 105, 114, 101, 100] rfl]; rfl
    have E : Hid (nkey s = true) := by show _ = _; unfold nkey; rw [decide_eq_true (by rw [k9]; decide)]; rfl
    clear k9
    clear Q
    generalize strOfNums s = S at *
    go_enter Tryz.func65, Tryz.ntmps65
    go_wp2
    go_ret
    exact ⟨by rw [E.out]; rfl, Below.refl _ _⟩
  have e9 : ((strOfNums s).toList == [114, 101, 113, 117, 105, 114, 101, 100]) = false := weq s _ hs.out (by unfold byts; decide) _ (str_lit _ [114, 101, 113, 117, 105, 114, 101, 100] rfl) k9
  by_cases k10 : s = [114, 101, 112, 101, 97, 116, 101, 100]
  · have e10 : ((strOfNums s).toList == [114, 101, 112, 101, 97, 116, 101, 100]) = true := by rw [k10, str_lit _ [114, 101, 112, 101, 97, 116, 101, 100] rfl]; rfl
    have E : Hid (nkey s = true) := by show _ = _; unfold nkey; rw [decide_eq_true (by rw [k10]; decide)]; rfl
    clear k10
    clear Q
    generalize strOfNums s = S at *
    go_enter Tryz.func65, Tryz.ntmps65
    go_wp2
    go_ret
    exact ⟨by rw [E.out]; rfl, Below.refl _ _⟩
  have e10 : ((strOfNums s).toList == [114, 101, 112, 101, 97, 116, 101, 100]) = false := weq s _ hs.out (by unfold byts; decide) _ (str_lit _ [114, 101, 112, 101, 97, 116, 101, 100] rfl) k10
  by_cases k11 : s = [114, 112, 99]
  · have e11 : ((strOfNums s).toList == [114, 112, 99]) = true := by rw [k11, str_lit _ [114, 112, 99] rfl]; rfl
    have E : Hid (nkey s = true) := by show _ = _; unfold nkey; rw [decide_eq_true (by rw [k11]; decide)]; rfl
    clear k11
    clear Q
    generalize strOfNums s = S at *
    go_enter Tryz.func65, Tryz.ntmps65
    go_wp2
    go_ret
    exact ⟨by rw [E.out]; rfl, Below.refl _ _⟩
  have e11 : ((strOfNums s).toList == [114, 112, 99]) = false := weq s _ hs.out (by unfold byts; decide) _ (str_lit _ [114, 112, 99] rfl) k11
  by_cases k12 : s = [115, 101, 114, 118, 105, 99, 101]
  · have e12 : ((strOfNums s).toList == [115, 101, 114, 118, 105, 99, 101]) = true := by rw [k12, str_lit _ [115, 101, 114, 118, 105, 99, 101] rfl]; rfl
    have E : Hid (nkey s = true) := by show _ = _; unfold nkey; rw [decide_eq_true (by rw [k12]; decide)]; rfl
    clear k12
    clear Q
    generalize strOfNums s = S at *
    go_enter Tryz.func65, Tryz.ntmps65
    go_wp2
    go_ret
    exact ⟨by rw [E.out]; rfl, Below.refl _ _⟩
  have e12 : ((strOfNums s).toList == [115, 101, 114, 118, 105, 99, 101]) = false := weq s _ hs.out (by unfold byts; decide) _ (str_lit _ [115, 101, 114, 118, 105, 99, 101] rfl) k12
  by_cases k13 : s = [105, 109, 112, 111, 114, 116]
  · have e13 : ((strOfNums s).toList == [105, 109, 112, 111, 114, 116]) = true := by rw [k13, str_lit _ [105, 109, 112, 111, 114, 116] rfl]; rfl
    have E : Hid (nkey s = true) := by show _ = _; unfold nkey; rw [decide_eq_true (by rw [k13]; decide)]; rfl
    clear k13
    clear Q
    generalize strOfNums s = S at *
    go_enter Tryz.func65, Tryz.ntmps65
    go_wp2
    go_ret
    exact ⟨by rw [E.out]; rfl, Below.refl _ _⟩
  have e13 : ((strOfNums s).toList == [105, 109, 112, 111, 114, 116]) = false := weq s _ hs.out (by unfold byts; decide) _ (str_lit _ [105, 109, 112, 111, 114, 116] rfl) k13
  by_cases k14 : s = [112, 97, 99, 107, 97, 103, 101]
  · have e14 : ((strOfNums s).toList == [112, 97, 99, 107, 97, 103, 101]) = true := by rw [k14, str_lit _ [112, 97, 99, 107, 97, 103, 101] rfl]; rfl
    have E : Hid (nkey s = true) := by show _ = _; unfold nkey; rw [decide_eq_true (by rw [k14]; decide)]; rfl
    clear k14
    clear Q
    generalize strOfNums s = S at *
    go_enter Tryz.func65, Tryz.ntmps65
    go_wp2
    go_ret
    exact ⟨by rw [E.out]; rfl, Below.refl _ _⟩
  have e14 : ((strOfNums s).toList == [112, 97, 99, 107, 97, 103, 101]) = false := weq s _ hs.out (by unfold byts; decide) _ (str_lit _ [112, 97, 99, 107, 97, 103, 101] rfl) k14
  by_cases k15 : s = [115, 121, 110, 116, 97, 120]
  · have e15 : ((strOfNums s).toList == [115, 121, 110, 116, 97, 120]) = true := by rw [k15, str_lit _ [115, 121, 110, 116, 97, 120] rfl]; rfl
    have E : Hid (nkey s = true) := by show _ = _; unfold nkey; rw [decide_eq_true (by rw [k15]; decide)]; rfl
    clear k15
    clear Q
    generalize strOfNums s = S at *
    go_enter Tryz.func65, Tryz.ntmps65
    go_wp2
    go_ret
    exact ⟨by rw [E.out]; rfl, Below.refl _ _⟩
  have e15 : ((strOfNums s).toList == [115, 121, 110, 116, 97, 120]) = false := weq s _ hs.out (by unfold byts; decide) _ (str_lit _ [115, 121, 110, 116, 97, 120] rfl) k15
  by_cases k16 : s = [115, 116, 114, 101, 97, 109]
  · have e16 : ((strOfNums s).toList == [115, 116, 114, 101, 97, 109]) = true := by rw [k16, str_lit _ [115, 116, 114, 101, 97, 109] rfl]; rfl
    have E : Hid (nkey s = true) := by show _ = _; unfold nkey; rw [decide_eq_true (by rw [k16]; decide)]; rfl
    clear k16
    clear Q
    generalize strOfNums s = S at *
    go_enter Tryz.func65, Tryz.ntmps65
    go_wp2
    go_ret
    exact ⟨by rw [E.out]; rfl, Below.refl _ _⟩
  have e16 : ((strOfNums s).toList == [115, 116, 114, 101, 97, 109]) = false := weq s _ hs.out (by unfold byts; decide) _ (str_lit _ [115, 116, 114, 101, 97, 109] rfl) k16
  by_cases k17 : s = [114, 101, 116, 117, 114, 110, 115]
  · have e17 : ((strOfNums s).toList == [114, 101, 116, 117, 114, 110, 115]) = true := by rw [k17, str_lit _ [114, 101, 116, 117, 114, 110, 115] rfl]; rfl
    have E : Hid (nkey s = true) := by show _ = _; unfold nkey; rw [decide_eq_true (by rw [k17]; decide)]; rfl
    clear k17
    clear Q
    generalize strOfNums s = S at *
    go_enter Tryz.func65, Tryz.ntmps65
    go_wp2
    go_ret
    exact ⟨by rw [E.out]; rfl, Below.refl _ _⟩
  have e17 : ((strOfNums s).toList == [114, 101, 116, 117, 114, 110, 115]) = false := weq s _ hs.out (by unfold byts; decide) _ (str_lit _ [114, 101, 116, 117, 114, 110, 115] rfl) k17
  by_cases k18 : s = [116, 111]
  · have e18 : ((strOfNums s).toList == [116, 111]) = true := by rw [k18, str_lit _ [116, 111] rfl]; rfl
    have E : Hid (nkey s = true) := by show _ = _; unfold nkey; rw [decide_eq_true (by rw [k18]; decide)]; rfl
    clear k18
    clear Q
    generalize strOfNums s = S at *
    go_enter Tryz.func65, Tryz.ntmps65
    go_wp2
    go_ret
    exact ⟨by rw [E.out]; rfl, Below.refl _ _⟩
  have e18 : ((strOfNums s).toList == [116, 111]) = false := weq s _ hs.out (by unfold byts; decide) _ (str_lit _ [116, 111] rfl) k18
  by_cases k19 : s = [109, 97, 120]
  · have e19 : ((strOfNums s).toList == [109, 97, 120]) = true := by rw [k19, str_lit _ [109, 97, 120] rfl]; rfl
    have E : Hid (nkey s = true) := by show _ = _; unfold nkey; rw [decide_eq_true (by rw [k19]; decide)]; rfl
    clear k19
    clear Q
    generalize strOfNums s = S at *
    go_enter Tryz.func65, Tryz.ntmps65
    go_wp2
    go_ret
    exact ⟨by rw [E.out]; rfl, Below.refl _ _⟩
  have e19 : ((strOfNums s).toList == [109, 97, 120]) = false := weq s _ hs.out (by unfold byts; decide) _ (str_lit _ [109, 97, 120] rfl) k19
  by_cases k20 : s = [112, 117, 98, 108, 105, 99]
  · have e20 : ((strOfNums s).toList == [112, 117, 98, 108, 105, 99]) = true := by rw [k20, str_lit _ [112, 117, 98, 108, 105, 99] rfl]; rfl
    have E : Hid (nkey s = true) := by show _ = _; unfold nkey; rw [decide_eq_true (by rw [k20]; decide)]; rfl
    clear k20
    clear Q
    generalize strOfNums s = S at *
    go_enter Tryz.func65, Tryz.ntmps65
    go_wp2
    go_ret
    exact ⟨by rw [E.out]; rfl, Below.refl _ _⟩
  have e20 : ((strOfNums s).toList == [112, 117, 98, 108, 105, 99]) = false := weq s _ hs.out (by unfold byts; decide) _ (str_lit _ [112, 117, 98, 108, 105, 99] rfl) k20
  have E : Hid (nkey s = decide (s ∈ npl)) := by
    show _ = _
    unfold nkey
    rw [decide_eq_false (p := s ∈ nkeys) (fun h => by simp only [nkeys, List.mem_cons, List.not_mem_nil, or_false, k0, k1, k2, k3, k4, k5, k6, k7, k8, k9, k10, k11, k12, k13, k14, k15, k16, k17, k18, k19, k20] at h), Bool.false_or, npl_word]
  clear k0 k1 k2 k3 k4 k5 k6 k7 k8 k9 k10 k11 k12 k13 k14 k15 k16 k17 k18 k19 k20
  generalize decide (s ∈ npl) = b at Q E
  generalize strOfNums s = S at *
  go_enter Tryz.func65, Tryz.ntmps65
  go_wp2_with fail
  refine Calls.mono (Q.out _) ?_
  rintro e w1 ⟨rfl, rfl⟩
  go_wp2
  go_ret
  exact ⟨by rw [E.out]; rfl, Below.refl _ _⟩

end Go.Proofs.YtmoeibhenihhfaaGreatDoor

/- The contract of the reference's own Int. -/
namespace Go.Proofs.YtmoeibhenihhfaaGreatDoor
open Go.RowKit
set_option linter.unusedVariables false
set_option linter.unusedSimpArgs false

/-- A number without its sign, whether there was one, whether it is one. -/
def tintd (minus : Bool) (d : List Int) : Int × Bool × Bool :=
  if (qnum d).2 = false ∨ qdg 20 (qnum d).1 ≠ d ∨ (minus = true ∧ ((qnum d).1 = 0 ∨ 9223372036854775808 < (qnum d).1)) then (0, false, false) else ((qnum d).1, minus, true)

def tint (s : List Int) : Int × Bool × Bool := if s.getD 0 0 = 45 then tintd true (s.drop 1) else tintd false s

theorem qnm_bd (base : Int) (hb : 0 < base) : ∀ (s : List Int) (n : Int), 0 ≤ n → n ≤ 18446744073709551615 → 0 ≤ (qnm base s n).1 ∧ (qnm base s n).1 ≤ 18446744073709551615
  | [], n, h0, h1 => by rw [qnm]; exact ⟨h0, h1⟩
  | c :: r, n, h0, h1 => by
    rw [qnm]
    by_cases h : base ≤ dgt c ∨ (18446744073709551615 - dgt c) / base < n
    · rw [if_pos h]; decide
    · rw [if_neg h]
      have hd := dgt_bd c
      have hm : 0 ≤ n * base := Int.mul_nonneg h0 (by omega)
      have hle : n ≤ (18446744073709551615 - dgt c) / base := by omega
      have := Int.mul_le_of_le_ediv hb hle
      exact qnm_bd base hb r _ (by omega) (by omega)

theorem qnum_bd (s : List Int) : 0 ≤ (qnum s).1 ∧ (qnum s).1 ≤ 18446744073709551615 := by
  unfold qnum
  repeat' split
  all_goals first | (refine qnm_bd _ (by omega) _ _ (by omega) (by omega)) | (simp)

end Go.Proofs.YtmoeibhenihhfaaGreatDoor

/- Which trees may be files: plain functions. -/
namespace Go.Proofs.YtmoeibhenihhfaaGreatDoor
set_option linter.unusedVariables false
set_option linter.unusedSimpArgs false

/-- A full name, perhaps with a point ahead. -/
def tref (s : List Int) : Bool := if s.getD 0 0 = 46 then nfull (s.drop 1) else nfull s

/-- Whether a text may be a type's; whether it is a name. -/
def ttype (s : List Int) : Bool × Bool :=
  if s.getD 0 0 = 46 then (tref s, true) else if nword s ≠ 0 then (true, false) else (nfull s && !nkey ((nparts s).getD 0 []), true)

def tdocd (k : Int) : Bool := decide (k = 5 ∨ (6 ≤ k ∧ k ≤ 11 ∧ k ≠ 7) ∨ k = 16 ∨ k = 17)

def tmay (kind kid : Int) : Bool :=
  if kind = 1 then decide (2 ≤ kid ∧ kid ≤ 8)
  else if kind = 5 then decide (kid = 9 ∨ kid = 10 ∨ kid = 5 ∨ kid = 6 ∨ kid = 7 ∨ (11 ≤ kid ∧ kid ≤ 13) ∨ kid = 4)
  else if kind = 6 then decide (kid = 16 ∨ kid = 4)
  else if kind = 7 then decide (kid = 9)
  else if kind = 8 then decide (kid = 17 ∨ kid = 4)
  else if kind = 11 then decide (kid = 9 ∨ kid = 4)
  else if kind = 12 then decide (kid = 14)
  else if kind = 23 then decide (kid = 24)
  else if kind = 16 then decide (kid = 4)
  else false

def tworth (k : Int) : Bool := decide (20 ≤ k ∧ k ≤ 23)

end Go.Proofs.YtmoeibhenihhfaaGreatDoor
