/- The program's own Full. -/
import Derived.Test.YtmpdgdjjjgnpiaaNPb
namespace Go.Proofs.Ytmpdgdjjjgnpiaa
open Go.RowKit
set_option linter.unusedVariables false
set_option linter.unusedSimpArgs false

theorem nsp_skip (s : List Int) (f : Nat) : ∀ (d p : Nat), f ≤ p → p + d ≤ s.length → (∀ j, p ≤ j → j < p + d → s.getD j 0 ≠ 46) → nsp (lpc s f p) (s.drop p) = nsp (lpc s f (p + d)) (s.drop (p + d))
  | 0, p, _, _, _ => rfl
  | d + 1, p, h1, h2, h3 => by
    rw [drop_at (show p < s.length by omega), nsp, if_neg (h3 p (by omega) (by omega)), ← lpc_more s f p h1 (by omega), nsp_skip s f d (p + 1) (by omega) (by omega) (fun j a b => h3 j (by omega) (by omega))]
    rw [show p + 1 + d = p + (d + 1) by omega]

theorem lpc_tail (s : List Int) (i : Nat) : lpc s i s.length = s.drop i := by unfold lpc; rw [List.take_length]

set_option maxHeartbeats 2000000 in
theorem pfull_any (s : List Int) (w : World) (hT : Hid (NTab w)) (hz : Hid (∀ i, 0 ≤ s.getD i 0 ∧ s.getD i 0 ≤ 255)) (hlen : (s.length : Int) ≤ 100000) :
    Calls Try.prog 12 #[.string (strOfNums s)] w fun e w' => e = .returned (.bool (nfull s)) ∧ Below w.heap.size w w' := by
  by_cases hb : 1000 < s.length
  · have hsz := strOfNums_size s
    have hb' : (1000 : Int) < (s.length : Int) := by omega
    have E : Hid (nfull s = false) := by show _ = _; unfold nfull; rw [decide_eq_false (by omega)]; rfl
    generalize strOfNums s = S at hsz
    go_enter Try.func12, Try.ntmps12
    go_wp2
    go_ret
    exact ⟨by rw [E.out]; rfl, Below.refl _ _⟩
  · have hb' : ¬ (1000 : Int) < (s.length : Int) := by omega
    obtain ⟨R, hR⟩ : ∃ R, R = nfull s := ⟨_, rfl⟩
    have HR : Hid (R = (nsp (lpc s 0 0) (s.drop 0)).all nident) := by show _ = _; rw [hR]; unfold nfull nparts; rw [decide_eq_true (by omega), lpc_none, List.drop_zero]; rfl
    obtain ⟨X, hX⟩ : ∃ X, X = strOfNums s := ⟨_, rfl⟩
    have hsz : X.size = s.length := by rw [hX]; exact strOfNums_size s
    have HP : Hid (∀ i k, i ≤ k → k ≤ s.length → ∀ W, (Instr.slice 9 (.string X) (some (.int .i64 (i : Int))) (some (.int .i64 (k : Int))) none).run Try.prog W = .ok (.string (strOfNums (lpc s i k))) W) := fun i k h1 h2 => by subst hX; exact run_piece s i k h1 h2
    have HTl : Hid (∀ i, i ≤ s.length → ∀ W, (Instr.slice 9 (.string X) (some (.int .i64 (i : Int))) none none).run Try.prog W = .ok (.string (strOfNums (s.drop i))) W) := fun i h1 => by subst hX; exact run_tail s i h1 _ rfl
    have HD : Hid _ := dec_at s hz.out
    rw [← hX] at HD
    rw [← hR, ← hX]
    have HBy : Hid (byts s) := mem_bd hz.out
    clear hX hR
    go_enter Try.func12, Try.ntmps12
    go_wp2
    go_loopw [3] (fun v wr => ∃ p f : Nat, v = .int .i64 (f : Int) ∧ wr.heap[w.heap.size]? = some (.stringIter X p) ∧ f ≤ p ∧ p ≤ s.length ∧ Hid (R = (nsp (lpc s f p) (s.drop p)).all nident) ∧ Hid (Below w.heap.size w wr)) (fun _ wr => s.length - wr.iterPos w.heap.size)
    case atStart => exact ⟨0, 0, rfl, by have := World.iter_heap w X 0; simpa using this, by omega, by omega, HR, (Below.refl _ _).alloc (Nat.le_refl _) _⟩
    case round =>
      obtain ⟨p, f, rfl, hit, hfp, hp, HJ, HB⟩ := hrel
      have hsz1 : w.heap.size < wr.heap.size := (Array.getElem?_eq_some_iff.1 hit).1
      by_cases hpl : p < s.length
      · have hnx : ∀ ty, (Instr.next (.pointer (some ⟨w.heap.size, 0, none⟩)) true ty).run Try.prog wr = _ := fun ty => Lib.run_next_any_at wr w.heap.size X p ty hit (by omega)
        have HC := HD.out p hpl
        have HI2 := fun q => Lib.iterAt_heap wr w.heap.size X p q hit
        have HB2 := fun q => Lib.below_iterAt HB.out (Nat.le_refl _) X q
        have hc0 := (hz.out p).1
        have hc1 := (hz.out p).2
        by_cases h46 : s.getD p 0 = 46
        · have hc : ((Utf8.decode X p).1 : Int) = 46 ∧ (Utf8.decode X p).2 = 1 := by
            rcases HC with ⟨_, h2, h3⟩ | ⟨h1, _⟩
            · exact ⟨by omega, h3⟩
            · omega
          rw [hc.1, hc.2] at hnx
          have hI := HI2 (p + 1)
          have HB3 : Hid _ := HB2 (p + 1)
          have hcut := HP.out f p hfp hp
          have HJ' := HJ.out
          rw [drop_at hpl, nsp, if_pos h46, List.all_cons] at HJ'
          have hll : (lpc s f p).length ≤ s.length := by unfold lpc; simp; omega
          have q := fun W => pident_any (lpc s f p) W trivial (getD_bd (lpc_bd s f p HBy.out)) (by omega)
          obtain ⟨L, hL⟩ : ∃ L, L = strOfNums (lpc s f p) := ⟨_, rfl⟩
          rw [← hL] at hcut q
          clear hL
          have hio : (wr.iterAt w.heap.size X (p + 1)).iterPos w.heap.size = p + 1 := by simp [World.iterPos, hI]
          obtain ⟨wi, hwi⟩ : ∃ wi, wi = wr.iterAt w.heap.size X (p + 1) := ⟨_, rfl⟩
          rw [← hwi] at hnx hI HB3
          have hsz2 : w.heap.size < wi.heap.size := (Array.getElem?_eq_some_iff.1 hI).1
          clear hc HC HI2 HB2 hwi h46 HJ hio
          cases hid : nident (lpc s f p) with
          | true =>
            rw [hid, Bool.true_and] at HJ'
            rw [hid] at q
            have Q : Hid _ := q
            have HJ2 : Hid (R = (nsp (lpc s (p + 1) (p + 1)) (s.drop (p + 1))).all nident) := by show _ = _; rw [HJ', lpc_none]
            clear q HJ' hid
            go_wp2_with fail
            refine Calls.mono (Q.out _) ?_
            rintro e w1 ⟨rfl, hB1⟩
            have hI1 : w1.heap[w.heap.size]? = some (.stringIter X (p + 1)) := (hB1.block _ hsz2).trans hI
            have HB4 : Hid (Below w.heap.size w w1) := HB3.out.trans (hB1.mono HB3.out.size)
            go_wp2
            go_roundw
            case rel => first | exact ⟨p + 1, p + 1, by go_num, hI1, by omega, by omega, HJ2, HB4⟩ | ((repeat apply Exists.intro); exact ⟨⟨p + 1, p + 1, by go_num, hI1, by omega, by omega, HJ2, HB4⟩, rfl⟩)
            case measure => simp only [World.iterPos, hI1, hit]; omega
          | false =>
            rw [hid, Bool.false_and] at HJ'
            rw [hid] at q
            have Q : Hid _ := q
            have E : Hid (R = false) := HJ'
            clear q HJ' hid
            go_wp2_with fail
            refine Calls.mono (Q.out _) ?_
            rintro e w1 ⟨rfl, hB1⟩
            have HB4 : Hid (Below w.heap.size w w1) := HB3.out.trans (hB1.mono HB3.out.size)
            go_wp2
            go_ret
            exact ⟨by rw [E.out]; rfl, HB4.out⟩
        · have hc : ∃ (c : Int) (d : Nat), ((Utf8.decode X p).1 : Int) = c ∧ (Utf8.decode X p).2 = d ∧ c ≠ 46 ∧ 0 ≤ c ∧ c ≤ 2147483647 ∧ 1 ≤ d ∧ p + d ≤ s.length ∧ ∀ j, p ≤ j → j < p + d → s.getD j 0 ≠ 46 := by
            rcases HC with ⟨h1, h2, h3⟩ | ⟨h1, h2, h3, h4, h5, h6⟩
            · exact ⟨_, _, rfl, rfl, by omega, by omega, by omega, by omega, by omega, fun j a b => by rw [show j = p by omega]; exact h46⟩
            · exact ⟨_, _, rfl, rfl, by omega, by omega, by omega, h4, h5, fun j a b => by have := h6 j a b; omega⟩
          obtain ⟨c, d, h1, h2, h3, h4, h5, h6, h7, h8⟩ := hc
          rw [h1, h2] at hnx
          have hI := HI2 (p + d)
          have HB3 : Hid _ := HB2 (p + d)
          have HJ2 : Hid (R = (nsp (lpc s f (p + d)) (s.drop (p + d))).all nident) := by show _ = _; rw [HJ.out, nsp_skip s f d p hfp h7 h8]
          obtain ⟨wi, hwi⟩ : ∃ wi, wi = wr.iterAt w.heap.size X (p + d) := ⟨_, rfl⟩
          rw [← hwi] at hnx hI HB3
          have e46 : (c != 46) = true := by simpa using h3
          clear HC HI2 HB2 hwi h46 HJ h8 h1 h2 hc0 hc1 h3
          go_wp2
          go_roundw
          case rel => first | exact ⟨p + d, f, by go_num, hI, by omega, by omega, HJ2, HB3⟩ | ((repeat apply Exists.intro); exact ⟨⟨p + d, f, by go_num, hI, by omega, by omega, HJ2, HB3⟩, rfl⟩)
          case measure => simp only [World.iterPos, hI, hit]; omega
      · obtain rfl : p = s.length := by omega
        have hnx : ∀ ty, (Instr.next (.pointer (some ⟨w.heap.size, 0, none⟩)) true ty).run Try.prog wr = _ := fun ty => Lib.run_next_end_at wr w.heap.size X s.length ty hit (by omega)
        have hcut := HTl.out f hfp
        have HJ' := HJ.out
        rw [List.drop_length, nsp, List.all_cons, List.all_nil, Bool.and_true, lpc_tail] at HJ'
        have q := fun W => pident_any (s.drop f) W trivial (getD_bd (fun c hc => HBy.out c (List.mem_of_mem_drop hc))) (by simp; omega)
        rw [← HJ'] at q
        have Q : Hid _ := q
        obtain ⟨L, hL⟩ : ∃ L, L = strOfNums (s.drop f) := ⟨_, rfl⟩
        rw [← hL] at hcut Q
        clear hL q HJ' HJ
        go_wp2_with fail
        refine Calls.mono (Q.out _) ?_
        rintro e w1 ⟨rfl, hB1⟩
        have HB4 : Hid (Below w.heap.size w w1) := HB.out.trans (hB1.mono HB.out.size)
        go_wp2
        go_ret
        exact ⟨rfl, HB4.out⟩

end Go.Proofs.Ytmpdgdjjjgnpiaa
