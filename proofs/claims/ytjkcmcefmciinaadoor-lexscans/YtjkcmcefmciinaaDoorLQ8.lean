/- The reference's own Scan: numbers. -/
import Derived.Test.YtjkcmcefmciinaaDoorLQ5
namespace Go.Proofs.YtjkcmcefmciinaaDoor
open Go.RowKit
set_option linter.unusedVariables false
set_option linter.unusedSimpArgs false

set_option maxRecDepth 100000 in
set_option maxHeartbeats 4000000 in
theorem sw_num (S : ByteArray) (s : List Int) (o m : Value) (i : Nat) (us : Nat → Value) (W : World) (D : List Int) (HS : Hid (Src S s)) (hlen : (s.length : Int) ≤ 100000) (hi : i < s.length) (hl : lletter (s.getD i 0) = true) (hn : lnumb (s.getD i 0) = true) (hq : (qnum (lpc s i (lrun lletter s s.length (s.length - (i + 1)) (i + 1)))).2 = true) :
    Goes rSW (RF S o m (.int .i64 (i : Int)) (.pointer (some ⟨W.heap.size, 0, none⟩)) (.int .i64 ((i + 1 : Nat) : Int)) us) (W.alloc (.cells #[.int .i64 0, .string { data := #[] }, .int .u64 0, .int .i64 (i : Int), .string (strOfNums D)] 40)) (fun a w3 => TkBlk W w3 2 [] (qnum (lpc s i (lrun lletter s s.length (s.length - (i + 1)) (i + 1)))).1 i D ∧ ∃ us, a = RF S o m (.int .i64 (i : Int)) (.pointer (some ⟨W.heap.size, 0, none⟩)) (.int .i64 ((lrun lletter s s.length (s.length - (i + 1)) (i + 1) : Nat) : Int)) us) Nev Nev := by
  intro Q hN hX hR
  have hsz := HS.out.sz
  have hat := HS.out.at i hi
  have hcb := HS.out.bd i
  obtain ⟨K, hK⟩ : ∃ K, K = lrun lletter s s.length (s.length - (i + 1)) (i + 1) := ⟨_, rfl⟩
  have hg1 := lrun_ge lletter s s.length (s.length - (i + 1)) (i + 1)
  have hg2 := lrun_le lletter s s.length (s.length - (i + 1)) (i + 1) (by omega)
  rw [← hK] at hg1 hg2
  have HK : Hid (K = lrun lletter s s.length (s.length - (i + 1)) (i + 1)) := hK
  have hrc := run_cut S i K (i : Int) (K : Int) rfl rfl (by omega) (by omega)
  rw [HS.out.cut i K] at hrc
  have hpb : ∀ c ∈ lpc s i K, 0 ≤ c ∧ c ≤ 255 := fun c hc => mem_bd HS.out.bd c (List.mem_of_mem_take (List.mem_of_mem_drop hc))
  have hPl := lpc_len s i K (by omega) hg2
  rw [← hK] at hN
  have HN : Hid _ := hN
  have qm := fun W => rnum_any (lpc s i K) W (getD_bd hpb) (by omega)
  rw [← hK] at hq
  rw [hq] at qm
  generalize (qnum (lpc s i K)).1 = nn at qm HN hN
  generalize lpc s i K = P at hrc hpb hPl qm hq
  generalize s.getD i 0 = c at hat hcb hl hn
  have ql := fun W => rletter_any c W hcb.1 hcb.2
  rw [hl] at ql
  have qn := fun W => rnumber_any c W hcb.1 hcb.2
  rw [hn] at qn
  have QL : Hid _ := ql
  have QN : Hid _ := qn
  have QM : Hid _ := qm
  clear hN hX hR ql qn hl hn hpb hPl hK qm hq
  unfold RF
  conv => arg 2; whnf
  go_wp2_with fail
  refine Calls.mono (QL.out _) ?_
  rintro e w1 ⟨rfl, rfl⟩
  go_wp2
  go_loopw [10] (fun v wr => ∃ j : Nat, v = .int .i64 (j : Int) ∧ i + 1 ≤ j ∧ j ≤ s.length ∧ Hid (K = lrun lletter s s.length (s.length - j) j) ∧ W.alloc (.cells #[.int .i64 0, .string { data := #[] }, .int .u64 0, .int .i64 (i : Int), .string (strOfNums D)] 40) = wr) (fun v _ => s.length - (intOf v).toNat)
  case atStart => exact ⟨i + 1, by go_num, by omega, by omega, HK, rfl⟩
  case round =>
    obtain ⟨j, rfl, hij, hjs, HJ, rfl⟩ := hrel
    by_cases hjl : j < s.length
    · have hatj := HS.out.at j hjl
      obtain ⟨d0, d255⟩ := HS.out.bd j
      have HJ' := HJ.out
      obtain ⟨m', hm⟩ : ∃ m, s.length - j = m + 1 := ⟨s.length - j - 1, by omega⟩
      rw [hm, lrun, show m' = s.length - (j + 1) by omega] at HJ'
      generalize s.getD j 0 = d at hatj d0 d255 HJ'
      have q2 := fun W => rletter_any d W d0 d255
      by_cases hld : lletter d = true
      · rw [if_pos ⟨hjl, hld⟩] at HJ'
        rw [hld] at q2
        have HJ2 : Hid _ := HJ'
        have Q2 : Hid _ := q2
        clear HJ HJ' hm q2 hld
        go_wp2_with fail
        refine Calls.mono (Q2.out _) ?_
        rintro e w1 ⟨rfl, rfl⟩
        go_wp2
        go_roundw
        case rel => first | exact ⟨j + 1, by go_num, by omega, by omega, HJ2, by first | rfl | trivial⟩ | ((repeat apply Exists.intro); exact ⟨⟨j + 1, by go_num, by omega, by omega, HJ2, by first | rfl | trivial⟩, rfl⟩)
        case measure => simp [intOf]; omega
      · have hld' : lletter d = false := by simpa using hld
        rw [if_neg (fun h => hld h.2)] at HJ'
        rw [hld'] at q2
        have Q2 : Hid _ := q2
        obtain rfl : j = K := HJ'.symm
        clear HJ HJ' hm q2 hld hld'
        go_wp2_with fail
        refine Calls.mono (Q2.out _) ?_
        rintro e w1 ⟨rfl, rfl⟩
        go_wp2
        go_region
        go_wp2_with fail
        refine Calls.mono (QN.out _) ?_
        rintro e w1 ⟨rfl, rfl⟩
        go_wp2_with fail
        refine Calls.mono (QM.out _) ?_
        rintro e w1 ⟨rfl, hb1⟩
        obtain ⟨hbW, hz1, x0, x1, x2, x3, x4, y0, y1, y2⟩ := after_call hb1
        have HH : Hid (w1.heap[W.heap.size]? = _) := (hb1.block W.heap.size (by show W.heap.size < (W.alloc _).heap.size; simp)).trans (heap_alloc_new W _)
        go_wp2
        exact HN.out _ _ ⟨⟨set_heap (set_heap (set_heap HH.out 0 _) 1 _) 2 _, ((hbW.setCell (p := ⟨W.heap.size, 0, none⟩) (Nat.le_refl _) _).setCell (p := ⟨W.heap.size, 1, none⟩) (Nat.le_refl _) _).setCell (p := ⟨W.heap.size, 2, none⟩) (Nat.le_refl _) _⟩, RF.mk _ rfl rfl⟩
    · obtain rfl : j = K := by
        have h := HJ.out
        rw [show s.length - j = 0 by omega, lrun] at h
        exact h.symm
      clear HJ
      go_wp2
      go_region
      go_wp2_with fail
      refine Calls.mono (QN.out _) ?_
      rintro e w1 ⟨rfl, rfl⟩
      go_wp2_with fail
      refine Calls.mono (QM.out _) ?_
      rintro e w1 ⟨rfl, hb1⟩
      obtain ⟨hbW, hz1, x0, x1, x2, x3, x4, y0, y1, y2⟩ := after_call hb1
      have HH : Hid (w1.heap[W.heap.size]? = _) := (hb1.block W.heap.size (by show W.heap.size < (W.alloc _).heap.size; simp)).trans (heap_alloc_new W _)
      go_wp2
      exact HN.out _ _ ⟨⟨set_heap (set_heap (set_heap HH.out 0 _) 1 _) 2 _, ((hbW.setCell (p := ⟨W.heap.size, 0, none⟩) (Nat.le_refl _) _).setCell (p := ⟨W.heap.size, 1, none⟩) (Nat.le_refl _) _).setCell (p := ⟨W.heap.size, 2, none⟩) (Nat.le_refl _) _⟩, RF.mk _ rfl rfl⟩

set_option maxRecDepth 100000 in
set_option maxHeartbeats 4000000 in
theorem sw_bad (S : ByteArray) (s : List Int) (o m : Value) (i : Nat) (us : Nat → Value) (W : World) (D : List Int) (HS : Hid (Src S s)) (hlen : (s.length : Int) ≤ 100000) (hi : i < s.length) (hl : lletter (s.getD i 0) = true) (hn : lnumb (s.getD i 0) = true) (hq : (qnum (lpc s i (lrun lletter s s.length (s.length - (i + 1)) (i + 1)))).2 = false) :
    Goes rSW (RF S o m (.int .i64 (i : Int)) (.pointer (some ⟨W.heap.size, 0, none⟩)) (.int .i64 ((i + 1 : Nat) : Int)) us) (W.alloc (.cells #[.int .i64 0, .string { data := #[] }, .int .u64 0, .int .i64 (i : Int), .string (strOfNums D)] 40)) Nev Nev (fun a w3 => a.tmps.getD 2 undef = .slice none 0 0 ∧ a.tmps.getD 3 undef = .int .i64 (i : Int) ∧ a.tmps.getD 4 undef = .int .i64 52 ∧ a.defers = [] ∧ Below W.heap.size W w3) := by
  intro Q hN hX hR
  have hsz := HS.out.sz
  have hat := HS.out.at i hi
  have hcb := HS.out.bd i
  obtain ⟨K, hK⟩ : ∃ K, K = lrun lletter s s.length (s.length - (i + 1)) (i + 1) := ⟨_, rfl⟩
  have hg1 := lrun_ge lletter s s.length (s.length - (i + 1)) (i + 1)
  have hg2 := lrun_le lletter s s.length (s.length - (i + 1)) (i + 1) (by omega)
  rw [← hK] at hg1 hg2
  have HK : Hid (K = lrun lletter s s.length (s.length - (i + 1)) (i + 1)) := hK
  have hrc := run_cut S i K (i : Int) (K : Int) rfl rfl (by omega) (by omega)
  rw [HS.out.cut i K] at hrc
  have hpb : ∀ c ∈ lpc s i K, 0 ≤ c ∧ c ≤ 255 := fun c hc => mem_bd HS.out.bd c (List.mem_of_mem_take (List.mem_of_mem_drop hc))
  have hPl := lpc_len s i K (by omega) hg2
  have HR : Hid _ := hR
  have qm := fun W => rnum_any (lpc s i K) W (getD_bd hpb) (by omega)
  rw [← hK] at hq
  rw [hq] at qm
  generalize (qnum (lpc s i K)).1 = nn at qm
  generalize lpc s i K = P at hrc hpb hPl qm hq
  generalize s.getD i 0 = c at hat hcb hl hn
  have ql := fun W => rletter_any c W hcb.1 hcb.2
  rw [hl] at ql
  have qn := fun W => rnumber_any c W hcb.1 hcb.2
  rw [hn] at qn
  have QL : Hid _ := ql
  have QN : Hid _ := qn
  have QM : Hid _ := qm
  clear hN hX hR ql qn hl hn hpb hPl hK qm hq
  unfold RF
  conv => arg 2; whnf
  go_wp2_with fail
  refine Calls.mono (QL.out _) ?_
  rintro e w1 ⟨rfl, rfl⟩
  go_wp2
  go_loopw [10] (fun v wr => ∃ j : Nat, v = .int .i64 (j : Int) ∧ i + 1 ≤ j ∧ j ≤ s.length ∧ Hid (K = lrun lletter s s.length (s.length - j) j) ∧ W.alloc (.cells #[.int .i64 0, .string { data := #[] }, .int .u64 0, .int .i64 (i : Int), .string (strOfNums D)] 40) = wr) (fun v _ => s.length - (intOf v).toNat)
  case atStart => exact ⟨i + 1, by go_num, by omega, by omega, HK, rfl⟩
  case round =>
    obtain ⟨j, rfl, hij, hjs, HJ, rfl⟩ := hrel
    by_cases hjl : j < s.length
    · have hatj := HS.out.at j hjl
      obtain ⟨d0, d255⟩ := HS.out.bd j
      have HJ' := HJ.out
      obtain ⟨m', hm⟩ : ∃ m, s.length - j = m + 1 := ⟨s.length - j - 1, by omega⟩
      rw [hm, lrun, show m' = s.length - (j + 1) by omega] at HJ'
      generalize s.getD j 0 = d at hatj d0 d255 HJ'
      have q2 := fun W => rletter_any d W d0 d255
      by_cases hld : lletter d = true
      · rw [if_pos ⟨hjl, hld⟩] at HJ'
        rw [hld] at q2
        have HJ2 : Hid _ := HJ'
        have Q2 : Hid _ := q2
        clear HJ HJ' hm q2 hld
        go_wp2_with fail
        refine Calls.mono (Q2.out _) ?_
        rintro e w1 ⟨rfl, rfl⟩
        go_wp2
        go_roundw
        case rel => first | exact ⟨j + 1, by go_num, by omega, by omega, HJ2, by first | rfl | trivial⟩ | ((repeat apply Exists.intro); exact ⟨⟨j + 1, by go_num, by omega, by omega, HJ2, by first | rfl | trivial⟩, rfl⟩)
        case measure => simp [intOf]; omega
      · have hld' : lletter d = false := by simpa using hld
        rw [if_neg (fun h => hld h.2)] at HJ'
        rw [hld'] at q2
        have Q2 : Hid _ := q2
        obtain rfl : j = K := HJ'.symm
        clear HJ HJ' hm q2 hld hld'
        go_wp2_with fail
        refine Calls.mono (Q2.out _) ?_
        rintro e w1 ⟨rfl, rfl⟩
        go_wp2
        go_region
        go_wp2_with fail
        refine Calls.mono (QN.out _) ?_
        rintro e w1 ⟨rfl, rfl⟩
        go_wp2_with fail
        refine Calls.mono (QM.out _) ?_
        rintro e w1 ⟨rfl, hb1⟩
        obtain ⟨hbW, hz1, x0, x1, x2, x3, x4, y0, y1, y2⟩ := after_call hb1
        go_wp2
        exact HR.out _ _ ⟨rfl, rfl, rfl, rfl, hbW⟩
    · obtain rfl : j = K := by
        have h := HJ.out
        rw [show s.length - j = 0 by omega, lrun] at h
        exact h.symm
      clear HJ
      go_wp2
      go_region
      go_wp2_with fail
      refine Calls.mono (QN.out _) ?_
      rintro e w1 ⟨rfl, rfl⟩
      go_wp2_with fail
      refine Calls.mono (QM.out _) ?_
      rintro e w1 ⟨rfl, hb1⟩
      obtain ⟨hbW, hz1, x0, x1, x2, x3, x4, y0, y1, y2⟩ := after_call hb1
      go_wp2
      exact HR.out _ _ ⟨rfl, rfl, rfl, rfl, hbW⟩

end Go.Proofs.YtjkcmcefmciinaaDoor
