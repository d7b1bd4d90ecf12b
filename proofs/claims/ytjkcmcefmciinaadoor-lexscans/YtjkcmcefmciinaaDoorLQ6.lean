/- The reference's own Scan: signs, what is no token, names. -/
import Derived.Test.YtjkcmcefmciinaaDoorLQ5
namespace Go.Proofs.YtjkcmcefmciinaaDoor
open Go.RowKit
set_option linter.unusedVariables false
set_option linter.unusedSimpArgs false

set_option maxRecDepth 100000 in
set_option maxHeartbeats 4000000 in
theorem sw_sign (S : ByteArray) (s : List Int) (o m : Value) (i : Nat) (us : Nat → Value) (W : World) (D : List Int) (HS : Hid (Src S s)) (hlen : (s.length : Int) ≤ 100000) (hi : i < s.length) (hl : lletter (s.getD i 0) = false) (hq : ¬ (s.getD i 0 = 34 ∨ s.getD i 0 = 39)) (hs : lsign (s.getD i 0) = true) :
    Goes rSW (RF S o m (.int .i64 (i : Int)) (.pointer (some ⟨W.heap.size, 0, none⟩)) (.int .i64 ((i + 1 : Nat) : Int)) us) (W.alloc (.cells #[.int .i64 0, .string { data := #[] }, .int .u64 0, .int .i64 (i : Int), .string (strOfNums D)] 40)) (fun a w3 => TkBlk W w3 4 (lpc s i (i + 1)) 0 i D ∧ ∃ us, a = RF S o m (.int .i64 (i : Int)) (.pointer (some ⟨W.heap.size, 0, none⟩)) (.int .i64 ((i + 1 : Nat) : Int)) us) Nev Nev := by
  intro Q hN hX hR
  have hsz := HS.out.sz
  have hat := HS.out.at i hi
  have hcb := HS.out.bd i
  have HN : Hid _ := hN
  have hrc := run_cut S i (i + 1) (i : Int) ((i : Int) + 1) rfl (by omega) (by omega) (by omega)
  rw [HS.out.cut i (i + 1)] at hrc
  generalize lpc s i (i + 1) = P at hrc HN hN
  generalize s.getD i 0 = c at hat hcb hl hq hs
  have e34 : (c == 34) = false := by simp; omega
  have e39 : (c == 39) = false := by simp; omega
  have ql := fun W => rletter_any c W hcb.1 hcb.2
  rw [hl] at ql
  have qs := fun W => rsign_any c W
  rw [hs] at qs
  have QL : Hid _ := ql
  have QS : Hid _ := qs
  have hi2 : (i : Int) + 1 ≤ (s.length : Int) := by omega
  rw [show ((i + 1 : Nat) : Int) = (i : Int) + 1 by omega]
  clear hN hX hR ql qs hl hq hs
  unfold RF
  conv => arg 2; whnf
  go_wp2_with fail
  refine Calls.mono (QL.out _) ?_
  rintro e w1 ⟨rfl, rfl⟩
  go_wp2_with fail
  refine Calls.mono (QS.out _) ?_
  rintro e w1 ⟨rfl, rfl⟩
  go_wp2
  go_region
  rw [show (i : Int) + 1 = ((i + 1 : Nat) : Int) by omega]
  exact HN.out _ _ ⟨⟨heap_alloc_new W _, ((Below.refl _ _).alloc (Nat.le_refl _) _).drew⟩, RF.mk _ rfl rfl⟩

set_option maxRecDepth 100000 in
set_option maxHeartbeats 4000000 in
theorem sw_none (S : ByteArray) (s : List Int) (o m : Value) (i : Nat) (us : Nat → Value) (W : World) (D : List Int) (HS : Hid (Src S s)) (hlen : (s.length : Int) ≤ 100000) (hi : i < s.length) (hl : lletter (s.getD i 0) = false) (hq : ¬ (s.getD i 0 = 34 ∨ s.getD i 0 = 39)) (hs : lsign (s.getD i 0) = false) :
    Goes rSW (RF S o m (.int .i64 (i : Int)) (.pointer (some ⟨W.heap.size, 0, none⟩)) (.int .i64 ((i + 1 : Nat) : Int)) us) (W.alloc (.cells #[.int .i64 0, .string { data := #[] }, .int .u64 0, .int .i64 (i : Int), .string (strOfNums D)] 40)) Nev Nev (fun a w3 => a.tmps.getD 2 undef = .slice none 0 0 ∧ a.tmps.getD 3 undef = .int .i64 (i : Int) ∧ a.tmps.getD 4 undef = .int .i64 50 ∧ a.defers = [] ∧ Below W.heap.size W w3) := by
  intro Q hN hX hR
  have hsz := HS.out.sz
  have hat := HS.out.at i hi
  have hcb := HS.out.bd i
  have HR : Hid _ := hR
  generalize s.getD i 0 = c at hat hcb hl hq hs
  have e34 : (c == 34) = false := by simp; omega
  have e39 : (c == 39) = false := by simp; omega
  have ql := fun W => rletter_any c W hcb.1 hcb.2
  rw [hl] at ql
  have qs := fun W => rsign_any c W
  rw [hs] at qs
  have QL : Hid _ := ql
  have QS : Hid _ := qs
  clear hN hX hR ql qs hl hq hs
  unfold RF
  conv => arg 2; whnf
  go_wp2_with fail
  refine Calls.mono (QL.out _) ?_
  rintro e w1 ⟨rfl, rfl⟩
  go_wp2_with fail
  refine Calls.mono (QS.out _) ?_
  rintro e w1 ⟨rfl, rfl⟩
  go_wp2
  exact HR.out _ _ ⟨rfl, rfl, rfl, rfl, (Below.refl _ _).alloc (Nat.le_refl _) _⟩

set_option maxRecDepth 100000 in
set_option maxHeartbeats 4000000 in
theorem sw_name (S : ByteArray) (s : List Int) (o m : Value) (i : Nat) (us : Nat → Value) (W : World) (D : List Int) (HS : Hid (Src S s)) (hlen : (s.length : Int) ≤ 100000) (hi : i < s.length) (hl : lletter (s.getD i 0) = true) (hn : lnumb (s.getD i 0) = false) :
    Goes rSW (RF S o m (.int .i64 (i : Int)) (.pointer (some ⟨W.heap.size, 0, none⟩)) (.int .i64 ((i + 1 : Nat) : Int)) us) (W.alloc (.cells #[.int .i64 0, .string { data := #[] }, .int .u64 0, .int .i64 (i : Int), .string (strOfNums D)] 40)) (fun a w3 => TkBlk W w3 1 (lpc s i (lrun lletter s s.length (s.length - (i + 1)) (i + 1))) 0 i D ∧ ∃ us, a = RF S o m (.int .i64 (i : Int)) (.pointer (some ⟨W.heap.size, 0, none⟩)) (.int .i64 ((lrun lletter s s.length (s.length - (i + 1)) (i + 1) : Nat) : Int)) us) Nev Nev := by
  intro Q hN hX hR
  have hsz := HS.out.sz
  have hat := HS.out.at i hi
  have hcb := HS.out.bd i
  obtain ⟨K, hK⟩ : ∃ K, K = lrun lletter s s.length (s.length - (i + 1)) (i + 1) := ⟨_, rfl⟩
  have hg1 := lrun_ge lletter s s.length (s.length - (i + 1)) (i + 1)
  have hg2 := lrun_le lletter s s.length (s.length - (i + 1)) (i + 1) (by omega)
  rw [← hK] at hg1 hg2
  have HK : Hid (K = lrun lletter s s.length (s.length - (i + 1)) (i + 1)) := hK
  have hrc := run_cut S i K (i : Int) (K : Int) rfl rfl (by omega) (by omega)
  rw [HS.out.cut i K] at hrc
  have hpb : ∀ c ∈ lpc s i K, 0 ≤ c ∧ c ≤ 255 := fun c hc => mem_bd HS.out.bd c (List.mem_of_mem_take (List.mem_of_mem_drop hc))
  have hPl := lpc_len s i K (by omega) hg2
  rw [← hK] at hN
  have HN : Hid _ := hN
  generalize lpc s i K = P at hrc HN hN hpb hPl
  generalize s.getD i 0 = c at hat hcb hl hn
  have ql := fun W => rletter_any c W hcb.1 hcb.2
  rw [hl] at ql
  have qn := fun W => rnumber_any c W hcb.1 hcb.2
  rw [hn] at qn
  have QL : Hid _ := ql
  have QN : Hid _ := qn
  clear hN hX hR ql qn hl hn hpb hPl hK
  unfold RF
  conv => arg 2; whnf
  go_wp2_with fail
  refine Calls.mono (QL.out _) ?_
  rintro e w1 ⟨rfl, rfl⟩
  go_wp2
  go_loopw [10] (fun v wr => ∃ j : Nat, v = .int .i64 (j : Int) ∧ i + 1 ≤ j ∧ j ≤ s.length ∧ Hid (K = lrun lletter s s.length (s.length - j) j) ∧ W.alloc (.cells #[.int .i64 0, .string { data := #[] }, .int .u64 0, .int .i64 (i : Int), .string (strOfNums D)] 40) = wr) (fun v _ => s.length - (intOf v).toNat)
  case atStart => exact ⟨i + 1, by go_num, by omega, by omega, HK, rfl⟩
  case round =>
    obtain ⟨j, rfl, hij, hjs, HJ, rfl⟩ := hrel
    by_cases hjl : j < s.length
    · have hatj := HS.out.at j hjl
      obtain ⟨d0, d255⟩ := HS.out.bd j
      have HJ' := HJ.out
      obtain ⟨m', hm⟩ : ∃ m, s.length - j = m + 1 := ⟨s.length - j - 1, by omega⟩
      rw [hm, lrun, show m' = s.length - (j + 1) by omega] at HJ'
      generalize s.getD j 0 = d at hatj d0 d255 HJ'
      have q2 := fun W => rletter_any d W d0 d255
      by_cases hld : lletter d = true
      · rw [if_pos ⟨hjl, hld⟩] at HJ'
        rw [hld] at q2
        have HJ2 : Hid _ := HJ'
        have Q2 : Hid _ := q2
        clear HJ HJ' hm q2 hld
        go_wp2_with fail
        refine Calls.mono (Q2.out _) ?_
        rintro e w1 ⟨rfl, rfl⟩
        go_wp2
        go_roundw
        case rel => first | exact ⟨j + 1, by go_num, by omega, by omega, HJ2, by first | rfl | trivial⟩ | ((repeat apply Exists.intro); exact ⟨⟨j + 1, by go_num, by omega, by omega, HJ2, by first | rfl | trivial⟩, rfl⟩)
        case measure => simp [intOf]; omega
      · have hld' : lletter d = false := by simpa using hld
        rw [if_neg (fun h => hld h.2)] at HJ'
        rw [hld'] at q2
        have Q2 : Hid _ := q2
        obtain rfl : j = K := HJ'.symm
        clear HJ HJ' hm q2 hld hld'
        go_wp2_with fail
        refine Calls.mono (Q2.out _) ?_
        rintro e w1 ⟨rfl, rfl⟩
        go_wp2
        go_region
        go_wp2_with fail
        refine Calls.mono (QN.out _) ?_
        rintro e w1 ⟨rfl, rfl⟩
        go_wp2
        exact HN.out _ _ ⟨⟨heap_alloc_new W _, ((Below.refl _ _).alloc (Nat.le_refl _) _).drew⟩, RF.mk _ rfl rfl⟩
    · obtain rfl : j = K := by
        have h := HJ.out
        rw [show s.length - j = 0 by omega, lrun] at h
        exact h.symm
      clear HJ
      go_wp2
      go_region
      go_wp2_with fail
      refine Calls.mono (QN.out _) ?_
      rintro e w1 ⟨rfl, rfl⟩
      go_wp2
      exact HN.out _ _ ⟨⟨heap_alloc_new W _, ((Below.refl _ _).alloc (Nat.le_refl _) _).drew⟩, RF.mk _ rfl rfl⟩

end Go.Proofs.YtjkcmcefmciinaaDoor
