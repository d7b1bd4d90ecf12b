/- Put together by a program out of these texts of mine: LQ5, LQ6, LQ8, LQ9, LQA. -/
import Derived.Test.YtlekfcehmlepkaaGreatDoorBunL31

namespace Go.Proofs.YtlekfcehmlepkaaGreatDoor
open Go.RowKit
set_option linter.unusedVariables false
set_option linter.unusedSimpArgs false

def TkBlk (W w2 : World) (kd : Int) (tx : List Int) (n : Int) (i : Nat) (D : List Int) : Prop :=
  w2.heap[W.heap.size]? = some (.cells #[.int .i64 kd, .string (strOfNums tx), .int .u64 n, .int .i64 (i : Int), .string (strOfNums D)] 81 (0, 0)) ∧ Below W.heap.size W w2

set_option maxRecDepth 100000 in
set_option maxHeartbeats 4000000 in
theorem t1 (S : ByteArray) (s : List Int) (o m t9 k10 : Value) (i : Nat) (us : Nat → Value) (w W : World) (ms : List Nat) (HS : Hid (Src S s)) (HL : Hid (s.length ≤ 100000)) (hi : i < s.length) (hml : ms.length ≤ s.length)
    (HM : Hid (∀ j, ms.getD j 0 ≤ 1000000)) (HMo : Hid (W.ownsRow w.heap.size 3 1 m ms.length (mcells ms))) :
    Goes rT1 (RF S o m (.int .i64 (i : Int)) t9 k10 us) W (fun a w2 => w2 = W.alloc (.cells #[.int .i64 0, .string { data := #[] }, .int .u64 0, .int .i64 (i : Int), .string (strOfNums (ldoc s i ms))] 81) ∧ ∃ us, a = RF S o m (.int .i64 (i : Int)) (.pointer (some ⟨W.heap.size, 0, none⟩)) k10 us) Nev Nev := by
  intro Q hN hX hR
  have hsz := HS.out.sz
  obtain ⟨a6, c6, rfl⟩ := own_slice HMo.out
  have hdoc := rdoc_any (w := W) (a := a6) (len := ms.length) (cap := c6) (ms := ms) s i (Is.of_owns HMo.out) HS.out.bd (by have := HL.out; omega) (by omega) (by have := HL.out; omega) HM
  rw [← HS.out.eq] at hdoc
  generalize ldoc s i ms = D at hdoc hN
  have QD : Hid _ := hdoc
  have HN : Hid _ := hN
  clear hX hN hR hdoc
  unfold RF
  conv => arg 2; whnf
  go_wp2_with fail
  refine Calls.mono QD.out ?_
  rintro e w1 ⟨rfl, rfl⟩
  go_wp2
  exact HN.out _ _ ⟨rfl, RF.mk _ rfl rfl⟩

set_option maxRecDepth 100000 in
set_option maxHeartbeats 4000000 in
theorem t2 (S : ByteArray) (s : List Int) (o m t9 k10 : Value) (i : Nat) (us : Nat → Value) (W : World) (hi : i < s.length) (hlen : (s.length : Int) ≤ 100000) :
    Goes rT2 (RF S o m (.int .i64 (i : Int)) t9 k10 us) W (fun a w2 => w2 = W ∧ ∃ us, a = RF S o m (.int .i64 (i : Int)) t9 (.int .i64 ((i + 1 : Nat) : Int)) us) Nev Nev := by
  intro Q hN hX hR
  have HN : Hid _ := hN
  clear hX hN hR
  unfold RF
  conv => arg 2; whnf
  go_wp2
  rw [show ((i : Int) + 1) = ((i + 1 : Nat) : Int) by omega]
  exact HN.out _ _ ⟨rfl, RF.mk _ rfl rfl⟩

set_option maxRecDepth 100000 in
set_option maxHeartbeats 4000000 in
theorem t3 (S : ByteArray) (s : List Int) (o m iv : Value) (K i : Nat) (us : Nat → Value) (w W w2 : World) (out : List Tk) (kd : Int) (tx : List Int) (n : Int) (D : List Int) (hB : Hid (TkBlk W w2 kd tx n i D)) (HTo : Hid (To W w.heap.size o out)) (HBl : Hid (Below w.heap.size w W)) (HOK : Hid (Tk.ok ⟨kd, tx, n, i, D⟩)) (hol : out.length ≤ 100000) :
    Goes rT3 (RF S o m iv (.pointer (some ⟨W.heap.size, 0, none⟩)) (.int .i64 (K : Int)) us) w2 (fun a w3 => ∃ o2, (∃ us, a = RF S o2 m (.int .i64 (K : Int)) (.pointer (some ⟨W.heap.size, 0, none⟩)) (.int .i64 (K : Int)) us) ∧ To w3 w.heap.size o2 (out ++ [⟨kd, tx, n, i, D⟩]) ∧ Below w.heap.size w w3 ∧
      ∀ ms, W.ownsRow w.heap.size 3 1 m ms.length (mcells ms) → w3.ownsRow w.heap.size 3 1 m ms.length (mcells ms)) Nev Nev := by
  intro Q hN hX hR
  have HN : Hid _ := hN
  obtain ⟨g0, g1, g2, g3, g4, _⟩ := tok_facts hB.out.1
  have hn1 : out.length + 1 ≤ 1000000 := by omega
  have hTo2 := HTo.out.below hB.out.2
  have HTA : Hid (To (w2.alloc (.cells #[.int .i64 kd, .string (strOfNums tx), .int .u64 n, .int .i64 (i : Int), .string (strOfNums D)] 81)) w.heap.size o out) := hTo2.below ((Below.refl _ _).alloc (Nat.le_refl _) _)
  have hB2 : Below w.heap.size w w2 := HBl.out.trans (hB.out.2.mono HBl.out.size)
  have HBA : Hid (Below w.heap.size w (w2.alloc (.cells #[.int .i64 kd, .string (strOfNums tx), .int .u64 n, .int .i64 (i : Int), .string (strOfNums D)] 81))) := hB2.alloc hB2.size _
  have HCL : Hid _ := tok_cells w2 ⟨kd, tx, n, i, D⟩ #[.int .i64 kd, .string (strOfNums tx), .int .u64 n, .int .i64 (i : Int), .string (strOfNums D)] rfl
  clear hX hN hR hTo2 hB2
  unfold RF
  conv => arg 2; whnf
  go_wp2_with (at_builtin; refine wpList_append_tok rfl _ _ rfl w.heap.size _ out ⟨kd, tx, n, i, D⟩ w2.heap.size 1 rfl rfl HTA.out HOK.out HCL.out hn1 HBA.out.size ?_; intro o2 w5 hTo5 hgrow5)
  refine HN.out _ _ ⟨o2, RF.mk _ rfl rfl, hTo5, HBA.out.grown hgrow5 HBA.out.size (fun j hj => (HTA.out.1.lt j hj).1), fun ms hms => ?_⟩
  exact own_other (own_allc (own_below hms hB.out.2) _) HTA.out.1 (by decide) hgrow5

set_option maxRecDepth 100000 in
set_option maxHeartbeats 4000000 in
theorem sw_sign (S : ByteArray) (s : List Int) (o m : Value) (i : Nat) (us : Nat → Value) (W : World) (D : List Int) (HS : Hid (Src S s)) (hlen : (s.length : Int) ≤ 100000) (hi : i < s.length) (hl : lletter (s.getD i 0) = false) (hq : ¬ (s.getD i 0 = 34 ∨ s.getD i 0 = 39)) (hs : lsign (s.getD i 0) = true) :
    Goes rSW (RF S o m (.int .i64 (i : Int)) (.pointer (some ⟨W.heap.size, 0, none⟩)) (.int .i64 ((i + 1 : Nat) : Int)) us) (W.alloc (.cells #[.int .i64 0, .string { data := #[] }, .int .u64 0, .int .i64 (i : Int), .string (strOfNums D)] 81)) (fun a w3 => TkBlk W w3 4 (lpc s i (i + 1)) 0 i D ∧ ∃ us, a = RF S o m (.int .i64 (i : Int)) (.pointer (some ⟨W.heap.size, 0, none⟩)) (.int .i64 ((i + 1 : Nat) : Int)) us) Nev Nev := by
  intro Q hN hX hR
  have hsz := HS.out.sz
  have hat := HS.out.at i hi
  have hcb := HS.out.bd i
  have HN : Hid _ := hN
  have hrc := run_cut S i (i + 1) (i : Int) ((i : Int) + 1) rfl (by omega) (by omega) (by omega)
  rw [HS.out.cut i (i + 1)] at hrc
  generalize lpc s i (i + 1) = P at hrc HN hN
  generalize s.getD i 0 = c at hat hcb hl hq hs
  have e34 : (c == 34) = false := by simp; omega
  have e39 : (c == 39) = false := by simp; omega
  have ql := fun W => rletter_any c W hcb.1 hcb.2
  rw [hl] at ql
  have qs := fun W => rsign_any c W
  rw [hs] at qs
  have QL : Hid _ := ql
  have QS : Hid _ := qs
  have hi2 : (i : Int) + 1 ≤ (s.length : Int) := by omega
  rw [show ((i + 1 : Nat) : Int) = (i : Int) + 1 by omega]
  clear hN hX hR ql qs hl hq hs
  unfold RF
  conv => arg 2; whnf
  go_wp2_with fail
  refine Calls.mono (QL.out _) ?_
  rintro e w1 ⟨rfl, rfl⟩
  go_wp2_with fail
  refine Calls.mono (QS.out _) ?_
  rintro e w1 ⟨rfl, rfl⟩
  go_wp2
  go_region
  rw [show (i : Int) + 1 = ((i + 1 : Nat) : Int) by omega]
  exact HN.out _ _ ⟨⟨heap_alloc_new W _, ((Below.refl _ _).alloc (Nat.le_refl _) _).drew⟩, RF.mk _ rfl rfl⟩

set_option maxRecDepth 100000 in
set_option maxHeartbeats 4000000 in
theorem sw_none (S : ByteArray) (s : List Int) (o m : Value) (i : Nat) (us : Nat → Value) (W : World) (D : List Int) (HS : Hid (Src S s)) (hlen : (s.length : Int) ≤ 100000) (hi : i < s.length) (hl : lletter (s.getD i 0) = false) (hq : ¬ (s.getD i 0 = 34 ∨ s.getD i 0 = 39)) (hs : lsign (s.getD i 0) = false) :
    Goes rSW (RF S o m (.int .i64 (i : Int)) (.pointer (some ⟨W.heap.size, 0, none⟩)) (.int .i64 ((i + 1 : Nat) : Int)) us) (W.alloc (.cells #[.int .i64 0, .string { data := #[] }, .int .u64 0, .int .i64 (i : Int), .string (strOfNums D)] 81)) Nev Nev (fun a w3 => a.tmps.getD 2 undef = .slice none 0 0 ∧ a.tmps.getD 3 undef = .int .i64 (i : Int) ∧ a.tmps.getD 4 undef = .int .i64 50 ∧ a.defers = [] ∧ Below W.heap.size W w3) := by
  intro Q hN hX hR
  have hsz := HS.out.sz
  have hat := HS.out.at i hi
  have hcb := HS.out.bd i
  have HR : Hid _ := hR
  generalize s.getD i 0 = c at hat hcb hl hq hs
  have e34 : (c == 34) = false := by simp; omega
  have e39 : (c == 39) = false := by simp; omega
  have ql := fun W => rletter_any c W hcb.1 hcb.2
  rw [hl] at ql
  have qs := fun W => rsign_any c W
  rw [hs] at qs
  have QL : Hid _ := ql
  have QS : Hid _ := qs
  clear hN hX hR ql qs hl hq hs
  unfold RF
  conv => arg 2; whnf
  go_wp2_with fail
  refine Calls.mono (QL.out _) ?_
  rintro e w1 ⟨rfl, rfl⟩
  go_wp2_with fail
  refine Calls.mono (QS.out _) ?_
  rintro e w1 ⟨rfl, rfl⟩
  go_wp2
  exact HR.out _ _ ⟨rfl, rfl, rfl, rfl, (Below.refl _ _).alloc (Nat.le_refl _) _⟩

set_option maxRecDepth 100000 in
set_option maxHeartbeats 4000000 in
theorem sw_name (S : ByteArray) (s : List Int) (o m : Value) (i : Nat) (us : Nat → Value) (W : World) (D : List Int) (HS : Hid (Src S s)) (hlen : (s.length : Int) ≤ 100000) (hi : i < s.length) (hl : lletter (s.getD i 0) = true) (hn : lnumb (s.getD i 0) = false) :
    Goes rSW (RF S o m (.int .i64 (i : Int)) (.pointer (some ⟨W.heap.size, 0, none⟩)) (.int .i64 ((i + 1 : Nat) : Int)) us) (W.alloc (.cells #[.int .i64 0, .string { data := #[] }, .int .u64 0, .int .i64 (i : Int), .string (strOfNums D)] 81)) (fun a w3 => TkBlk W w3 1 (lpc s i (lrun lletter s s.length (s.length - (i + 1)) (i + 1))) 0 i D ∧ ∃ us, a = RF S o m (.int .i64 (i : Int)) (.pointer (some ⟨W.heap.size, 0, none⟩)) (.int .i64 ((lrun lletter s s.length (s.length - (i + 1)) (i + 1) : Nat) : Int)) us) Nev Nev := by
  intro Q hN hX hR
  have hsz := HS.out.sz
  have hat := HS.out.at i hi
  have hcb := HS.out.bd i
  obtain ⟨K, hK⟩ : ∃ K, K = lrun lletter s s.length (s.length - (i + 1)) (i + 1) := ⟨_, rfl⟩
  have hg1 := lrun_ge lletter s s.length (s.length - (i + 1)) (i + 1)
  have hg2 := lrun_le lletter s s.length (s.length - (i + 1)) (i + 1) (by omega)
  rw [← hK] at hg1 hg2
  have HK : Hid (K = lrun lletter s s.length (s.length - (i + 1)) (i + 1)) := hK
  have hrc := run_cut S i K (i : Int) (K : Int) rfl rfl (by omega) (by omega)
  rw [HS.out.cut i K] at hrc
  have hpb : ∀ c ∈ lpc s i K, 0 ≤ c ∧ c ≤ 255 := fun c hc => mem_bd HS.out.bd c (List.mem_of_mem_take (List.mem_of_mem_drop hc))
  have hPl := lpc_len s i K (by omega) hg2
  rw [← hK] at hN
  have HN : Hid _ := hN
  generalize lpc s i K = P at hrc HN hN hpb hPl
  generalize s.getD i 0 = c at hat hcb hl hn
  have ql := fun W => rletter_any c W hcb.1 hcb.2
  rw [hl] at ql
  have qn := fun W => rnumber_any c W hcb.1 hcb.2
  rw [hn] at qn
  have QL : Hid _ := ql
  have QN : Hid _ := qn
  clear hN hX hR ql qn hl hn hpb hPl hK
  unfold RF
  conv => arg 2; whnf
  go_wp2_with fail
  refine Calls.mono (QL.out _) ?_
  rintro e w1 ⟨rfl, rfl⟩
  go_wp2
  go_loopw [10] (fun v wr => ∃ j : Nat, v = .int .i64 (j : Int) ∧ i + 1 ≤ j ∧ j ≤ s.length ∧ Hid (K = lrun lletter s s.length (s.length - j) j) ∧ W.alloc (.cells #[.int .i64 0, .string { data := #[] }, .int .u64 0, .int .i64 (i : Int), .string (strOfNums D)] 81) = wr) (fun v _ => s.length - (intOf v).toNat)
  case atStart => exact ⟨i + 1, by go_num, by omega, by omega, HK, rfl⟩
  case round =>
    obtain ⟨j, rfl, hij, hjs, HJ, rfl⟩ := hrel
    by_cases hjl : j < s.length
    · have hatj := HS.out.at j hjl
      obtain ⟨d0, d255⟩ := HS.out.bd j
      have HJ' := HJ.out
      obtain ⟨m', hm⟩ : ∃ m, s.length - j = m + 1 := ⟨s.length - j - 1, by omega⟩
      rw [hm, lrun, show m' = s.length - (j + 1) by omega] at HJ'
      generalize s.getD j 0 = d at hatj d0 d255 HJ'
      have q2 := fun W => rletter_any d W d0 d255
      by_cases hld : lletter d = true
      · rw [if_pos ⟨hjl, hld⟩] at HJ'
        rw [hld] at q2
        have HJ2 : Hid _ := HJ'
        have Q2 : Hid _ := q2
        clear HJ HJ' hm q2 hld
        go_wp2_with fail
        refine Calls.mono (Q2.out _) ?_
        rintro e w1 ⟨rfl, rfl⟩
        go_wp2
        go_roundw
        case rel => first | exact ⟨j + 1, by go_num, by omega, by omega, HJ2, by first | rfl | trivial⟩ | ((repeat apply Exists.intro); exact ⟨⟨j + 1, by go_num, by omega, by omega, HJ2, by first | rfl | trivial⟩, rfl⟩)
        case measure => simp [intOf]; omega
      · have hld' : lletter d = false := by simpa using hld
        rw [if_neg (fun h => hld h.2)] at HJ'
        rw [hld'] at q2
        have Q2 : Hid _ := q2
        obtain rfl : j = K := HJ'.symm
        clear HJ HJ' hm q2 hld hld'
        go_wp2_with fail
        refine Calls.mono (Q2.out _) ?_
        rintro e w1 ⟨rfl, rfl⟩
        go_wp2
        go_region
        go_wp2_with fail
        refine Calls.mono (QN.out _) ?_
        rintro e w1 ⟨rfl, rfl⟩
        go_wp2
        exact HN.out _ _ ⟨⟨heap_alloc_new W _, ((Below.refl _ _).alloc (Nat.le_refl _) _).drew⟩, RF.mk _ rfl rfl⟩
    · obtain rfl : j = K := by
        have h := HJ.out
        rw [show s.length - j = 0 by omega, lrun] at h
        exact h.symm
      clear HJ
      go_wp2
      go_region
      go_wp2_with fail
      refine Calls.mono (QN.out _) ?_
      rintro e w1 ⟨rfl, rfl⟩
      go_wp2
      exact HN.out _ _ ⟨⟨heap_alloc_new W _, ((Below.refl _ _).alloc (Nat.le_refl _) _).drew⟩, RF.mk _ rfl rfl⟩

set_option maxRecDepth 100000 in
set_option maxHeartbeats 4000000 in
theorem sw_num (S : ByteArray) (s : List Int) (o m : Value) (i : Nat) (us : Nat → Value) (W : World) (D : List Int) (HS : Hid (Src S s)) (hlen : (s.length : Int) ≤ 100000) (hi : i < s.length) (hl : lletter (s.getD i 0) = true) (hn : lnumb (s.getD i 0) = true) (hq : (qnum (lpc s i (lrun lletter s s.length (s.length - (i + 1)) (i + 1)))).2 = true) :
    Goes rSW (RF S o m (.int .i64 (i : Int)) (.pointer (some ⟨W.heap.size, 0, none⟩)) (.int .i64 ((i + 1 : Nat) : Int)) us) (W.alloc (.cells #[.int .i64 0, .string { data := #[] }, .int .u64 0, .int .i64 (i : Int), .string (strOfNums D)] 81)) (fun a w3 => TkBlk W w3 2 [] (qnum (lpc s i (lrun lletter s s.length (s.length - (i + 1)) (i + 1)))).1 i D ∧ ∃ us, a = RF S o m (.int .i64 (i : Int)) (.pointer (some ⟨W.heap.size, 0, none⟩)) (.int .i64 ((lrun lletter s s.length (s.length - (i + 1)) (i + 1) : Nat) : Int)) us) Nev Nev := by
  intro Q hN hX hR
  have hsz := HS.out.sz
  have hat := HS.out.at i hi
  have hcb := HS.out.bd i
  obtain ⟨K, hK⟩ : ∃ K, K = lrun lletter s s.length (s.length - (i + 1)) (i + 1) := ⟨_, rfl⟩
  have hg1 := lrun_ge lletter s s.length (s.length - (i + 1)) (i + 1)
  have hg2 := lrun_le lletter s s.length (s.length - (i + 1)) (i + 1) (by omega)
  rw [← hK] at hg1 hg2
  have HK : Hid (K = lrun lletter s s.length (s.length - (i + 1)) (i + 1)) := hK
  have hrc := run_cut S i K (i : Int) (K : Int) rfl rfl (by omega) (by omega)
  rw [HS.out.cut i K] at hrc
  have hpb : ∀ c ∈ lpc s i K, 0 ≤ c ∧ c ≤ 255 := fun c hc => mem_bd HS.out.bd c (List.mem_of_mem_take (List.mem_of_mem_drop hc))
  have hPl := lpc_len s i K (by omega) hg2
  rw [← hK] at hN
  have HN : Hid _ := hN
  have qm := fun W => rnum_any (lpc s i K) W (getD_bd hpb) (by omega)
  rw [← hK] at hq
  rw [hq] at qm
  generalize (qnum (lpc s i K)).1 = nn at qm HN hN
  generalize lpc s i K = P at hrc hpb hPl qm hq
  generalize s.getD i 0 = c at hat hcb hl hn
  have ql := fun W => rletter_any c W hcb.1 hcb.2
  rw [hl] at ql
  have qn := fun W => rnumber_any c W hcb.1 hcb.2
  rw [hn] at qn
  have QL : Hid _ := ql
  have QN : Hid _ := qn
  have QM : Hid _ := qm
  clear hN hX hR ql qn hl hn hpb hPl hK qm hq
  unfold RF
  conv => arg 2; whnf
  go_wp2_with fail
  refine Calls.mono (QL.out _) ?_
  rintro e w1 ⟨rfl, rfl⟩
  go_wp2
  go_loopw [10] (fun v wr => ∃ j : Nat, v = .int .i64 (j : Int) ∧ i + 1 ≤ j ∧ j ≤ s.length ∧ Hid (K = lrun lletter s s.length (s.length - j) j) ∧ W.alloc (.cells #[.int .i64 0, .string { data := #[] }, .int .u64 0, .int .i64 (i : Int), .string (strOfNums D)] 81) = wr) (fun v _ => s.length - (intOf v).toNat)
  case atStart => exact ⟨i + 1, by go_num, by omega, by omega, HK, rfl⟩
  case round =>
    obtain ⟨j, rfl, hij, hjs, HJ, rfl⟩ := hrel
    by_cases hjl : j < s.length
    · have hatj := HS.out.at j hjl
      obtain ⟨d0, d255⟩ := HS.out.bd j
      have HJ' := HJ.out
      obtain ⟨m', hm⟩ : ∃ m, s.length - j = m + 1 := ⟨s.length - j - 1, by omega⟩
      rw [hm, lrun, show m' = s.length - (j + 1) by omega] at HJ'
      generalize s.getD j 0 = d at hatj d0 d255 HJ'
      have q2 := fun W => rletter_any d W d0 d255
      by_cases hld : lletter d = true
      · rw [if_pos ⟨hjl, hld⟩] at HJ'
        rw [hld] at q2
        have HJ2 : Hid _ := HJ'
        have Q2 : Hid _ := q2
        clear HJ HJ' hm q2 hld
        go_wp2_with fail
        refine Calls.mono (Q2.out _) ?_
        rintro e w1 ⟨rfl, rfl⟩
        go_wp2
        go_roundw
        case rel => first | exact ⟨j + 1, by go_num, by omega, by omega, HJ2, by first | rfl | trivial⟩ | ((repeat apply Exists.intro); exact ⟨⟨j + 1, by go_num, by omega, by omega, HJ2, by first | rfl | trivial⟩, rfl⟩)
        case measure => simp [intOf]; omega
      · have hld' : lletter d = false := by simpa using hld
        rw [if_neg (fun h => hld h.2)] at HJ'
        rw [hld'] at q2
        have Q2 : Hid _ := q2
        obtain rfl : j = K := HJ'.symm
        clear HJ HJ' hm q2 hld hld'
        go_wp2_with fail
        refine Calls.mono (Q2.out _) ?_
        rintro e w1 ⟨rfl, rfl⟩
        go_wp2
        go_region
        go_wp2_with fail
        refine Calls.mono (QN.out _) ?_
        rintro e w1 ⟨rfl, rfl⟩
        go_wp2_with fail
        refine Calls.mono (QM.out _) ?_
        rintro e w1 ⟨rfl, hb1⟩
        obtain ⟨hbW, hz1, x0, x1, x2, x3, x4, y0, y1, y2⟩ := after_call hb1
        have HH : Hid (w1.heap[W.heap.size]? = _) := (hb1.block W.heap.size (by show W.heap.size < (W.alloc _).heap.size; simp)).trans (heap_alloc_new W _)
        go_wp2
        exact HN.out _ _ ⟨⟨set_heap2 (set_heap2 (set_heap2 HH.out 0 _) 1 _) 2 _, ((hbW.setCell (p := ⟨W.heap.size, 0, none⟩) (Nat.le_refl _) _).setCell (p := ⟨W.heap.size, 1, none⟩) (Nat.le_refl _) _).setCell (p := ⟨W.heap.size, 2, none⟩) (Nat.le_refl _) _⟩, RF.mk _ rfl rfl⟩
    · obtain rfl : j = K := by
        have h := HJ.out
        rw [show s.length - j = 0 by omega, lrun] at h
        exact h.symm
      clear HJ
      go_wp2
      go_region
      go_wp2_with fail
      refine Calls.mono (QN.out _) ?_
      rintro e w1 ⟨rfl, rfl⟩
      go_wp2_with fail
      refine Calls.mono (QM.out _) ?_
      rintro e w1 ⟨rfl, hb1⟩
      obtain ⟨hbW, hz1, x0, x1, x2, x3, x4, y0, y1, y2⟩ := after_call hb1
      have HH : Hid (w1.heap[W.heap.size]? = _) := (hb1.block W.heap.size (by show W.heap.size < (W.alloc _).heap.size; simp)).trans (heap_alloc_new W _)
      go_wp2
      exact HN.out _ _ ⟨⟨set_heap2 (set_heap2 (set_heap2 HH.out 0 _) 1 _) 2 _, ((hbW.setCell (p := ⟨W.heap.size, 0, none⟩) (Nat.le_refl _) _).setCell (p := ⟨W.heap.size, 1, none⟩) (Nat.le_refl _) _).setCell (p := ⟨W.heap.size, 2, none⟩) (Nat.le_refl _) _⟩, RF.mk _ rfl rfl⟩

set_option maxRecDepth 100000 in
set_option maxHeartbeats 4000000 in
theorem sw_bad (S : ByteArray) (s : List Int) (o m : Value) (i : Nat) (us : Nat → Value) (W : World) (D : List Int) (HS : Hid (Src S s)) (hlen : (s.length : Int) ≤ 100000) (hi : i < s.length) (hl : lletter (s.getD i 0) = true) (hn : lnumb (s.getD i 0) = true) (hq : (qnum (lpc s i (lrun lletter s s.length (s.length - (i + 1)) (i + 1)))).2 = false) :
    Goes rSW (RF S o m (.int .i64 (i : Int)) (.pointer (some ⟨W.heap.size, 0, none⟩)) (.int .i64 ((i + 1 : Nat) : Int)) us) (W.alloc (.cells #[.int .i64 0, .string { data := #[] }, .int .u64 0, .int .i64 (i : Int), .string (strOfNums D)] 81)) Nev Nev (fun a w3 => a.tmps.getD 2 undef = .slice none 0 0 ∧ a.tmps.getD 3 undef = .int .i64 (i : Int) ∧ a.tmps.getD 4 undef = .int .i64 52 ∧ a.defers = [] ∧ Below W.heap.size W w3) := by
  intro Q hN hX hR
  have hsz := HS.out.sz
  have hat := HS.out.at i hi
  have hcb := HS.out.bd i
  obtain ⟨K, hK⟩ : ∃ K, K = lrun lletter s s.length (s.length - (i + 1)) (i + 1) := ⟨_, rfl⟩
  have hg1 := lrun_ge lletter s s.length (s.length - (i + 1)) (i + 1)
  have hg2 := lrun_le lletter s s.length (s.length - (i + 1)) (i + 1) (by omega)
  rw [← hK] at hg1 hg2
  have HK : Hid (K = lrun lletter s s.length (s.length - (i + 1)) (i + 1)) := hK
  have hrc := run_cut S i K (i : Int) (K : Int) rfl rfl (by omega) (by omega)
  rw [HS.out.cut i K] at hrc
  have hpb : ∀ c ∈ lpc s i K, 0 ≤ c ∧ c ≤ 255 := fun c hc => mem_bd HS.out.bd c (List.mem_of_mem_take (List.mem_of_mem_drop hc))
  have hPl := lpc_len s i K (by omega) hg2
  have HR : Hid _ := hR
  have qm := fun W => rnum_any (lpc s i K) W (getD_bd hpb) (by omega)
  rw [← hK] at hq
  rw [hq] at qm
  generalize (qnum (lpc s i K)).1 = nn at qm
  generalize lpc s i K = P at hrc hpb hPl qm hq
  generalize s.getD i 0 = c at hat hcb hl hn
  have ql := fun W => rletter_any c W hcb.1 hcb.2
  rw [hl] at ql
  have qn := fun W => rnumber_any c W hcb.1 hcb.2
  rw [hn] at qn
  have QL : Hid _ := ql
  have QN : Hid _ := qn
  have QM : Hid _ := qm
  clear hN hX hR ql qn hl hn hpb hPl hK qm hq
  unfold RF
  conv => arg 2; whnf
  go_wp2_with fail
  refine Calls.mono (QL.out _) ?_
  rintro e w1 ⟨rfl, rfl⟩
  go_wp2
  go_loopw [10] (fun v wr => ∃ j : Nat, v = .int .i64 (j : Int) ∧ i + 1 ≤ j ∧ j ≤ s.length ∧ Hid (K = lrun lletter s s.length (s.length - j) j) ∧ W.alloc (.cells #[.int .i64 0, .string { data := #[] }, .int .u64 0, .int .i64 (i : Int), .string (strOfNums D)] 81) = wr) (fun v _ => s.length - (intOf v).toNat)
  case atStart => exact ⟨i + 1, by go_num, by omega, by omega, HK, rfl⟩
  case round =>
    obtain ⟨j, rfl, hij, hjs, HJ, rfl⟩ := hrel
    by_cases hjl : j < s.length
    · have hatj := HS.out.at j hjl
      obtain ⟨d0, d255⟩ := HS.out.bd j
      have HJ' := HJ.out
      obtain ⟨m', hm⟩ : ∃ m, s.length - j = m + 1 := ⟨s.length - j - 1, by omega⟩
      rw [hm, lrun, show m' = s.length - (j + 1) by omega] at HJ'
      generalize s.getD j 0 = d at hatj d0 d255 HJ'
      have q2 := fun W => rletter_any d W d0 d255
      by_cases hld : lletter d = true
      · rw [if_pos ⟨hjl, hld⟩] at HJ'
        rw [hld] at q2
        have HJ2 : Hid _ := HJ'
        have Q2 : Hid _ := q2
        clear HJ HJ' hm q2 hld
        go_wp2_with fail
        refine Calls.mono (Q2.out _) ?_
        rintro e w1 ⟨rfl, rfl⟩
        go_wp2
        go_roundw
        case rel => first | exact ⟨j + 1, by go_num, by omega, by omega, HJ2, by first | rfl | trivial⟩ | ((repeat apply Exists.intro); exact ⟨⟨j + 1, by go_num, by omega, by omega, HJ2, by first | rfl | trivial⟩, rfl⟩)
        case measure => simp [intOf]; omega
      · have hld' : lletter d = false := by simpa using hld
        rw [if_neg (fun h => hld h.2)] at HJ'
        rw [hld'] at q2
        have Q2 : Hid _ := q2
        obtain rfl : j = K := HJ'.symm
        clear HJ HJ' hm q2 hld hld'
        go_wp2_with fail
        refine Calls.mono (Q2.out _) ?_
        rintro e w1 ⟨rfl, rfl⟩
        go_wp2
        go_region
        go_wp2_with fail
        refine Calls.mono (QN.out _) ?_
        rintro e w1 ⟨rfl, rfl⟩
        go_wp2_with fail
        refine Calls.mono (QM.out _) ?_
        rintro e w1 ⟨rfl, hb1⟩
        obtain ⟨hbW, hz1, x0, x1, x2, x3, x4, y0, y1, y2⟩ := after_call hb1
        go_wp2
        exact HR.out _ _ ⟨rfl, rfl, rfl, rfl, hbW⟩
    · obtain rfl : j = K := by
        have h := HJ.out
        rw [show s.length - j = 0 by omega, lrun] at h
        exact h.symm
      clear HJ
      go_wp2
      go_region
      go_wp2_with fail
      refine Calls.mono (QN.out _) ?_
      rintro e w1 ⟨rfl, rfl⟩
      go_wp2_with fail
      refine Calls.mono (QM.out _) ?_
      rintro e w1 ⟨rfl, hb1⟩
      obtain ⟨hbW, hz1, x0, x1, x2, x3, x4, y0, y1, y2⟩ := after_call hb1
      go_wp2
      exact HR.out _ _ ⟨rfl, rfl, rfl, rfl, hbW⟩

set_option maxRecDepth 100000 in
set_option maxHeartbeats 4000000 in
theorem sw_text (S : ByteArray) (s : List Int) (o m : Value) (i : Nat) (us : Nat → Value) (W : World) (D : List Int) (HS : Hid (Src S s)) (hlen : (s.length : Int) ≤ 100000) (hi : i < s.length) (hl : lletter (s.getD i 0) = false) (hq : s.getD i 0 = 34 ∨ s.getD i 0 = 39) (he : (qtake (s.drop i)).2.2 = 0) :
    Goes rSW (RF S o m (.int .i64 (i : Int)) (.pointer (some ⟨W.heap.size, 0, none⟩)) (.int .i64 ((i + 1 : Nat) : Int)) us) (W.alloc (.cells #[.int .i64 0, .string { data := #[] }, .int .u64 0, .int .i64 (i : Int), .string (strOfNums D)] 81)) (fun a w3 => TkBlk W w3 3 (qtake (s.drop i)).1 0 i D ∧ ∃ us, a = RF S o m (.int .i64 (i : Int)) (.pointer (some ⟨W.heap.size, 0, none⟩)) (.int .i64 ((i + (qtake (s.drop i)).2.1.toNat : Nat) : Int)) us) Nev Nev := by
  intro Q hN hX hR
  have hsz := HS.out.sz
  have hat := HS.out.at i hi
  have hcb := HS.out.bd i
  have hrc := run_cut_to S i (i : Int) rfl (by omega)
  have hcut : S.extract i S.size = strOfNums (s.drop i) := by
    rw [hsz, HS.out.cut i s.length]
    unfold lpc
    rw [List.take_of_length_le (Nat.le_refl _)]
  rw [hcut] at hrc
  have qt := fun W => rtak_any (s.drop i) W (fun j => by rw [getD_drop']; exact HS.out.bd _) (by rw [List.length_drop]; omega)
  have hpl := qtake_place (s.drop i)
  have hpb := qtake_bd (s.drop i) (fun c hc => mem_bd HS.out.bd c (List.mem_of_mem_drop hc))
  rw [List.length_drop] at hpl
  generalize strOfNums (s.drop i) = SD at hrc qt hcut
  generalize qtake (s.drop i) = r at qt hpl hpb he hN
  obtain ⟨B, n, e⟩ := r
  simp only at qt hpl hpb he hN
  obtain ⟨hn0, hn1'⟩ := hpl
  have QT : Hid _ := qt
  have PB : Hid _ := hpb
  generalize s.getD i 0 = c at hat hcb hl hq
  have ql := fun W => rletter_any c W hcb.1 hcb.2
  rw [hl] at ql
  have QL : Hid _ := ql
  subst he
  obtain ⟨m', rfl⟩ : ∃ m : Nat, n = (m : Int) := ⟨n.toNat, by omega⟩
  rw [Int.toNat_natCast] at hN
  have HN : Hid _ := hN
  clear hN hX hR ql qt hpb hl hcut
  rcases hq with rfl | rfl
  · unfold RF
    conv => arg 2; whnf
    go_wp2_with fail
    refine Calls.mono (QL.out _) ?_
    rintro e w1 ⟨rfl, rfl⟩
    go_wp2_with fail
    refine Calls.mono (QT.out _) ?_
    rintro e w1 ⟨v1, rfl, hown1, hb1⟩
    obtain ⟨hbW, hz1, x0, x1, x2, x3, x4, y0, y1, y2⟩ := after_call0 hb1
    have HH : Hid (w1.heap[W.heap.size]? = _) := (hb1.block W.heap.size (by simp)).trans (heap_alloc_new W _)
    obtain ⟨a1, cc1, rfl⟩ := own_slice hown1
    have hB1 := Bs.of_owns hown1 PB.out
    have hne := own_far hown1
    have hcv := Bs.conv (hB1.below (Below.refl w1.heap.size w1).drew (Nat.le_refl _))
    have hcv2 := Bs.conv ((hB1.setc ⟨W.heap.size, 0, none⟩ hne (.int .i64 3)).below (Below.refl _ (w1.setCell ⟨W.heap.size, 0, none⟩ (.int .i64 3))).drew (Nat.le_refl _))
    clear hB1 hown1
    go_wp2
    go_region
    go_wp2
    rw [show ((i : Int) + (m' : Int)) = ((i + m' : Nat) : Int) by omega]
    exact HN.out _ _ ⟨⟨set_heap2 (set_heap2 HH.out 0 _) 1 _, ((hbW.setCell (p := ⟨W.heap.size, 0, none⟩) (Nat.le_refl _) _).setCell (p := ⟨W.heap.size, 1, none⟩) (Nat.le_refl _) _).drew⟩, RF.mk _ rfl rfl⟩
  · unfold RF
    conv => arg 2; whnf
    go_wp2_with fail
    refine Calls.mono (QL.out _) ?_
    rintro e w1 ⟨rfl, rfl⟩
    go_wp2_with fail
    refine Calls.mono (QT.out _) ?_
    rintro e w1 ⟨v1, rfl, hown1, hb1⟩
    obtain ⟨hbW, hz1, x0, x1, x2, x3, x4, y0, y1, y2⟩ := after_call0 hb1
    have HH : Hid (w1.heap[W.heap.size]? = _) := (hb1.block W.heap.size (by simp)).trans (heap_alloc_new W _)
    obtain ⟨a1, cc1, rfl⟩ := own_slice hown1
    have hB1 := Bs.of_owns hown1 PB.out
    have hne := own_far hown1
    have hcv := Bs.conv (hB1.below (Below.refl w1.heap.size w1).drew (Nat.le_refl _))
    have hcv2 := Bs.conv ((hB1.setc ⟨W.heap.size, 0, none⟩ hne (.int .i64 3)).below (Below.refl _ (w1.setCell ⟨W.heap.size, 0, none⟩ (.int .i64 3))).drew (Nat.le_refl _))
    clear hB1 hown1
    go_wp2
    go_region
    go_wp2
    rw [show ((i : Int) + (m' : Int)) = ((i + m' : Nat) : Int) by omega]
    exact HN.out _ _ ⟨⟨set_heap2 (set_heap2 HH.out 0 _) 1 _, ((hbW.setCell (p := ⟨W.heap.size, 0, none⟩) (Nat.le_refl _) _).setCell (p := ⟨W.heap.size, 1, none⟩) (Nat.le_refl _) _).drew⟩, RF.mk _ rfl rfl⟩

set_option maxRecDepth 100000 in
set_option maxHeartbeats 4000000 in
theorem sw_tbad (S : ByteArray) (s : List Int) (o m : Value) (i : Nat) (us : Nat → Value) (W : World) (D : List Int) (HS : Hid (Src S s)) (hlen : (s.length : Int) ≤ 100000) (hi : i < s.length) (hl : lletter (s.getD i 0) = false) (hq : s.getD i 0 = 34 ∨ s.getD i 0 = 39) (he : (qtake (s.drop i)).2.2 ≠ 0) :
    Goes rSW (RF S o m (.int .i64 (i : Int)) (.pointer (some ⟨W.heap.size, 0, none⟩)) (.int .i64 ((i + 1 : Nat) : Int)) us) (W.alloc (.cells #[.int .i64 0, .string { data := #[] }, .int .u64 0, .int .i64 (i : Int), .string (strOfNums D)] 81)) Nev Nev (fun a w3 => a.tmps.getD 2 undef = .slice none 0 0 ∧ a.tmps.getD 3 undef = .int .i64 ((i : Int) + (qtake (s.drop i)).2.1) ∧ a.tmps.getD 4 undef = .int .i64 (qtake (s.drop i)).2.2 ∧ a.defers = [] ∧ Below W.heap.size W w3) := by
  intro Q hN hX hR
  have hsz := HS.out.sz
  have hat := HS.out.at i hi
  have hcb := HS.out.bd i
  have hrc := run_cut_to S i (i : Int) rfl (by omega)
  have hcut : S.extract i S.size = strOfNums (s.drop i) := by
    rw [hsz, HS.out.cut i s.length]
    unfold lpc
    rw [List.take_of_length_le (Nat.le_refl _)]
  rw [hcut] at hrc
  have qt := fun W => rtak_any (s.drop i) W (fun j => by rw [getD_drop']; exact HS.out.bd _) (by rw [List.length_drop]; omega)
  have hpl := qtake_place (s.drop i)
  have hpb := qtake_bd (s.drop i) (fun c hc => mem_bd HS.out.bd c (List.mem_of_mem_drop hc))
  rw [List.length_drop] at hpl
  generalize strOfNums (s.drop i) = SD at hrc qt hcut
  generalize qtake (s.drop i) = r at qt hpl hpb he hR
  obtain ⟨B, n, e⟩ := r
  simp only at qt hpl hpb he hR
  obtain ⟨hn0, hn1'⟩ := hpl
  have QT : Hid _ := qt
  have PB : Hid _ := hpb
  generalize s.getD i 0 = c at hat hcb hl hq
  have ql := fun W => rletter_any c W hcb.1 hcb.2
  rw [hl] at ql
  have QL : Hid _ := ql
  have he' : (e != 0) = true := by simpa using he
  have HR : Hid _ := hR
  clear hN hX hR ql qt hpb hl hcut he
  rcases hq with rfl | rfl
  · unfold RF
    conv => arg 2; whnf
    go_wp2_with fail
    refine Calls.mono (QL.out _) ?_
    rintro e w1 ⟨rfl, rfl⟩
    go_wp2_with fail
    refine Calls.mono (QT.out _) ?_
    rintro e w1 ⟨v1, rfl, hown1, hb1⟩
    obtain ⟨hbW, hz1, x0, x1, x2, x3, x4, y0, y1, y2⟩ := after_call0 hb1
    clear hown1
    go_wp2
    exact HR.out _ _ ⟨rfl, rfl, rfl, rfl, hbW⟩
  · unfold RF
    conv => arg 2; whnf
    go_wp2_with fail
    refine Calls.mono (QL.out _) ?_
    rintro e w1 ⟨rfl, rfl⟩
    go_wp2_with fail
    refine Calls.mono (QT.out _) ?_
    rintro e w1 ⟨v1, rfl, hown1, hb1⟩
    obtain ⟨hbW, hz1, x0, x1, x2, x3, x4, y0, y1, y2⟩ := after_call0 hb1
    clear hown1
    go_wp2
    exact HR.out _ _ ⟨rfl, rfl, rfl, rfl, hbW⟩

theorem line_ge2 (s : List Int) (i : Nat) {e : Nat} (hi : i + 1 < s.length) (h1 : s.getD i 0 = 47) (h2 : s.getD (i + 1) 0 = 47) (he : e = lrun leol s s.length (s.length - i) i) : i + 2 ≤ e := by
  obtain ⟨m, hm⟩ : ∃ m, s.length - i = m + 1 + 1 := ⟨s.length - i - 2, by omega⟩
  rw [he, hm, lrun, if_pos ⟨by omega, by rw [h1]; decide⟩, lrun, if_pos ⟨hi, by rw [h2]; decide⟩]
  exact lrun_ge _ _ _ _ _

theorem rT_eq : rT = .seq rT1 (.seq rT2 (.seq rSW rT3)) := rfl

theorem rB_eq : rB = .seq rP1 (.seq rP2 (.seq rP3 (.seq rP4 rT))) := rfl

theorem rloop_eq : rloop = .loop (.block 1 rB) := rfl

theorem sw_any (S : ByteArray) (s : List Int) (o m : Value) (i : Nat) (us : Nat → Value) (W : World) (D : List Int) (HS : Hid (Src S s)) (hlen : (s.length : Int) ≤ 100000) (hi : i < s.length) :
    Goes rSW (RF S o m (.int .i64 (i : Int)) (.pointer (some ⟨W.heap.size, 0, none⟩)) (.int .i64 ((i + 1 : Nat) : Int)) us) (W.alloc (.cells #[.int .i64 0, .string { data := #[] }, .int .u64 0, .int .i64 (i : Int), .string (strOfNums D)] 81))
      (fun a w3 => ∃ kd tx n k2, ltok s i D = .inl (⟨kd, tx, n, i, D⟩, k2) ∧ TkBlk W w3 kd tx n i D ∧ ∃ us, a = RF S o m (.int .i64 (i : Int)) (.pointer (some ⟨W.heap.size, 0, none⟩)) (.int .i64 ((k2 : Nat) : Int)) us) Nev
      (fun a w3 => ∃ p e, ltok s i D = .inr (p, e) ∧ a.tmps.getD 2 undef = .slice none 0 0 ∧ a.tmps.getD 3 undef = .int .i64 p ∧ a.tmps.getD 4 undef = .int .i64 e ∧ a.defers = [] ∧ Below W.heap.size W w3) := by
  by_cases hl : lletter (s.getD i 0) = true
  · by_cases hn : lnumb (s.getD i 0) = true
    · by_cases hq : (qnum (lpc s i (lrun lletter s s.length (s.length - (i + 1)) (i + 1)))).2 = true
      · refine (sw_num S s o m i us W D HS hlen hi hl hn hq).mono ?_ Nev.any Nev.any
        intro a w h
        exact ⟨_, _, _, _, by unfold ltok; rw [if_pos hl]; simp only; rw [if_pos hn, if_pos hq], h⟩
      · refine (sw_bad S s o m i us W D HS hlen hi hl hn (Bool.eq_false_iff.2 hq)).mono Nev.any Nev.any ?_
        intro a w h
        exact ⟨_, _, by unfold ltok; rw [if_pos hl]; simp only; rw [if_pos hn, if_neg hq], h⟩
    · refine (sw_name S s o m i us W D HS hlen hi hl (Bool.eq_false_iff.2 hn)).mono ?_ Nev.any Nev.any
      intro a w h
      exact ⟨_, _, _, _, by unfold ltok; rw [if_pos hl]; simp only; rw [if_neg hn], h⟩
  · have hl' := Bool.eq_false_iff.2 hl
    by_cases hq : s.getD i 0 = 34 ∨ s.getD i 0 = 39
    · by_cases he : (qtake (s.drop i)).2.2 = 0
      · refine (sw_text S s o m i us W D HS hlen hi hl' hq he).mono ?_ Nev.any Nev.any
        intro a w h
        exact ⟨_, _, _, _, by unfold ltok; rw [if_neg hl, if_pos hq, if_pos he], h⟩
      · refine (sw_tbad S s o m i us W D HS hlen hi hl' hq he).mono Nev.any Nev.any ?_
        intro a w h
        exact ⟨_, _, by unfold ltok; rw [if_neg hl, if_pos hq, if_neg he], h⟩
    · by_cases hs : lsign (s.getD i 0) = true
      · refine (sw_sign S s o m i us W D HS hlen hi hl' hq hs).mono ?_ Nev.any Nev.any
        intro a w h
        exact ⟨_, _, _, _, by unfold ltok; rw [if_neg hl, if_neg hq, if_pos hs], h⟩
      · refine (sw_none S s o m i us W D HS hlen hi hl' hq (Bool.eq_false_iff.2 hs)).mono Nev.any Nev.any ?_
        intro a w h
        exact ⟨_, _, by unfold ltok; rw [if_neg hl, if_neg hq, if_neg hs], h⟩

theorem Goes.seqN {x y : Code} {a : Act} {w : World} {M N X Rt : Act → World → Prop} (h1 : Goes x a w M Nev Nev) (h2 : ∀ a w, M a w → Goes y a w N X Rt) : Goes (.seq x y) a w N X Rt :=
  (h1.mono (fun _ _ h => h) Nev.any Nev.any).seq h2

theorem t_any (S : ByteArray) (s : List Int) (o m t9 k10 : Value) (i : Nat) (us : Nat → Value) (w W : World) (out : List Tk) (ms : List Nat) (HS : Hid (Src S s)) (HL : Hid (s.length ≤ 100000)) (hi : i < s.length) (hml : ms.length ≤ s.length) (hol : out.length ≤ s.length)
    (HM : Hid (∀ j, ms.getD j 0 ≤ 1000000)) (HMo : Hid (W.ownsRow w.heap.size 3 1 m ms.length (mcells ms))) (HTo : Hid (To W w.heap.size o out)) (HB : Hid (Below w.heap.size w W)) :
    Goes rT (RF S o m (.int .i64 (i : Int)) t9 k10 us) W
      (fun a w3 => ∃ t k2 o2, ltok s i (ldoc s i ms) = .inl (t, k2) ∧ (∃ t9 k10 us, a = RF S o2 m (.int .i64 ((k2 : Nat) : Int)) t9 k10 us) ∧ To w3 w.heap.size o2 (out ++ [t]) ∧ w3.ownsRow w.heap.size 3 1 m ms.length (mcells ms) ∧ Below w.heap.size w w3) Nev
      (fun a w3 => ∃ p e, ltok s i (ldoc s i ms) = .inr (p, e) ∧ Rtn w ([], p, e) a w3) := by
  have hlen : (s.length : Int) ≤ 100000 := by have := HL.out; omega
  have hle := HL.out
  rw [rT_eq]
  refine (t1 S s o m t9 k10 i us w W ms HS HL hi hml HM HMo).seqN ?_
  rintro a w1 ⟨rfl, us1, rfl⟩
  refine (t2 S s o m _ k10 i us1 _ hi hlen).seqN ?_
  rintro a w1 ⟨rfl, us2, rfl⟩
  refine ((sw_any S s o m i us2 W (ldoc s i ms) HS hlen hi).mono (fun _ _ h => h) Nev.any ?_).seq ?_
  · rintro a w1 ⟨p, e, h1, h2, h3, h4, h5, h6⟩
    exact ⟨p, e, h1, _, h2, h3, h4, h5, To.nil _ _, HB.out.trans (h6.mono HB.out.size)⟩
  · rintro a w1 ⟨kd, tx, n, k2, h1, h2, us3, rfl⟩
    have hok := ltok_ok s i _ _ _ hi (mem_bd HS.out.bd) h1
    have hdb := ldoc_bd s i ms (mem_bd HS.out.bd)
    refine (t3 S s o m _ k2 i us3 w W w1 out kd tx n (ldoc s i ms) h2 HTo HB ⟨hok.2.2.2.2.2, hdb⟩ (by omega)).mono ?_ Nev.any Nev.any
    rintro a w3 ⟨o2, ⟨us4, rfl⟩, h3, h4, h5⟩
    exact ⟨_, k2, o2, h1, ⟨_, _, us4, rfl⟩, h3, h5 ms HMo.out, h4⟩

def Fwd (w : World) (S : ByteArray) (s : List Int) (R : List Tk × Int × Int) (i : Nat) (a : Act) (w' : World) : Prop :=
  ∃ o m i2 t9 k10 us, a = RF S o m (.int .i64 ((i2 : Nat) : Int)) t9 k10 us ∧ i < i2 ∧ i2 ≤ s.length ∧ SJ w s R o m (.int .i64 ((i2 : Nat) : Int)) w'

theorem b_any (S : ByteArray) (s : List Int) (R : List Tk × Int × Int) (o m t9 k10 : Value) (i f : Nat) (us : Nat → Value) (w W : World) (out : List Tk) (ms : List Nat) (HS : Hid (Src S s)) (HL : Hid (s.length ≤ 100000)) (hi : i ≤ s.length) (hf : s.length < i + f) (hol : out.length ≤ i) (hml : ms.length ≤ i)
    (HM : Hid (∀ j, ms.getD j 0 ≤ 1000000)) (HR : Hid (R = lsc s f i out ms)) (HTo : Hid (To W w.heap.size o out)) (HMo : Hid (W.ownsRow w.heap.size 3 1 m ms.length (mcells ms))) (HB : Hid (Below w.heap.size w W)) :
    Goes rB (RF S o m (.int .i64 (i : Int)) t9 k10 us) W (Fwd w S s R i) (Fwd w S s R i) (Rtn w R) := by
  have hlen : (s.length : Int) ≤ 100000 := by have := HL.out; omega
  have hle := HL.out
  obtain ⟨f, rfl⟩ : ∃ g, f = g + 1 := ⟨f - 1, by omega⟩
  have hE := HR.out
  rw [lsc] at hE
  simp only at hE
  have hge := lrun_ge lblank s s.length (s.length - i) i
  have hkl := lrun_le lblank s s.length (s.length - i) i hi
  rw [rB_eq]
  refine (g1 S s o m t9 k10 i us W HS hlen hi).seqN ?_
  generalize lrun lblank s s.length (s.length - i) i = k at hE hge hkl
  rintro a w1 ⟨rfl, us1, rfl⟩
  by_cases hk : k = s.length
  · subst hk
    rw [if_pos rfl] at hE
    exact ((g2_end S s o m t9 k10 us1 w w1 R out ms HS HL (by omega) (by omega) HM HTo HMo HB hE).mono Nev.any Nev.any (fun _ _ h => h)).seq (M := Nev) (fun _ _ h => h.elim)
  rw [if_neg hk] at hE
  have hk' : k < s.length := by omega
  refine (g2_on S s o m t9 k10 k us1 w1 HS hk').seqN ?_
  rintro a w2 ⟨rfl, us2, rfl⟩
  by_cases k1 : k + 1 < s.length ∧ s.getD k 0 = 47 ∧ s.getD (k + 1) 0 = 47
  · rw [if_pos k1] at hE
    have h2 := line_ge2 s k k1.1 k1.2.1 k1.2.2 rfl
    have h3 := lrun_le leol s s.length (s.length - k) k (by omega)
    refine Goes.seq (M := Nev) ((g3_yes S s o m t9 k10 k us2 w2 HS hlen k1).mono Nev.any ?_ Nev.any) (fun _ _ h => h.elim)
    rintro a w3 ⟨rfl, us3, rfl⟩
    exact ⟨o, m, _, t9, k10, us3, rfl, by omega, h3, _, f, out, ms, rfl, h3, by omega, by omega, by omega, HM, hE, HTo.out, HMo.out, HB.out⟩
  rw [if_neg k1] at hE
  refine (g3_no S s o m t9 k10 k us2 w2 HS hlen hk' k1).seqN ?_
  rintro a w3 ⟨rfl, us3, rfl⟩
  by_cases k2 : k + 1 < s.length ∧ s.getD k 0 = 47 ∧ s.getD (k + 1) 0 = 42
  · rw [if_pos k2] at hE
    have h2 := lcl_ge s (s.length - (k + 2)) (k + 2)
    refine Goes.seq (M := Nev) ((g4_yes S s o m t9 k10 k us3 w w3 out ms HS hlen k2 (by omega) HTo HMo HB).mono Nev.any ?_ ?_) (fun _ _ h => h.elim)
    · rintro a w4 ⟨hK, ⟨m2, us4, rfl, hm2⟩, hto, hb⟩
      rw [if_pos hK] at hE
      refine ⟨o, m2, _, t9, k10, us4, rfl, by omega, by omega, _, f, out, _, rfl, by omega, by omega, by omega, by simp only [List.length_append, List.length_cons, List.length_nil]; omega, ?_, hE, hto, hm2, hb⟩
      intro j
      rcases Nat.lt_or_ge j ms.length with hj | hj
      · have := HM.out j
        simpa [List.getD, List.getElem?_append_left hj] using this
      · rw [List.getD, List.getElem?_append_right hj]
        match j - ms.length with
        | 0 => simp; omega
        | 1 => simp; omega
        | n + 2 => simp
    · rintro a w4 ⟨hK, hr⟩
      rw [if_neg hK] at hE
      rw [hE]
      exact hr
  rw [if_neg k2] at hE
  refine (g4_no S s o m t9 k10 k us3 w3 HS hlen hk' k2).seqN ?_
  rintro a w4 ⟨rfl, us4, rfl⟩
  refine (t_any S s o m t9 k10 k us4 w w4 out ms HS HL hk' (by omega) (by omega) HM HMo HTo HB).mono ?_ Nev.any ?_
  · rintro a w5 ⟨t, k3, o2, h1, ⟨t9', k10', us5, rfl⟩, h2, h3, h4⟩
    rw [h1] at hE
    simp only at hE
    have hok := ltok_ok s k _ _ _ hk' (mem_bd HS.out.bd) h1
    obtain ⟨_, _, hlt, hle3, _⟩ := hok
    exact ⟨o2, m, k3, t9', k10', us5, rfl, by omega, hle3, k3, f, out ++ [t], ms, rfl, hle3, by omega, by simp; omega, by omega, HM, hE, h2, h3, h4⟩
  · rintro a w5 ⟨p, e, h1, h2⟩
    rw [h1] at hE
    simp only at hE
    rw [hE]
    exact h2

def LI (w : World) (S : ByteArray) (s : List Int) (R : List Tk × Int × Int) (a : Act) (w' : World) : Prop :=
  ∃ o m i t9 k10 us, a = RF S o m (.int .i64 ((i : Nat) : Int)) t9 k10 us ∧ i ≤ s.length ∧ SJ w s R o m (.int .i64 ((i : Nat) : Int)) w'

theorem LI.mk {w : World} {S : ByteArray} {s : List Int} {R : List Tk × Int × Int} {a : Act} {w' : World} {o m t9 k10 : Value} {i : Nat} (us : Nat → Value) (_hu : us = fun k => a.tmps.getD k undef) (h : a = RF S o m (.int .i64 ((i : Nat) : Int)) t9 k10 us) (hi : i ≤ s.length) (hs : SJ w s R o m (.int .i64 ((i : Nat) : Int)) w') : LI w S s R a w' :=
  ⟨o, m, i, t9, k10, us, h, hi, hs⟩

set_option maxRecDepth 100000 in
theorem RF_seven (S : ByteArray) (o m iv t9 k10 : Value) (us : Nat → Value) : (RF S o m iv t9 k10 us).tmps.getD 7 undef = iv := rfl

theorem rloop_any (S : ByteArray) (s : List Int) (R : List Tk × Int × Int) (w W : World) (a : Act) (HS : Hid (Src S s)) (HL : Hid (s.length ≤ 100000)) (hI : LI w S s R a W) (Q : Exit → Act → World → Prop) (hQ : ∀ a w', Rtn w R a w' → Q .ret a w') : rloop.wp Tryz.prog Q a W := by
  rw [rloop_eq]
  refine wp_loop (LI w S s R) (fun a _ => s.length + 1 - (intOf (a.tmps.getD 7 undef)).toNat) hI ?_
  rintro a wr ⟨o, m, i0, t9, k10, us, rfl, hi0, i, f, out, ms, he, hi, hf, hol, hml, HM, HR, hTo, hMo, hB⟩
  obtain rfl : i0 = i := by simp at he; omega
  refine wp_block ?_
  have hfw : ∀ a w', Fwd w S s R i0 a w' → LI w S s R a w' ∧ s.length + 1 - (intOf (a.tmps.getD 7 undef)).toNat < s.length + 1 - (intOf ((RF S o m (.int .i64 ((i0 : Nat) : Int)) t9 k10 us).tmps.getD 7 undef)).toNat := by
    rintro a w' ⟨o2, m2, i2, t9', k10', us2, rfl, h1, h2, h3⟩
    refine ⟨⟨o2, m2, i2, t9', k10', us2, rfl, h2, h3⟩, ?_⟩
    rw [RF_seven, RF_seven]
    simp only [intOf, Int.toNat_natCast]
    omega
  refine b_any S s R o m t9 k10 i0 f us w wr out ms HS HL hi hf hol hml HM HR hTo hMo hB _ ?_ ?_ ?_
  · intro a w' h
    exact hfw a w' h
  · intro a w' h
    simp only [Exit.inBlock, if_true, Exit.then]
    exact hfw a w' h
  · intro a w' h
    exact hQ a w' h

set_option maxRecDepth 100000 in
set_option maxHeartbeats 4000000 in
theorem rscan_go (S : ByteArray) (s : List Int) (w : World) (HS : Hid (Src S s)) (HL : Hid (s.length ≤ 100000)) (R : List Tk × Int × Int) (HR : Hid (R = lsc s (s.length + 1) 0 [] [])) :
    Calls Tryz.prog 22 #[.string S] w fun e w' => ScanEnd w R e w' := by
  have hsz := HS.out.sz
  have hlen : (s.length : Int) ≤ 100000 := by have := HL.out; omega
  have hlen2 : decide ((100000 : Int) < (s.length : Int)) = false := by have := HL.out; simp; omega
  go_enter Tryz.func22, Tryz.ntmps22
  go_wp2
  refine rloop_any S s R w w _ HS HL ?_ _ ?_
  · exact LI.mk (o := .slice none 0 0) (m := .slice none 0 0) (t9 := undef) (k10 := undef) (i := 0) _ rfl rfl (Nat.zero_le _) ⟨0, s.length + 1, [], [], rfl, by omega, by omega, by simp, by simp, fun j => by simp, HR, To.nil _ _, World.ownsRow_nil _ _ _ _, Below.refl _ _⟩
  · rintro a w' ⟨v, h2, h3, h4, h5, h6, h7⟩
    refine bodyPost_ret (results_tmp3 rfl _ _ _) h5 ?_
    rw [h2, h3, h4]
    exact ⟨v, rfl, h6, h7⟩

theorem rscan_any (s : List Int) (w : World) (hz : Hid (∀ i, 0 ≤ s.getD i 0 ∧ s.getD i 0 ≤ 255)) (hlen : s.length ≤ 100000) :
    Calls Tryz.prog 22 #[.string (strOfNums s)] w fun e w' => ScanEnd w (lscan s) e w' := by
  rw [lscan, if_neg (by omega)]
  exact rscan_go (strOfNums s) s w ⟨strOfNums_size s, hz.out, rfl⟩ hlen _ rfl

end Go.Proofs.YtlekfcehmlepkaaGreatDoor
