/- The reference's own Scan: quoted texts. -/
import Derived.Test.YtjkcmcefmciinaaDoorLQ5
namespace Go.Proofs.YtjkcmcefmciinaaDoor
open Go.RowKit
set_option linter.unusedVariables false
set_option linter.unusedSimpArgs false

set_option maxRecDepth 100000 in
set_option maxHeartbeats 4000000 in
theorem sw_text (S : ByteArray) (s : List Int) (o m : Value) (i : Nat) (us : Nat → Value) (W : World) (D : List Int) (HS : Hid (Src S s)) (hlen : (s.length : Int) ≤ 100000) (hi : i < s.length) (hl : lletter (s.getD i 0) = false) (hq : s.getD i 0 = 34 ∨ s.getD i 0 = 39) (he : (qtake (s.drop i)).2.2 = 0) :
    Goes rSW (RF S o m (.int .i64 (i : Int)) (.pointer (some ⟨W.heap.size, 0, none⟩)) (.int .i64 ((i + 1 : Nat) : Int)) us) (W.alloc (.cells #[.int .i64 0, .string { data := #[] }, .int .u64 0, .int .i64 (i : Int), .string (strOfNums D)] 40)) (fun a w3 => TkBlk W w3 3 (qtake (s.drop i)).1 0 i D ∧ ∃ us, a = RF S o m (.int .i64 (i : Int)) (.pointer (some ⟨W.heap.size, 0, none⟩)) (.int .i64 ((i + (qtake (s.drop i)).2.1.toNat : Nat) : Int)) us) Nev Nev := by
  intro Q hN hX hR
  have hsz := HS.out.sz
  have hat := HS.out.at i hi
  have hcb := HS.out.bd i
  have hrc := run_cut_to S i (i : Int) rfl (by omega)
  have hcut : S.extract i S.size = strOfNums (s.drop i) := by
    rw [hsz, HS.out.cut i s.length]
    unfold lpc
    rw [List.take_of_length_le (Nat.le_refl _)]
  rw [hcut] at hrc
  have qt := fun W => rtak_any (s.drop i) W (fun j => by rw [getD_drop']; exact HS.out.bd _) (by rw [List.length_drop]; omega)
  have hpl := qtake_place (s.drop i)
  have hpb := qtake_bd (s.drop i) (fun c hc => mem_bd HS.out.bd c (List.mem_of_mem_drop hc))
  rw [List.length_drop] at hpl
  generalize strOfNums (s.drop i) = SD at hrc qt hcut
  generalize qtake (s.drop i) = r at qt hpl hpb he hN
  obtain ⟨B, n, e⟩ := r
  simp only at qt hpl hpb he hN
  obtain ⟨hn0, hn1'⟩ := hpl
  have QT : Hid _ := qt
  have PB : Hid _ := hpb
  generalize s.getD i 0 = c at hat hcb hl hq
  have ql := fun W => rletter_any c W hcb.1 hcb.2
  rw [hl] at ql
  have QL : Hid _ := ql
  subst he
  obtain ⟨m', rfl⟩ : ∃ m : Nat, n = (m : Int) := ⟨n.toNat, by omega⟩
  rw [Int.toNat_natCast] at hN
  have HN : Hid _ := hN
  clear hN hX hR ql qt hpb hl hcut
  rcases hq with rfl | rfl
  · unfold RF
    conv => arg 2; whnf
    go_wp2_with fail
    refine Calls.mono (QL.out _) ?_
    rintro e w1 ⟨rfl, rfl⟩
    go_wp2_with fail
    refine Calls.mono (QT.out _) ?_
    rintro e w1 ⟨v1, rfl, hown1, hb1⟩
    obtain ⟨hbW, hz1, x0, x1, x2, x3, x4, y0, y1, y2⟩ := after_call0 hb1
    have HH : Hid (w1.heap[W.heap.size]? = _) := (hb1.block W.heap.size (by simp)).trans (heap_alloc_new W _)
    obtain ⟨a1, cc1, rfl⟩ := own_slice hown1
    have hB1 := Bs.of_owns hown1 PB.out
    have hne := own_far hown1
    have hcv := Bs.conv (hB1.below (Below.refl w1.heap.size w1).drew (Nat.le_refl _))
    have hcv2 := Bs.conv ((hB1.setc ⟨W.heap.size, 0, none⟩ hne (.int .i64 3)).below (Below.refl _ (w1.setCell ⟨W.heap.size, 0, none⟩ (.int .i64 3))).drew (Nat.le_refl _))
    clear hB1 hown1
    go_wp2
    go_region
    go_wp2
    rw [show ((i : Int) + (m' : Int)) = ((i + m' : Nat) : Int) by omega]
    exact HN.out _ _ ⟨⟨set_heap (set_heap HH.out 0 _) 1 _, ((hbW.setCell (p := ⟨W.heap.size, 0, none⟩) (Nat.le_refl _) _).setCell (p := ⟨W.heap.size, 1, none⟩) (Nat.le_refl _) _).drew⟩, RF.mk _ rfl rfl⟩
  · unfold RF
    conv => arg 2; whnf
    go_wp2_with fail
    refine Calls.mono (QL.out _) ?_
    rintro e w1 ⟨rfl, rfl⟩
    go_wp2_with fail
    refine Calls.mono (QT.out _) ?_
    rintro e w1 ⟨v1, rfl, hown1, hb1⟩
    obtain ⟨hbW, hz1, x0, x1, x2, x3, x4, y0, y1, y2⟩ := after_call0 hb1
    have HH : Hid (w1.heap[W.heap.size]? = _) := (hb1.block W.heap.size (by simp)).trans (heap_alloc_new W _)
    obtain ⟨a1, cc1, rfl⟩ := own_slice hown1
    have hB1 := Bs.of_owns hown1 PB.out
    have hne := own_far hown1
    have hcv := Bs.conv (hB1.below (Below.refl w1.heap.size w1).drew (Nat.le_refl _))
    have hcv2 := Bs.conv ((hB1.setc ⟨W.heap.size, 0, none⟩ hne (.int .i64 3)).below (Below.refl _ (w1.setCell ⟨W.heap.size, 0, none⟩ (.int .i64 3))).drew (Nat.le_refl _))
    clear hB1 hown1
    go_wp2
    go_region
    go_wp2
    rw [show ((i : Int) + (m' : Int)) = ((i + m' : Nat) : Int) by omega]
    exact HN.out _ _ ⟨⟨set_heap (set_heap HH.out 0 _) 1 _, ((hbW.setCell (p := ⟨W.heap.size, 0, none⟩) (Nat.le_refl _) _).setCell (p := ⟨W.heap.size, 1, none⟩) (Nat.le_refl _) _).drew⟩, RF.mk _ rfl rfl⟩

set_option maxRecDepth 100000 in
set_option maxHeartbeats 4000000 in
theorem sw_tbad (S : ByteArray) (s : List Int) (o m : Value) (i : Nat) (us : Nat → Value) (W : World) (D : List Int) (HS : Hid (Src S s)) (hlen : (s.length : Int) ≤ 100000) (hi : i < s.length) (hl : lletter (s.getD i 0) = false) (hq : s.getD i 0 = 34 ∨ s.getD i 0 = 39) (he : (qtake (s.drop i)).2.2 ≠ 0) :
    Goes rSW (RF S o m (.int .i64 (i : Int)) (.pointer (some ⟨W.heap.size, 0, none⟩)) (.int .i64 ((i + 1 : Nat) : Int)) us) (W.alloc (.cells #[.int .i64 0, .string { data := #[] }, .int .u64 0, .int .i64 (i : Int), .string (strOfNums D)] 40)) Nev Nev (fun a w3 => a.tmps.getD 2 undef = .slice none 0 0 ∧ a.tmps.getD 3 undef = .int .i64 ((i : Int) + (qtake (s.drop i)).2.1) ∧ a.tmps.getD 4 undef = .int .i64 (qtake (s.drop i)).2.2 ∧ a.defers = [] ∧ Below W.heap.size W w3) := by
  intro Q hN hX hR
  have hsz := HS.out.sz
  have hat := HS.out.at i hi
  have hcb := HS.out.bd i
  have hrc := run_cut_to S i (i : Int) rfl (by omega)
  have hcut : S.extract i S.size = strOfNums (s.drop i) := by
    rw [hsz, HS.out.cut i s.length]
    unfold lpc
    rw [List.take_of_length_le (Nat.le_refl _)]
  rw [hcut] at hrc
  have qt := fun W => rtak_any (s.drop i) W (fun j => by rw [getD_drop']; exact HS.out.bd _) (by rw [List.length_drop]; omega)
  have hpl := qtake_place (s.drop i)
  have hpb := qtake_bd (s.drop i) (fun c hc => mem_bd HS.out.bd c (List.mem_of_mem_drop hc))
  rw [List.length_drop] at hpl
  generalize strOfNums (s.drop i) = SD at hrc qt hcut
  generalize qtake (s.drop i) = r at qt hpl hpb he hR
  obtain ⟨B, n, e⟩ := r
  simp only at qt hpl hpb he hR
  obtain ⟨hn0, hn1'⟩ := hpl
  have QT : Hid _ := qt
  have PB : Hid _ := hpb
  generalize s.getD i 0 = c at hat hcb hl hq
  have ql := fun W => rletter_any c W hcb.1 hcb.2
  rw [hl] at ql
  have QL : Hid _ := ql
  have he' : (e != 0) = true := by simpa using he
  have HR : Hid _ := hR
  clear hN hX hR ql qt hpb hl hcut he
  rcases hq with rfl | rfl
  · unfold RF
    conv => arg 2; whnf
    go_wp2_with fail
    refine Calls.mono (QL.out _) ?_
    rintro e w1 ⟨rfl, rfl⟩
    go_wp2_with fail
    refine Calls.mono (QT.out _) ?_
    rintro e w1 ⟨v1, rfl, hown1, hb1⟩
    obtain ⟨hbW, hz1, x0, x1, x2, x3, x4, y0, y1, y2⟩ := after_call0 hb1
    clear hown1
    go_wp2
    exact HR.out _ _ ⟨rfl, rfl, rfl, rfl, hbW⟩
  · unfold RF
    conv => arg 2; whnf
    go_wp2_with fail
    refine Calls.mono (QL.out _) ?_
    rintro e w1 ⟨rfl, rfl⟩
    go_wp2_with fail
    refine Calls.mono (QT.out _) ?_
    rintro e w1 ⟨v1, rfl, hown1, hb1⟩
    obtain ⟨hbW, hz1, x0, x1, x2, x3, x4, y0, y1, y2⟩ := after_call0 hb1
    clear hown1
    go_wp2
    exact HR.out _ _ ⟨rfl, rfl, rfl, rfl, hbW⟩

end Go.Proofs.YtjkcmcefmciinaaDoor
