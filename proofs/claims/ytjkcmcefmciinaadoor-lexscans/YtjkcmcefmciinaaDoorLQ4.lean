/- The reference's own Scan: a comment between signs. -/
import Derived.Test.YtjkcmcefmciinaaDoorLQ0
namespace Go.Proofs.YtjkcmcefmciinaaDoor
open Go.RowKit
set_option linter.unusedVariables false
set_option linter.unusedSimpArgs false

theorem RF.mk2 {S : ByteArray} {o m iv t9 k10 : Value} {a' : Act} {P : Prop} (us : Nat → Value) (_hu : us = fun k => a'.tmps.getD k undef) (h : a' = RF S o m iv t9 k10 us) (hP : P) : ∃ us, a' = RF S o m iv t9 k10 us ∧ P := ⟨us, h, hP⟩

set_option maxRecDepth 100000 in
set_option maxHeartbeats 4000000 in
theorem g4_no (S : ByteArray) (s : List Int) (o m t9 k10 : Value) (i : Nat) (us : Nat → Value) (W : World) (HS : Hid (Src S s)) (hlen : (s.length : Int) ≤ 100000) (hi : i < s.length) (k1 : ¬ (i + 1 < s.length ∧ s.getD i 0 = 47 ∧ s.getD (i + 1) 0 = 42)) :
    Goes rP4 (RF S o m (.int .i64 (i : Int)) t9 k10 us) W (fun a w => w = W ∧ ∃ us, a = RF S o m (.int .i64 (i : Int)) t9 k10 us) Nev Nev := by
  intro Q hN hX hR
  have hsz := HS.out.sz
  have HN : Hid _ := hN
  clear hX hR hN
  by_cases hi1n : i + 1 < s.length
  · have hi1 : (i : Int) + 1 < (s.length : Int) := by omega
    have hs1 := run_cut S i (i + 2) (i : Int) ((i : Int) + 2) rfl (by omega) (by omega) (by omega)
    have htw := HS.out.two i hi1n 47 42 (by omega) (by omega)
    rw [decide_eq_false (fun h => k1 ⟨hi1n, h⟩)] at htw
    change ((S.extract i (i + 2)).toList == [47, 42]) = false at htw
    clear k1
    unfold RF
    conv => arg 2; whnf
    go_wp2
    exact HN.out _ _ ⟨rfl, RF.mk _ rfl rfl⟩
  · have hi1 : ¬ (i : Int) + 1 < (s.length : Int) := by omega
    clear k1
    unfold RF
    conv => arg 2; whnf
    go_wp2
    exact HN.out _ _ ⟨rfl, RF.mk _ rfl rfl⟩

set_option maxRecDepth 100000 in
set_option maxHeartbeats 4000000 in
theorem g4_yes (S : ByteArray) (s : List Int) (o m t9 k10 : Value) (i : Nat) (us : Nat → Value) (w W : World) (out : List Tk) (ms : List Nat) (HS : Hid (Src S s)) (hlen : (s.length : Int) ≤ 100000) (k2 : i + 1 < s.length ∧ s.getD i 0 = 47 ∧ s.getD (i + 1) 0 = 42)
    (hml : ms.length ≤ s.length) (HTo : Hid (To W w.heap.size o out)) (HMo : Hid (W.ownsRow w.heap.size 3 1 m ms.length (mcells ms))) (HB : Hid (Below w.heap.size w W)) :
    Goes rP4 (RF S o m (.int .i64 (i : Int)) t9 k10 us) W Nev
      (fun a w' => lcl s (s.length - (i + 2)) (i + 2) + 1 < s.length ∧ (∃ m2 us, a = RF S o m2 (.int .i64 ((lcl s (s.length - (i + 2)) (i + 2) + 2 : Nat) : Int)) t9 k10 us ∧ w'.ownsRow w.heap.size 3 1 m2 (ms ++ [i, lcl s (s.length - (i + 2)) (i + 2) + 1]).length (mcells (ms ++ [i, lcl s (s.length - (i + 2)) (i + 2) + 1]))) ∧ To w' w.heap.size o out ∧ Below w.heap.size w w')
      (fun a w' => ¬ (lcl s (s.length - (i + 2)) (i + 2) + 1 < s.length) ∧ Rtn w ([], (i : Int), 51) a w') := by
  intro Q hN hX hR
  have hsz := HS.out.sz
  obtain ⟨K, hK⟩ : ∃ K, K = lcl s (s.length - (i + 2)) (i + 2) := ⟨_, rfl⟩
  rw [← hK] at hX hR
  have HK : Hid (K = lcl s (s.length - (i + 2)) (i + 2)) := hK
  have HX : Hid _ := hX
  have HR : Hid _ := hR
  have hi1 : (i : Int) + 1 < (s.length : Int) := by omega
  have hs1 := run_cut S i (i + 2) (i : Int) ((i : Int) + 2) rfl (by omega) (by omega) (by omega)
  have htw2 := HS.out.two i k2.1 47 42 (by omega) (by omega)
  rw [decide_eq_true k2.2] at htw2
  change ((S.extract i (i + 2)).toList == [47, 42]) = true at htw2
  have hkl := k2.1
  clear hX hR hK hN k2
  unfold RF
  conv => arg 2; whnf
  go_wp2
  go_loopw [8] (fun v wr => ∃ j : Nat, v = .int .i64 (j : Int) ∧ i + 2 ≤ j ∧ j ≤ s.length ∧ Hid (K = lcl s (s.length - j) j) ∧ W = wr) (fun v _ => s.length - (intOf v).toNat)
  case atStart => exact ⟨i + 2, by go_num, by omega, by omega, HK, rfl⟩
  case round =>
    obtain ⟨j, rfl, hij, hjs, HJ, rfl⟩ := hrel
    by_cases hjl : j + 1 < s.length
    · have hs2 := run_cut S j (j + 2) (j : Int) ((j : Int) + 2) rfl (by omega) (by omega) (by omega)
      have htw3 := HS.out.two j hjl 42 47 (by omega) (by omega)
      have hjl' : (j : Int) + 1 < (s.length : Int) := by omega
      have HJ' := HJ.out
      obtain ⟨m', hm⟩ : ∃ m, s.length - j = m + 1 := ⟨s.length - j - 1, by omega⟩
      rw [hm, lcl, show m' = s.length - (j + 1) by omega] at HJ'
      by_cases h10 : s.getD j 0 = 42 ∧ s.getD (j + 1) 0 = 47
      · rw [if_neg (fun h => h.2 h10)] at HJ'
        rw [decide_eq_true h10] at htw3
        change ((S.extract j (j + 2)).toList == [42, 47]) = true at htw3
        subst HJ'
        have hge : ¬ (s.length : Int) ≤ (K : Int) + 1 := by omega
        clear HJ hm
        have HMo' := own_allc HMo.out (.cells #[.int .i64 (i : Int), .int .i64 ((K : Int) + 1)] 3)
        have hB1 := HB.out.alloc HB.out.size (.cells #[.int .i64 (i : Int), .int .i64 ((K : Int) + 1)] 3)
        have hc0 : (W.alloc (.cells #[.int .i64 (i : Int), .int .i64 ((K : Int) + 1)] 3)).cell? ⟨W.heap.size, 0, none⟩ = some (.int .i64 (i : Int)) := by rw [World.cell?_alloc_new]; rfl
        have hc1 : (W.alloc (.cells #[.int .i64 (i : Int), .int .i64 ((K : Int) + 1)] 3)).cell? ⟨W.heap.size, 1, none⟩ = some (.int .i64 ((K + 1 : Nat) : Int)) := by rw [World.cell?_alloc_new]; rfl
        have HC0 : Hid _ := hc0
        have HC1 : Hid _ := hc1
        have HMoA : Hid (World.ownsRow _ _ _ _ _ _ _) := HMo'
        have HB1 : Hid (Below _ _ _) := hB1
        have hn2 : ms.length + 2 ≤ 1000000 := by omega
        have hTo' := HTo.out.below ((Below.refl W.heap.size W).alloc (Nat.le_refl _) (.cells #[.int .i64 (i : Int), .int .i64 ((K : Int) + 1)] 3))
        have HToA : Hid (To _ _ _ _) := hTo'
        clear hc0 hc1 HMo' hB1 hTo'
        go_wp2_with (at_builtin; refine wpList_append_marks rfl _ _ rfl w.heap.size _ ms i (K + 1) W.heap.size 2 rfl rfl HMoA.out HC0.out HC1.out hn2 HB1.out.size ?_; intro v2 w2 hMo2 hgrow2)
        rw [show ((K : Int) + 2) = ((K + 2 : Nat) : Int) by omega]
        exact HX.out _ _ ⟨hjl, ⟨v2, RF.mk2 _ rfl rfl hMo2⟩, ⟨own_other HToA.out.1 HMoA.out (by decide) hgrow2, HTo.out.2⟩, HB1.out.grown hgrow2 HB1.out.size (fun j hj => (HMoA.out.lt j hj).1)⟩
      · rw [if_pos ⟨hjl, h10⟩] at HJ'
        rw [decide_eq_false h10] at htw3
        change ((S.extract j (j + 2)).toList == [42, 47]) = false at htw3
        have HJ2 : Hid _ := HJ'
        clear HJ HJ' hm
        go_wp2
        go_roundw
        case rel => first | exact ⟨j + 1, by go_num, by omega, by omega, HJ2, by first | rfl | trivial⟩ | ((repeat apply Exists.intro); exact ⟨⟨j + 1, by go_num, by omega, by omega, HJ2, by first | rfl | trivial⟩, rfl⟩)
        case measure => simp [intOf]; omega
    · have hjl' : ¬ (j : Int) + 1 < (s.length : Int) := by omega
      have hge : (s.length : Int) ≤ (j : Int) + 1 := by omega
      have e : lcl s (s.length - j) j = j := by
        cases hm : s.length - j with
        | zero => rfl
        | succ m => rw [lcl, if_neg (fun h => hjl h.1)]
      have HJ' := HJ.out
      rw [e] at HJ'
      subst HJ'
      clear HJ e
      go_wp2
      refine HR.out _ _ ⟨hjl, _, rfl, rfl, rfl, rfl, To.nil _ _, HB.out⟩

end Go.Proofs.YtjkcmcefmciinaaDoor
