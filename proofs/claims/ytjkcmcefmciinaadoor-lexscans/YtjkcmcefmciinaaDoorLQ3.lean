/- The reference's own Scan: a line's comment. -/
import Derived.Test.YtjkcmcefmciinaaDoorLQ0
namespace Go.Proofs.YtjkcmcefmciinaaDoor
open Go.RowKit
set_option linter.unusedVariables false
set_option linter.unusedSimpArgs false

set_option maxRecDepth 100000 in
set_option maxHeartbeats 4000000 in
theorem g3_no (S : ByteArray) (s : List Int) (o m t9 k10 : Value) (i : Nat) (us : Nat → Value) (W : World) (HS : Hid (Src S s)) (hlen : (s.length : Int) ≤ 100000) (hi : i < s.length) (k1 : ¬ (i + 1 < s.length ∧ s.getD i 0 = 47 ∧ s.getD (i + 1) 0 = 47)) :
    Goes rP3 (RF S o m (.int .i64 (i : Int)) t9 k10 us) W (fun a w => w = W ∧ ∃ us, a = RF S o m (.int .i64 (i : Int)) t9 k10 us) Nev Nev := by
  intro Q hN hX hR
  have hsz := HS.out.sz
  have HN : Hid _ := hN
  clear hX hR hN
  by_cases hi1n : i + 1 < s.length
  · have hi1 : (i : Int) + 1 < (s.length : Int) := by omega
    have hs1 := run_cut S i (i + 2) (i : Int) ((i : Int) + 2) rfl (by omega) (by omega) (by omega)
    have htw := HS.out.two i hi1n 47 47 (by omega) (by omega)
    rw [decide_eq_false (fun h => k1 ⟨hi1n, h⟩)] at htw
    change ((S.extract i (i + 2)).toList == [47, 47]) = false at htw
    clear k1
    unfold RF
    conv => arg 2; whnf
    go_wp2
    exact HN.out _ _ ⟨rfl, RF.mk _ rfl rfl⟩
  · have hi1 : ¬ (i : Int) + 1 < (s.length : Int) := by omega
    clear k1
    unfold RF
    conv => arg 2; whnf
    go_wp2
    exact HN.out _ _ ⟨rfl, RF.mk _ rfl rfl⟩

set_option maxRecDepth 100000 in
set_option maxHeartbeats 4000000 in
theorem g3_yes (S : ByteArray) (s : List Int) (o m t9 k10 : Value) (i : Nat) (us : Nat → Value) (W : World) (HS : Hid (Src S s)) (hlen : (s.length : Int) ≤ 100000) (k1 : i + 1 < s.length ∧ s.getD i 0 = 47 ∧ s.getD (i + 1) 0 = 47) :
    Goes rP3 (RF S o m (.int .i64 (i : Int)) t9 k10 us) W Nev (fun a w => w = W ∧ ∃ us, a = RF S o m (.int .i64 ((lrun leol s s.length (s.length - i) i : Nat) : Int)) t9 k10 us) Nev := by
  intro Q hN hX hR
  have hsz := HS.out.sz
  obtain ⟨K, hK⟩ : ∃ K, K = lrun leol s s.length (s.length - i) i := ⟨_, rfl⟩
  rw [← hK] at hX
  have HK : Hid (K = lrun leol s s.length (s.length - i) i) := hK
  have HX : Hid _ := hX
  have hi1 : (i : Int) + 1 < (s.length : Int) := by omega
  have hs1 := run_cut S i (i + 2) (i : Int) ((i : Int) + 2) rfl (by omega) (by omega) (by omega)
  have htw := HS.out.two i k1.1 47 47 (by omega) (by omega)
  rw [decide_eq_true k1.2] at htw
  change ((S.extract i (i + 2)).toList == [47, 47]) = true at htw
  clear hX hR hK hN k1
  unfold RF
  conv => arg 2; whnf
  go_wp2
  go_loopw [7] (fun v wr => ∃ j : Nat, v = .int .i64 (j : Int) ∧ i ≤ j ∧ j ≤ s.length ∧ Hid (K = lrun leol s s.length (s.length - j) j) ∧ W = wr) (fun v _ => s.length - (intOf v).toNat)
  case atStart => exact ⟨i, rfl, by omega, by omega, HK, rfl⟩
  case round =>
    obtain ⟨j, rfl, hij, hjs, HJ, rfl⟩ := hrel
    by_cases hjl : j < s.length
    · have hatj := HS.out.at j hjl
      have HJ' := HJ.out
      obtain ⟨m', hm⟩ : ∃ m, s.length - j = m + 1 := ⟨s.length - j - 1, by omega⟩
      rw [hm, lrun, show m' = s.length - (j + 1) by omega] at HJ'
      by_cases h10 : s.getD j 0 = 10
      · rw [if_neg (fun h => by rw [h10] at h; exact absurd h.2 (by decide))] at HJ'
        rw [h10] at hatj
        subst HJ'
        clear HJ hm
        go_wp2
        exact HX.out _ _ ⟨rfl, RF.mk _ rfl rfl⟩
      · have hp : leol (s.getD j 0) = true := decide_eq_true h10
        rw [if_pos ⟨hjl, hp⟩] at HJ'
        have HJ2 : Hid _ := HJ'
        generalize s.getD j 0 = c2 at hatj h10
        have e10 : (c2 != 10) = true := by simpa using h10
        clear HJ HJ' hm hp
        go_wp2
        go_roundw
        case rel => first | exact ⟨j + 1, by go_num, by omega, by omega, HJ2, by first | rfl | trivial⟩ | ((repeat apply Exists.intro); exact ⟨⟨j + 1, by go_num, by omega, by omega, HJ2, by first | rfl | trivial⟩, rfl⟩)
        case measure => simp [intOf]; omega
    · obtain rfl : j = s.length := by omega
      have e := HJ.out
      rw [Nat.sub_self, lrun] at e
      subst e
      clear HJ
      go_wp2
      exact HX.out _ _ ⟨rfl, RF.mk _ rfl rfl⟩

end Go.Proofs.YtjkcmcefmciinaaDoor
