/- The contract of the document's own quoted text (the reference's Text), over the turned text. -/
import Derived.Test.YtilcaihfoelapaaDoorQDig
namespace Go.Proofs.YtilcaihfoelapaaDoor
open Go.RowKit
set_option linter.unusedVariables false
set_option linter.unusedSimpArgs false

theorem flat_take (zs : List Int) (k : Nat) (h : k < zs.length) : (zs.take (k + 1)).flatMap qch = (zs.take k).flatMap qch ++ qch (zs.getD k 0) := by
  rw [List.take_succ_eq_append_getElem h, List.flatMap_append]
  simp [List.getD, List.getElem?_eq_getElem h]

set_option maxHeartbeats 2000000 in
theorem rtext_bs {w : World} {a : Option Addr} {len cap : Nat} {zs : List Int} (h : Hid (Bs w a len cap zs)) (hl6 : len ≤ 100000000) :
    Calls Tryd.prog 11 #[.slice a len cap] w fun e w' => e = .returned (.string (strOfNums (qtext zs))) ∧ w = w' := by
  have hlen := h.out.1
  have HL : Hid (zs.length = len) := hlen
  clear hlen
  go_enter Tryd.func11, Tryd.ntmps11
  go_wp2
  go_loopw [3, 8] (fun v i wr => ∃ (k : Nat) (O : List Int), v = .string (strOfNums O) ∧ i = .int .i64 (k : Int) ∧ k ≤ len ∧ O.length ≤ 4 * k ∧ Hid (O = (zs.take k).flatMap qch) ∧ wr = w) (fun _ i _ => len - (intOf i).toNat)
  case atStart => exact ⟨0, [], rfl, rfl, by omega, by simp, (by show _ = _; simp), rfl⟩
  case round =>
    obtain ⟨k, O, rfl, rfl, hkl, hO, HO, rfl⟩ := hrel
    have hso := strOfNums_size O
    by_cases hk : k < len
    · obtain ⟨b, off, rfl, _, hcell⟩ := h.out.2.2.2.2.2 (by omega)
      have hc := hcell k hk
      obtain ⟨c0, c255⟩ := h.out.2.2.1 k
      have HN : Hid ((zs.take (k + 1)).flatMap qch = O ++ qch (zs.getD k 0)) := by show _ = _; rw [HO.out]; exact flat_take zs k (by rw [HL.out]; exact hk)
      generalize zs.getD k 0 = c at hc c0 c255 HN
      clear hcell HO
      have key : ∀ x, qch c = x → O.length + x.length ≤ 4 * (k + 1) → Hid (O ++ x = (zs.take (k + 1)).flatMap qch) := by
        intro x hx _
        show _ = _
        rw [HN.out, hx]
      have hq := qch_len c
      have a1 := fun W (x y : List Int) (hx : x.length ≤ 1000000000 ∧ y.length ≤ 1000000000) => run_add W x y (by omega)
      by_cases k34 : c = 34
      · subst k34
        have henc := enc_1 34 (by omega) (by omega)
        have r1 : ∀ W, (Op.stringOp .add { data := #[92] } (strOfNums [34])).run Tryd.prog W = .ok (.string (strOfNums ([92, 34]))) W := fun W => run_add W [92] [34] (by simp only [List.length_cons, List.length_nil]; omega)
        have r2 : ∀ W, (Op.stringOp .add (strOfNums O) (strOfNums [92, 34])).run Tryd.prog W = .ok (.string (strOfNums (O ++ [92, 34]))) W := fun W => run_add W O [92, 34] (by simp only [List.length_cons, List.length_nil]; omega)
        have E := key [92, 34] (by rw [qch]; simp) (by simp only [List.length_cons, List.length_nil]; omega)
        clear key HN hq a1
        go_wp2
        go_roundw
        case rel => exact ⟨k + 1, O ++ [92, 34], rfl, by go_num, by omega, by simp only [List.length_append, List.length_cons, List.length_nil]; omega, E, by first | rfl | trivial⟩
        case measure => simp [intOf]; omega
      have e34 : (c == 34) = false := by simpa using k34
      by_cases k92 : c = 92
      · subst k92
        have henc := enc_1 92 (by omega) (by omega)
        have r1 : ∀ W, (Op.stringOp .add { data := #[92] } (strOfNums [92])).run Tryd.prog W = .ok (.string (strOfNums ([92, 92]))) W := fun W => run_add W [92] [92] (by simp only [List.length_cons, List.length_nil]; omega)
        have r2 : ∀ W, (Op.stringOp .add (strOfNums O) (strOfNums [92, 92])).run Tryd.prog W = .ok (.string (strOfNums (O ++ [92, 92]))) W := fun W => run_add W O [92, 92] (by simp only [List.length_cons, List.length_nil]; omega)
        have E := key [92, 92] (by rw [qch]; simp) (by simp only [List.length_cons, List.length_nil]; omega)
        clear key HN hq a1
        go_wp2
        go_roundw
        case rel => exact ⟨k + 1, O ++ [92, 92], rfl, by go_num, by omega, by simp only [List.length_append, List.length_cons, List.length_nil]; omega, E, by first | rfl | trivial⟩
        case measure => simp [intOf]; omega
      have e92 : (c == 92) = false := by simpa using k92
      by_cases k9 : c = 9
      · subst k9
        have r2 : ∀ W, (Op.stringOp .add (strOfNums O) { data := #[92, 116] }).run Tryd.prog W = .ok (.string (strOfNums (O ++ [92, 116]))) W := fun W => run_add W O [92, 116] (by simp only [List.length_cons, List.length_nil]; omega)
        have E := key [92, 116] (by rw [qch]; simp) (by simp only [List.length_cons, List.length_nil]; omega)
        clear key HN hq a1
        go_wp2
        go_roundw
        case rel => exact ⟨k + 1, O ++ [92, 116], rfl, by go_num, by omega, by simp only [List.length_append, List.length_cons, List.length_nil]; omega, E, by first | rfl | trivial⟩
        case measure => simp [intOf]; omega
      have e9 : (c == 9) = false := by simpa using k9
      by_cases k10 : c = 10
      · subst k10
        have r2 : ∀ W, (Op.stringOp .add (strOfNums O) { data := #[92, 110] }).run Tryd.prog W = .ok (.string (strOfNums (O ++ [92, 110]))) W := fun W => run_add W O [92, 110] (by simp only [List.length_cons, List.length_nil]; omega)
        have E := key [92, 110] (by rw [qch]; simp) (by simp only [List.length_cons, List.length_nil]; omega)
        clear key HN hq a1
        go_wp2
        go_roundw
        case rel => exact ⟨k + 1, O ++ [92, 110], rfl, by go_num, by omega, by simp only [List.length_append, List.length_cons, List.length_nil]; omega, E, by first | rfl | trivial⟩
        case measure => simp [intOf]; omega
      have e10 : (c == 10) = false := by simpa using k10
      by_cases k13 : c = 13
      · subst k13
        have r2 : ∀ W, (Op.stringOp .add (strOfNums O) { data := #[92, 114] }).run Tryd.prog W = .ok (.string (strOfNums (O ++ [92, 114]))) W := fun W => run_add W O [92, 114] (by simp only [List.length_cons, List.length_nil]; omega)
        have E := key [92, 114] (by rw [qch]; simp) (by simp only [List.length_cons, List.length_nil]; omega)
        clear key HN hq a1
        go_wp2
        go_roundw
        case rel => exact ⟨k + 1, O ++ [92, 114], rfl, by go_num, by omega, by simp only [List.length_append, List.length_cons, List.length_nil]; omega, E, by first | rfl | trivial⟩
        case measure => simp [intOf]; omega
      have e13 : (c == 13) = false := by simpa using k13
      have kk : ¬ (c = 34 ∨ c = 92) := by omega
      by_cases kp : 32 ≤ c ∧ c ≤ 126
      · obtain ⟨p1, p2⟩ := kp
        have henc := enc_1 c (by omega) (by omega)
        have r2 : ∀ W, (Op.stringOp .add (strOfNums O) (strOfNums [c])).run Tryd.prog W = .ok (.string (strOfNums (O ++ [c]))) W := fun W => run_add W O [c] (by simp only [List.length_cons, List.length_nil]; omega)
        have E := key [c] (by rw [qch]; rw [if_neg kk, if_neg k9, if_neg k10, if_neg k13, if_pos ⟨p1, p2⟩]) (by simp only [List.length_cons, List.length_nil]; omega)
        clear key HN hq a1
        go_wp2
        go_roundw
        case rel => exact ⟨k + 1, O ++ [c], rfl, by go_num, by omega, by simp only [List.length_append, List.length_cons, List.length_nil]; omega, E, by first | rfl | trivial⟩
        case measure => simp [intOf]; omega
      have g1 := enc_1 (48 + c / 64) (by omega) (by omega)
      have g2 := enc_1 (48 + c / 8 % 8) (by omega) (by omega)
      have g3 := enc_1 (48 + c % 8) (by omega) (by omega)
      have r1 : ∀ W, (Op.stringOp .add { data := #[92] } (strOfNums [48 + c / 64])).run Tryd.prog W = .ok (.string (strOfNums ([92, 48 + c / 64]))) W := fun W => run_add W [92] [48 + c / 64] (by simp only [List.length_cons, List.length_nil]; omega)
      have r2 : ∀ W, (Op.stringOp .add (strOfNums [92, 48 + c / 64]) (strOfNums [48 + c / 8 % 8])).run Tryd.prog W = .ok (.string (strOfNums ([92, 48 + c / 64, 48 + c / 8 % 8]))) W := fun W => run_add W [92, 48 + c / 64] [48 + c / 8 % 8] (by simp only [List.length_cons, List.length_nil]; omega)
      have r3 : ∀ W, (Op.stringOp .add (strOfNums [92, 48 + c / 64, 48 + c / 8 % 8]) (strOfNums [48 + c % 8])).run Tryd.prog W = .ok (.string (strOfNums ([92, 48 + c / 64, 48 + c / 8 % 8, 48 + c % 8]))) W := fun W => run_add W [92, 48 + c / 64, 48 + c / 8 % 8] [48 + c % 8] (by simp only [List.length_cons, List.length_nil]; omega)
      have r4 : ∀ W, (Op.stringOp .add (strOfNums O) (strOfNums [92, 48 + c / 64, 48 + c / 8 % 8, 48 + c % 8])).run Tryd.prog W = .ok (.string (strOfNums (O ++ [92, 48 + c / 64, 48 + c / 8 % 8, 48 + c % 8]))) W := fun W => run_add W O [92, 48 + c / 64, 48 + c / 8 % 8, 48 + c % 8] (by simp only [List.length_cons, List.length_nil]; omega)
      have E := key [92, 48 + c / 64, 48 + c / 8 % 8, 48 + c % 8] (by rw [qch]; rw [if_neg kk, if_neg k9, if_neg k10, if_neg k13, if_neg kp]) (by simp only [List.length_cons, List.length_nil]; omega)
      clear key HN hq a1
      by_cases kl : 32 ≤ c
      · have kl2 : ¬ c ≤ 126 := fun h => kp ⟨kl, h⟩
        clear kp
        go_wp2
        go_roundw
        case rel => exact ⟨k + 1, O ++ [92, 48 + c / 64, 48 + c / 8 % 8, 48 + c % 8], rfl, by go_num, by omega, by simp only [List.length_append, List.length_cons, List.length_nil]; omega, E, by first | rfl | trivial⟩
        case measure => simp [intOf]; omega
      · clear kp
        go_wp2
        go_roundw
        case rel => exact ⟨k + 1, O ++ [92, 48 + c / 64, 48 + c / 8 % 8, 48 + c % 8], rfl, by go_num, by omega, by simp only [List.length_append, List.length_cons, List.length_nil]; omega, E, by first | rfl | trivial⟩
        case measure => simp [intOf]; omega
    · obtain rfl : k = len := by omega
      have E : Hid (qtext zs = 34 :: (O ++ [34])) := by show _ = _; rw [qtext, HO.out, List.take_of_length_le (by rw [HL.out]; omega)]
      clear HO
      have r1 : ∀ W, (Op.stringOp .add { data := #[34] } (strOfNums O)).run Tryd.prog W = .ok (.string (strOfNums (34 :: O))) W := fun W => run_add W [34] O (by simp only [List.length_cons, List.length_nil]; omega)
      have r2 : ∀ W, (Op.stringOp .add (strOfNums (34 :: O)) { data := #[34] }).run Tryd.prog W = .ok (.string (strOfNums ((34 :: O) ++ [34]))) W := fun W => run_add W (34 :: O) [34] (by simp only [List.length_cons, List.length_nil]; omega)
      go_wp2
      go_ret
      exact ⟨by rw [E.out]; rfl, rfl⟩

end Go.Proofs.YtilcaihfoelapaaDoor
