/- The contracts of Take at no bytes, and of the document's own answer (the reference's TakeVarint), over the turned text: both as the plain function 'tk' tells it; no memory turns. -/
import Derived.Test.YtnlamgljlcoibaaTake
namespace Go.Proofs.Ytnlamgljlcoibaa
open Go.RowKit

set_option maxHeartbeats 400000 in
theorem take_none (a : Option Addr) (cap : Nat) (w : World) :
    Calls Try.prog 13 #[.slice a 0 cap] w fun e w' => e = tkEnd (tk 10 [] 0 0) ∧ w = w' := by
  go_enter Try.func13, Try.ntmps13
  go_wp2
  go_step3
  go_wp2
  go_step3
  go_wp2
  rw [Exit.noGoto_ret]
  go_ret3
  exact ⟨rfl, rfl⟩

set_option maxHeartbeats 400000 in
theorem rtake_none (a : Option Addr) (cap : Nat) (w : World) :
    Calls Try.prog 14 #[.slice a 0 cap] w fun e w' => e = tkEnd (tk 10 [] 0 0) ∧ w = w' := by
  go_enter Try.func14, Try.ntmps14
  go_wp2
  refine wp_loop_rounds 1 ?_
  rw [rounds_succ]
  go_wp2
  go_ret3
  exact ⟨rfl, rfl⟩

set_option maxHeartbeats 1000000 in
theorem rtake_any (b off len cap : Nat) (zs : List Int) (w : World) (hl : Hid (zs.length = len)) (hlen : (len : Int) ≤ 9223372036854775807)
    (HC : Hid (∀ i, i < len → w.cell? ⟨b, off + i, none⟩ = some (.int .u8 (zs.getD i 0)))) (HZ : Hid (∀ i, 0 ≤ zs.getD i 0 ∧ zs.getD i 0 ≤ 255)) :
    Calls Try.prog 14 #[.slice (some ⟨b, off, none⟩) len cap] w fun e w' => e = tkEnd (tk 10 zs 0 0) ∧ w = w' := by
  go_enter Try.func14, Try.ntmps14
  go_wp2
  go_loop [5, 6] (fun n j => ∃ (i : Nat) (x : Int), n = .int .u64 x ∧ j = .int .i64 (i : Int) ∧ i ≤ 10 ∧ i ≤ len ∧ 0 ≤ x ∧ x ≤ 18446744073709551615 ∧ Hid (x < 128 ^ i) ∧ Hid (tk (10 - i) (zs.drop i) i x = tk 10 zs 0 0)) (fun _ j => 10 - (intOf j).toNat)
  case atStart => exact ⟨0, 0, rfl, rfl, by omega, by omega, by omega, by omega, (by show (0 : Int) < 128 ^ 0; decide), rfl⟩
  case round =>
    obtain ⟨i, x, rfl, rfl, hi, hil, x0, x1, Hx, HT⟩ := hrel
    by_cases hA : i < len
    · by_cases hT : i < 10
      · obtain ⟨c, hcell, HD, c0, c255⟩ : ∃ c, w.cell? ⟨b, off + i, none⟩ = some (.int .u8 c) ∧ Hid (zs.drop i = c :: zs.drop (i + 1)) ∧ 0 ≤ c ∧ c ≤ 255 := by
          have hz := HZ.out i
          have hlz : i < zs.length := by rw [hl.out]; exact hA
          refine ⟨zs.getD i 0, HC.out i hA, ?_, hz.1, hz.2⟩
          show zs.drop i = _
          rw [List.drop_eq_getElem_cons hlz]
          simp [List.getD, List.getElem?_eq_getElem hlz]
        have ha := bits_and127 c c0 (by omega)
        by_cases h9 : i = 9
        · have e9 : ((i : Int) == 9) = true := by simp; omega
          by_cases h1 : 1 < c
          · have E2 : Hid (tk 10 zs 0 0 = (0, 0, 10)) := by show _ = _; rw [← HT.out, HD.out, h9, tk_bad _ _ _ _ h1]
            clear h9
            go_wp2
            go_ret3
            exact ⟨by rw [E2.out]; rfl, rfl⟩
          · obtain ⟨hor, z0, _, zm⟩ := tk_or i x c (by omega) x0 Hx.out c0 c255 (by omega)
            have e2 := HT.out
            rw [HD.out, show 10 - i = 0 + 1 by omega, tk_last 0 c _ i x (by omega) (by omega)] at e2
            generalize x + c % 128 * 128 ^ i = z at hor z0 zm e2
            have E2 : Hid _ := e2
            clear e2 h9
            go_wp2
            go_ret3
            exact ⟨by rw [← E2.out]; rfl, rfl⟩
        · have e9 : ((i : Int) == 9) = false := by simp; omega
          obtain ⟨hor, z0, zl, zm⟩ := tk_or i x c (by omega) x0 Hx.out c0 c255 (by omega)
          obtain ⟨f, hf⟩ : ∃ f, 10 - i = f + 1 := ⟨9 - i, by omega⟩
          have e2 := HT.out
          by_cases h128 : c < 128
          · rw [HD.out, hf, tk_last f c _ i x (by omega) h128] at e2
            generalize x + c % 128 * 128 ^ i = z at hor z0 zm zl e2
            have E2 : Hid _ := e2
            clear e2 hf zl
            go_wp2
            go_ret3
            exact ⟨by rw [← E2.out]; rfl, rfl⟩
          · rw [HD.out, hf, tk_next f c _ i x (by omega) h128] at e2
            generalize x + c % 128 * 128 ^ i = z at hor z0 zm zl e2
            have E2 : Hid _ := e2
            have Zl : Hid _ := zl
            have Hf : Hid _ := hf
            clear e2 hf zl
            go_wp2
            go_round
            case rel =>
              refine ⟨i + 1, z, rfl, by go_num, by omega, by omega, z0, zm, Zl, ?_⟩
              show tk (10 - (i + 1)) _ _ _ = _
              rw [show 10 - (i + 1) = f by have := Hf.out; omega]
              exact E2.out
            case measure => simp [intOf]; omega
      · have E2 : Hid (tk 10 zs 0 0 = (0, 0, 10)) := by show _ = _; rw [← HT.out, show 10 - i = 0 by omega]; rfl
        go_wp2
        go_ret3
        exact ⟨by rw [E2.out]; rfl, rfl⟩
    · have E2 : Hid (tk 10 zs 0 0 = (0, 0, 10)) := by show _ = _; rw [← HT.out, List.drop_eq_nil_of_le (by rw [hl.out]; omega), tk_end]
      go_wp2
      go_ret3
      exact ⟨by rw [E2.out]; rfl, rfl⟩

end Go.Proofs.Ytnlamgljlcoibaa
