/- The contract of Take, over the turned text: the number that any bytes begin with, as the plain function 'tk' tells it; no memory turns. -/
import Derived.Test.YtnlamgljlcoibaaWalks
import Derived.Test.YtnlamgljlcoibaaTkMath
import Derived.WalkMore
import Derived.ScopeJumps
namespace Go.Proofs.Ytnlamgljlcoibaa
open Go.RowKit

def tkEnd (r : Int × Int × Int) : Ending := .returned (.tuple #[.int .u64 r.1, .int .i64 r.2.1, .int .i64 r.2.2])

/-- A scope that goes back to one label: what holds at the label; a measure that each pass lowers; the way to the label. -/
theorem wp_scope_loop {P : Program} {a : Act} {w : World} {Q : Exit → Act → World → Prop} {c r : Code} (l : Nat) (J : Act → World → Prop) (μ : Act → World → Nat) (hf : findLabel c l = some (Code.skip.seq r))
    (first : Hid (∀ a w, J a w → r.wp P (Exit.jump l J Q) a w) → c.wp P (Exit.jump l J Q) a w)
    (pass : ∀ a w, J a w → r.wp P (Exit.jump l (fun a' w' => J a' w' ∧ μ a' w' < μ a w) Q) a w) : (Code.scope c).wp P Q a w :=
  wp_scope_jumps l J μ hf (first (fun a w h => wp_mono (pass a w h) (by
    intro e a w h
    cases e with
    | goto l' => exact ⟨h.1, h.2.1⟩
    | _ => exact h))) (fun a w h => wp_seq (wp_skip (pass a w h)))

set_option maxHeartbeats 1000000 in
theorem take_any (b off len cap : Nat) (zs : List Int) (w : World) (hl : Hid (zs.length = len)) (hlen : (len : Int) ≤ 9223372036854775807)
    (HC : Hid (∀ i, i < len → w.cell? ⟨b, off + i, none⟩ = some (.int .u8 (zs.getD i 0)))) (HZ : Hid (∀ i, 0 ≤ zs.getD i 0 ∧ zs.getD i 0 ≤ 255)) :
    Calls Try.prog 13 #[.slice (some ⟨b, off, none⟩) len cap] w fun e w' => e = tkEnd (tk 10 zs 0 0) ∧ w = w' := by
  go_enter Try.func13, Try.ntmps13
  go_wp2
  refine wp_scope_loop 0 (fun a' w' => w' = w ∧ ∃ (i : Nat) (x : Int) (u7 u8 u9 u10 u11 u12 u13 u14 u15 u16 u17 u18 u19 u20 u21 u22 u23 u24 u25 u26 u27 u28 u29 u30 u31 u32 u33 u34 u35 u36 u37 u38 u39 u40 u41 : Value), a' = { tmps := #[.slice (some ⟨b, off, none⟩) len cap, undef, .int .u64 0, .int .i64 0, .int .i64 0, .int .u64 x, .int .i64 (i : Int), u7, u8, u9, u10, u11, u12, u13, u14, u15, u16, u17, u18, u19, u20, u21, u22, u23, u24, u25, u26, u27, u28, u29, u30, u31, u32, u33, u34, u35, u36, u37, u38, u39, u40, u41, undef, undef], defers := [] } ∧ i ≤ 9 ∧ i ≤ len ∧ 0 ≤ x ∧ x ≤ 18446744073709551615 ∧ Hid (x < 128 ^ i) ∧ Hid (tk (10 - i) (zs.drop i) i x = tk 10 zs 0 0)) (fun a' _ => 10 - (intOf (a'.tmps.getD 6 undef)).toNat) rfl ?_ ?_
  · intro HJ
    go_wp2
    go_step3
    rename_i hK
    refine hK _ _ ?_
    refine HJ.out _ _ ?_
    exact ⟨rfl, 0, 0, undef, undef, undef, undef, undef, undef, undef, undef, undef, undef, undef, undef, undef, undef, undef, undef, undef, undef, undef, undef, undef, undef, undef, undef, undef, undef, undef, undef, undef, undef, undef, undef, undef, undef, undef, rfl, by omega, by omega, by omega, by omega, (by show (0 : Int) < 128 ^ 0; decide), rfl⟩
  · rintro a' w' ⟨rfl, i, x, u7, u8, u9, u10, u11, u12, u13, u14, u15, u16, u17, u18, u19, u20, u21, u22, u23, u24, u25, u26, u27, u28, u29, u30, u31, u32, u33, u34, u35, u36, u37, u38, u39, u40, u41, rfl, hi, hil, x0, x1, Hx, HT⟩
    by_cases hA : i = len
    · have e1 : ((i : Int) == (len : Int)) = true := by simp [hA]
      have E2 : Hid (tk 10 zs 0 0 = (0, 0, 10)) := by show _ = _; rw [← HT.out, List.drop_eq_nil_of_le (by rw [hl.out]; omega), tk_end]
      go_wp2
      simp only [Exit.jump]
      go_ret3
      exact ⟨by rw [E2.out]; rfl, rfl⟩
    · have hlt : i < len := by omega
      have e1 : ((i : Int) == (len : Int)) = false := by simp; omega
      obtain ⟨c, hcell, HD, c0, c255⟩ : ∃ c, w'.cell? ⟨b, off + i, none⟩ = some (.int .u8 c) ∧ Hid (zs.drop i = c :: zs.drop (i + 1)) ∧ 0 ≤ c ∧ c ≤ 255 := by
        have hz := HZ.out i
        have hlz : i < zs.length := by rw [hl.out]; exact hlt
        refine ⟨zs.getD i 0, HC.out i hlt, ?_, hz.1, hz.2⟩
        show zs.drop i = _
        rw [List.drop_eq_getElem_cons hlz]
        simp [List.getD, List.getElem?_eq_getElem hlz]
      have ha := bits_and127 c c0 (by omega)
      by_cases h9 : i = 9
      · have e9 : ((i : Int) == 9) = true := by simp; omega
        have H9 : Hid (i = 9) := h9
        by_cases h1 : 1 < c
        · have E2 : Hid (tk 10 zs 0 0 = (0, 0, 10)) := by show _ = _; rw [← HT.out, HD.out, h9, tk_bad _ _ _ _ h1]
          clear h9
          go_wp2
          simp only [Exit.jump]
          go_ret3
          exact ⟨by rw [E2.out]; rfl, rfl⟩
        · obtain ⟨hor, z0, _, zm⟩ := tk_or i x c (by omega) x0 Hx.out c0 c255 (by omega)
          have e2 := HT.out
          rw [HD.out, show 10 - i = 0 + 1 by omega, tk_last 0 c _ i x (by omega) (by omega)] at e2
          generalize x + c % 128 * 128 ^ i = z at hor z0 zm e2
          have E2 : Hid _ := e2
          clear e2 h9
          have hb := bits_and128 c c0 (by omega)
          rw [show c / 128 * 128 = 0 by omega] at hb
          go_wp2
          simp only [Exit.jump]
          go_ret3
          exact ⟨by rw [← E2.out]; rfl, rfl⟩
      · have e9 : ((i : Int) == 9) = false := by simp; omega
        obtain ⟨hor, z0, zl, zm⟩ := tk_or i x c (by omega) x0 Hx.out c0 c255 (by omega)
        obtain ⟨f, hf⟩ : ∃ f, 10 - i = f + 1 := ⟨9 - i, by omega⟩
        have hb := bits_and128 c c0 (by omega)
        have e2 := HT.out
        by_cases h128 : c < 128
        · rw [HD.out, hf, tk_last f c _ i x (by omega) h128] at e2
          generalize x + c % 128 * 128 ^ i = z at hor z0 zm zl e2
          have E2 : Hid _ := e2
          clear e2 hf zl
          rw [show c / 128 * 128 = 0 by omega] at hb
          go_wp2
          simp only [Exit.jump]
          go_ret3
          exact ⟨by rw [← E2.out]; rfl, rfl⟩
        · rw [HD.out, hf, tk_next f c _ i x (by omega) h128] at e2
          generalize x + c % 128 * 128 ^ i = z at hor z0 zm zl e2
          have E2 : Hid _ := e2
          have Zl : Hid _ := zl
          have Hf : Hid _ := hf
          clear e2 hf zl
          rw [show c / 128 * 128 = 128 by omega] at hb
          go_wp2
          go_step3
          rw [show ((i : Int) + 1) = ((i + 1 : Nat) : Int) from rfl]
          refine ⟨rfl, ⟨rfl, i + 1, z, _, _, _, _, _, _, _, _, _, _, _, _, _, _, _, _, _, _, _, _, _, _, _, _, _, _, _, _, _, _, _, _, _, _, _, rfl, by omega, by omega, z0, zm, Zl, ?_⟩, ?_⟩
          · show tk (10 - (i + 1)) _ _ _ = _
            rw [show 10 - (i + 1) = f by have := Hf.out; omega]
            exact E2.out
          · simp [intOf]
            omega
end Go.Proofs.Ytnlamgljlcoibaa
