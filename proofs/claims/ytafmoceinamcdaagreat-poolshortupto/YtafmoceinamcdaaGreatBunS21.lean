/- Put together by a program out of these texts of mine: VSoA. -/
import Derived.Test.YtafmoceinamcdaaGreatBunS18

namespace Go.Proofs.YtafmoceinamcdaaGreat
open Go.RowKit
set_option linter.unusedVariables false
set_option linter.unusedSimpArgs false

set_option maxRecDepth 100000 in
set_option maxHeartbeats 16000000 in
theorem so_partial {W0 : World} {B bp : Nat} {cf : ByteArray → ByteArray → Int} {G : ByteArray → Prop} (hcmp : Hid (CmpC W0 B bp cf G)) (n cap a b : Nat) (hab : a + 12 < b) (hbn : b ≤ n) (hn : n ≤ 1000000000) (W : World) (hf : Hid (Fb B W0 W)) (hr : Hid (Rg W B n G)) :
    Calls Tryz.prog 180 #[.slice (some ⟨B, 0, none⟩) n cap, .int .i64 (a : Int), .int .i64 (b : Int), cmpV bp] W fun e W' => (e = .returned (.bool true) ∨ e = .returned (.bool false)) ∧ Fb B W W' ∧ Rg W' B n G := by
  have HF : Hid (Fb B W0 W) := hf
  have HR : Hid (Rg W B n G) := hr
  have F0 : Hid (Fb B W W) := Fx.refl _ _
  unfold cmpV
  clear hf hr
  go_enter Tryz.func180, Tryz.ntmps180
  go_wp2
  go_loopw [9, 10] (fun v u wr => ∃ i j : Nat, v = .int .i64 (i : Int) ∧ u = .int .i64 (j : Int) ∧ a < i ∧ i ≤ b ∧ j ≤ 5 ∧ Hid (Fb B W wr) ∧ Hid (Rg wr B n G)) (fun _ u _ => 5 - (intOf u).toNat)
  case atStart => exact ⟨a + 1, 0, by go_num, rfl, by omega, by omega, by omega, F0.out, HR.out⟩
  case round =>
    clear F0
    obtain ⟨i, j, rfl, rfl, hai, hib, hj5, FI, RI⟩ := hrel
    by_cases hj : j < 5
    · have hjz : (j : Int) < 5 := by omega
      go_wp2
      obtain ⟨wp, hwp⟩ : ∃ wp, wp = wr := ⟨_, rfl⟩
      go_loopw [9] (fun v wr => ∃ i2 : Nat, v = .int .i64 (i2 : Int) ∧ a < i2 ∧ i2 ≤ b ∧ Hid (Fb B W wr) ∧ Hid (Rg wr B n G)) (fun v _ => b - (intOf v).toNat)
      case atStart => exact ⟨i, rfl, hai, hib, FI.out, RI.out⟩
      case round =>
        clear FI RI hai hib
        obtain ⟨i2, rfl, hai2, hi2b, F1, R1⟩ := hrel
        by_cases hib2 : i2 < b
        · obtain ⟨m, rfl⟩ : ∃ m, i2 = m + 1 := ⟨i2 - 1, by omega⟩
          have hcc : ((m + 1 : Nat) : Int) = (m : Int) + 1 := by omega
          have hijz : (m : Int) + 1 < (b : Int) := by omega
          have hijd : decide ((m : Int) + 1 < (b : Int)) = true := decide_eq_true hijz
          have e1 : ((m : Int) + 1).toNat = m + 1 := by omega
          have e3 : (0 : Int) ≤ (m : Int) + 1 := by omega
          have e4 : (m : Int) + 1 < (n : Int) := by omega
          have e5 : (m : Int) < (n : Int) := by omega
          rw [hcc]
          clear hcc
          obtain ⟨x0, hx0, gx0⟩ := R1.out.cell (j := m + 1) (by omega)
          obtain ⟨y0, hy0, gy0⟩ := R1.out.cell (j := m) (by omega)
          have hlB0 := R1.out.lt
          have b0 := fun V : Ext wr => V.cell (p := ⟨B, m + 1, none⟩) hlB0 hx0
          have b1 := fun V : Ext wr => V.cell (p := ⟨B, m, none⟩) hlB0 hy0
          have HC0 : Hid _ := fun V (hV : Below wr.heap.size wr V) => hcmp.out V x0 y0 ((HF.out.also F1.out).bel hV) gx0 gy0
          clear gx0 gy0 hx0 hy0
          go_upto_region 5 with fail
          refine wp_region_ext wr (Below.refl _ _) (by kernel_rfl) (by kernel_rfl) ?_
          repeat (go_big_quiet_step (first
            | (go_at_call 122; exact Ext.call HC0.out _)))
          refine wpQuiet_nil ?_
          rintro w3 ⟨⟨_, hb2⟩, rfl⟩
          have F_w3 : Hid (Fb B W w3) := F1.out.bel hb2
          have R_w3 : Hid (Rg w3 B n G) := R1.out.below hb2
          clear b0 b1 hb2 HC0 hlB0 F1 R1 hijd
          go_wp2
          case roundEnd => exact ⟨⟨m + 2, by go_num, by omega, by omega, F_w3.out, R_w3.out⟩, by simp [intOf]; try omega⟩
          · go_ret
            exact ⟨.inr rfl, F_w3.out, R_w3.out⟩
          · skip
            obtain ⟨x2, y2, c1, c2, f1, f2, ⟨u, c3⟩, hlB2, rs, fs⟩ := R_w3.out.swap (i := m + 1) (j := m) (by omega) (by omega)
            have RS : Hid _ := rs
            have FS : Hid _ := fs
            clear rs fs
            have hmo : Tryz.prog.follows .mixedOrders = true := by kernel_rfl
            go_big_region_o
            generalize ((w3.setCell ⟨B, m + 1, none⟩ (.string y2)).setCell ⟨B, m, none⟩ (.string x2)).drew = w9 at RS FS ⊢
            have F_w9 : Hid (Fb B W w9) := F_w3.out.also FS.out
            have R_w9 : Hid (Rg w9 B n G) := RS
            clear c1 c2 f1 f2 c3 hlB2 hmo RS FS
            by_cases hb2 : m + 1 + 2 ≤ b
            · have hbz2 : 2 ≤ (b : Int) - ((m : Int) + 1) := by omega
              by_cases ha2 : a + 2 ≤ m + 1
              · have haz2 : 2 ≤ (m : Int) + 1 - (a : Int) := by omega
                go_wp2
                obtain ⟨wr3, hwr3⟩ : ∃ wp, wp = w9 := ⟨_, rfl⟩
                go_loopw [11] (fun v wr => ∃ k : Nat, v = .int .i64 (k : Int) ∧ k ≤ m ∧ Hid (Fb B W wr) ∧ Hid (Rg wr B n G)) (fun v _ => (intOf v).toNat)
                case atStart => exact ⟨m, by first | rfl | go_num, Nat.le_refl _, F_w9.out, R_w9.out⟩
                case round =>
                  clear F_w9 R_w9
                  obtain ⟨k, rfl, hkm, F3, R3⟩ := hrel
                  by_cases hk1 : 1 ≤ k
                  · obtain ⟨q, rfl⟩ : ∃ q, k = q + 1 := ⟨k - 1, by omega⟩
                    have hcc : ((q + 1 : Nat) : Int) = (q : Int) + 1 := by omega
                    have hkz : (1 : Int) ≤ (q : Int) + 1 := by omega
                    have e1' : ((q : Int) + 1).toNat = q + 1 := by omega
                    have e3' : (0 : Int) ≤ (q : Int) + 1 := by omega
                    have e4' : (q : Int) + 1 < (n : Int) := by omega
                    have e5' : (q : Int) < (n : Int) := by omega
                    rw [hcc]
                    clear hcc
                    obtain ⟨x0, hx0, gx0⟩ := R3.out.cell (j := q + 1) (by omega)
                    obtain ⟨y0, hy0, gy0⟩ := R3.out.cell (j := q) (by omega)
                    have hlB0 := R3.out.lt
                    have b0 := fun V : Ext wr => V.cell (p := ⟨B, q + 1, none⟩) hlB0 hx0
                    have b1 := fun V : Ext wr => V.cell (p := ⟨B, q, none⟩) hlB0 hy0
                    have HC0 : Hid _ := fun V (hV : Below wr.heap.size wr V) => hcmp.out V x0 y0 ((HF.out.also F3.out).bel hV) gx0 gy0
                    clear gx0 gy0 hx0 hy0
                    go_upto_region 15 with fail
                    refine wp_region_ext wr (Below.refl _ _) (by kernel_rfl) (by kernel_rfl) ?_
                    repeat (go_big_quiet_step (first
                      | (go_at_call 122; exact Ext.call HC0.out _)))
                    refine wpQuiet_nil ?_
                    rintro w5 ⟨⟨_, hb2⟩, rfl⟩
                    have F_w5 : Hid (Fb B W w5) := F3.out.bel hb2
                    have R_w5 : Hid (Rg w5 B n G) := R3.out.below hb2
                    clear b0 b1 hb2 HC0 hlB0 F3 R3
                    go_wp2
                    · skip
                      obtain ⟨wr4, hwr4⟩ : ∃ wp, wp = w5 := ⟨_, rfl⟩
                      go_loopw [12] (fun v wr => ∃ k : Nat, v = .int .i64 (k : Int) ∧ m + 1 < k ∧ k ≤ b ∧ Hid (Fb B W wr) ∧ Hid (Rg wr B n G)) (fun v _ => b - (intOf v).toNat)
                      case atStart => exact ⟨m + 1 + 1, by first | rfl | go_num, by omega, by omega, F_w5.out, R_w5.out⟩
                      case round =>
                        clear F_w5 R_w5
                        obtain ⟨k, rfl, hmk, hkb, F4, R4⟩ := hrel
                        by_cases hkb2 : k < b
                        · obtain ⟨q, rfl⟩ : ∃ q, k = q + 1 := ⟨k - 1, by omega⟩
                          have hcc : ((q + 1 : Nat) : Int) = (q : Int) + 1 := by omega
                          have hkz : (q : Int) + 1 < (b : Int) := by omega
                          have e1 : ((q : Int) + 1).toNat = q + 1 := by omega
                          have e3 : (0 : Int) ≤ (q : Int) + 1 := by omega
                          have e4 : (q : Int) + 1 < (n : Int) := by omega
                          have e5 : (q : Int) < (n : Int) := by omega
                          rw [hcc]
                          clear hcc
                          obtain ⟨x0, hx0, gx0⟩ := R4.out.cell (j := q + 1) (by omega)
                          obtain ⟨y0, hy0, gy0⟩ := R4.out.cell (j := q) (by omega)
                          have hlB0 := R4.out.lt
                          have b0 := fun V : Ext wr => V.cell (p := ⟨B, q + 1, none⟩) hlB0 hx0
                          have b1 := fun V : Ext wr => V.cell (p := ⟨B, q, none⟩) hlB0 hy0
                          have HC0 : Hid _ := fun V (hV : Below wr.heap.size wr V) => hcmp.out V x0 y0 ((HF.out.also F4.out).bel hV) gx0 gy0
                          clear gx0 gy0 hx0 hy0
                          go_upto_region 21 with fail
                          refine wp_region_ext wr (Below.refl _ _) (by kernel_rfl) (by kernel_rfl) ?_
                          repeat (go_big_quiet_step (first
                            | (go_at_call 122; exact Ext.call HC0.out _)))
                          refine wpQuiet_nil ?_
                          rintro w6 ⟨⟨_, hb2⟩, rfl⟩
                          have F_w6 : Hid (Fb B W w6) := F4.out.bel hb2
                          have R_w6 : Hid (Rg w6 B n G) := R4.out.below hb2
                          clear b0 b1 hb2 HC0 hlB0 F4 R4
                          go_wp2
                          · exact ⟨⟨m + 1, j + 1, by go_num, by go_num, by omega, by omega, by omega, F_w6.out, R_w6.out⟩, by simp [intOf]; try omega⟩
                          · skip
                            obtain ⟨x2, y2, c1, c2, f1, f2, ⟨u, c3⟩, hlB2, rs, fs⟩ := R_w6.out.swap (i := q + 1) (j := q) (by omega) (by omega)
                            have RS : Hid _ := rs
                            have FS : Hid _ := fs
                            clear rs fs
                            have hmo : Tryz.prog.follows .mixedOrders = true := by kernel_rfl
                            go_big_region_o
                            generalize ((w6.setCell ⟨B, q + 1, none⟩ (.string y2)).setCell ⟨B, q, none⟩ (.string x2)).drew = w7 at RS FS ⊢
                            have F_w7 : Hid (Fb B W w7) := F_w6.out.also FS.out
                            have R_w7 : Hid (Rg w7 B n G) := RS
                            clear c1 c2 f1 f2 c3 hlB2 hmo RS FS
                            go_wp2
                            exact ⟨⟨q + 2, by go_num, by omega, by omega, F_w7.out, R_w7.out⟩, by simp [intOf]; try omega⟩
                        · have hkz : ¬ (k : Int) < (b : Int) := by omega
                          go_wp2
                          exact ⟨⟨m + 1, j + 1, by go_num, by go_num, by omega, by omega, by omega, F4.out, R4.out⟩, by simp [intOf]; try omega⟩
                    · skip
                      obtain ⟨x2, y2, c1, c2, f1, f2, ⟨u, c3⟩, hlB2, rs, fs⟩ := R_w5.out.swap (i := q + 1) (j := q) (by omega) (by omega)
                      have RS : Hid _ := rs
                      have FS : Hid _ := fs
                      clear rs fs
                      have hmo : Tryz.prog.follows .mixedOrders = true := by kernel_rfl
                      go_big_region_o
                      generalize ((w5.setCell ⟨B, q + 1, none⟩ (.string y2)).setCell ⟨B, q, none⟩ (.string x2)).drew = w7 at RS FS ⊢
                      have F_w7 : Hid (Fb B W w7) := F_w5.out.also FS.out
                      have R_w7 : Hid (Rg w7 B n G) := RS
                      clear c1 c2 f1 f2 c3 hlB2 hmo RS FS
                      go_wp2
                      exact ⟨⟨q, by go_num, by omega, F_w7.out, R_w7.out⟩, by simp [intOf]; try omega⟩
                  · have hkz : ¬ (1 : Int) ≤ (k : Int) := by omega
                    have F_w5 : Hid (Fb B W wr) := F3.out
                    have R_w5 : Hid (Rg wr B n G) := R3.out
                    clear F3 R3
                    go_wp2
                    obtain ⟨wr4, hwr4⟩ : ∃ wp, wp = wr := ⟨_, rfl⟩
                    go_loopw [12] (fun v wr => ∃ k : Nat, v = .int .i64 (k : Int) ∧ m + 1 < k ∧ k ≤ b ∧ Hid (Fb B W wr) ∧ Hid (Rg wr B n G)) (fun v _ => b - (intOf v).toNat)
                    case atStart => exact ⟨m + 1 + 1, by first | rfl | go_num, by omega, by omega, F_w5.out, R_w5.out⟩
                    case round =>
                      clear F_w5 R_w5
                      obtain ⟨k, rfl, hmk, hkb, F4, R4⟩ := hrel
                      by_cases hkb2 : k < b
                      · obtain ⟨q, rfl⟩ : ∃ q, k = q + 1 := ⟨k - 1, by omega⟩
                        have hcc : ((q + 1 : Nat) : Int) = (q : Int) + 1 := by omega
                        have hkz : (q : Int) + 1 < (b : Int) := by omega
                        have e1 : ((q : Int) + 1).toNat = q + 1 := by omega
                        have e3 : (0 : Int) ≤ (q : Int) + 1 := by omega
                        have e4 : (q : Int) + 1 < (n : Int) := by omega
                        have e5 : (q : Int) < (n : Int) := by omega
                        rw [hcc]
                        clear hcc
                        obtain ⟨x0, hx0, gx0⟩ := R4.out.cell (j := q + 1) (by omega)
                        obtain ⟨y0, hy0, gy0⟩ := R4.out.cell (j := q) (by omega)
                        have hlB0 := R4.out.lt
                        have b0 := fun V : Ext wr => V.cell (p := ⟨B, q + 1, none⟩) hlB0 hx0
                        have b1 := fun V : Ext wr => V.cell (p := ⟨B, q, none⟩) hlB0 hy0
                        have HC0 : Hid _ := fun V (hV : Below wr.heap.size wr V) => hcmp.out V x0 y0 ((HF.out.also F4.out).bel hV) gx0 gy0
                        clear gx0 gy0 hx0 hy0
                        go_upto_region 21 with fail
                        refine wp_region_ext wr (Below.refl _ _) (by kernel_rfl) (by kernel_rfl) ?_
                        repeat (go_big_quiet_step (first
                          | (go_at_call 122; exact Ext.call HC0.out _)))
                        refine wpQuiet_nil ?_
                        rintro w6 ⟨⟨_, hb2⟩, rfl⟩
                        have F_w6 : Hid (Fb B W w6) := F4.out.bel hb2
                        have R_w6 : Hid (Rg w6 B n G) := R4.out.below hb2
                        clear b0 b1 hb2 HC0 hlB0 F4 R4
                        go_wp2
                        · exact ⟨⟨m + 1, j + 1, by go_num, by go_num, by omega, by omega, by omega, F_w6.out, R_w6.out⟩, by simp [intOf]; try omega⟩
                        · skip
                          obtain ⟨x2, y2, c1, c2, f1, f2, ⟨u, c3⟩, hlB2, rs, fs⟩ := R_w6.out.swap (i := q + 1) (j := q) (by omega) (by omega)
                          have RS : Hid _ := rs
                          have FS : Hid _ := fs
                          clear rs fs
                          have hmo : Tryz.prog.follows .mixedOrders = true := by kernel_rfl
                          go_big_region_o
                          generalize ((w6.setCell ⟨B, q + 1, none⟩ (.string y2)).setCell ⟨B, q, none⟩ (.string x2)).drew = w7 at RS FS ⊢
                          have F_w7 : Hid (Fb B W w7) := F_w6.out.also FS.out
                          have R_w7 : Hid (Rg w7 B n G) := RS
                          clear c1 c2 f1 f2 c3 hlB2 hmo RS FS
                          go_wp2
                          exact ⟨⟨q + 2, by go_num, by omega, by omega, F_w7.out, R_w7.out⟩, by simp [intOf]; try omega⟩
                      · have hkz : ¬ (k : Int) < (b : Int) := by omega
                        go_wp2
                        exact ⟨⟨m + 1, j + 1, by go_num, by go_num, by omega, by omega, by omega, F4.out, R4.out⟩, by simp [intOf]; try omega⟩
              · have haz2 : ¬ 2 ≤ (m : Int) + 1 - (a : Int) := by omega
                go_wp2
                obtain ⟨wr4, hwr4⟩ : ∃ wp, wp = w9 := ⟨_, rfl⟩
                go_loopw [12] (fun v wr => ∃ k : Nat, v = .int .i64 (k : Int) ∧ m + 1 < k ∧ k ≤ b ∧ Hid (Fb B W wr) ∧ Hid (Rg wr B n G)) (fun v _ => b - (intOf v).toNat)
                case atStart => exact ⟨m + 1 + 1, by first | rfl | go_num, by omega, by omega, F_w9.out, R_w9.out⟩
                case round =>
                  clear F_w9 R_w9
                  obtain ⟨k, rfl, hmk, hkb, F4, R4⟩ := hrel
                  by_cases hkb2 : k < b
                  · obtain ⟨q, rfl⟩ : ∃ q, k = q + 1 := ⟨k - 1, by omega⟩
                    have hcc : ((q + 1 : Nat) : Int) = (q : Int) + 1 := by omega
                    have hkz : (q : Int) + 1 < (b : Int) := by omega
                    have e1 : ((q : Int) + 1).toNat = q + 1 := by omega
                    have e3 : (0 : Int) ≤ (q : Int) + 1 := by omega
                    have e4 : (q : Int) + 1 < (n : Int) := by omega
                    have e5 : (q : Int) < (n : Int) := by omega
                    rw [hcc]
                    clear hcc
                    obtain ⟨x0, hx0, gx0⟩ := R4.out.cell (j := q + 1) (by omega)
                    obtain ⟨y0, hy0, gy0⟩ := R4.out.cell (j := q) (by omega)
                    have hlB0 := R4.out.lt
                    have b0 := fun V : Ext wr => V.cell (p := ⟨B, q + 1, none⟩) hlB0 hx0
                    have b1 := fun V : Ext wr => V.cell (p := ⟨B, q, none⟩) hlB0 hy0
                    have HC0 : Hid _ := fun V (hV : Below wr.heap.size wr V) => hcmp.out V x0 y0 ((HF.out.also F4.out).bel hV) gx0 gy0
                    clear gx0 gy0 hx0 hy0
                    go_upto_region 21 with fail
                    refine wp_region_ext wr (Below.refl _ _) (by kernel_rfl) (by kernel_rfl) ?_
                    repeat (go_big_quiet_step (first
                      | (go_at_call 122; exact Ext.call HC0.out _)))
                    refine wpQuiet_nil ?_
                    rintro w6 ⟨⟨_, hb2⟩, rfl⟩
                    have F_w6 : Hid (Fb B W w6) := F4.out.bel hb2
                    have R_w6 : Hid (Rg w6 B n G) := R4.out.below hb2
                    clear b0 b1 hb2 HC0 hlB0 F4 R4
                    go_wp2
                    · exact ⟨⟨m + 1, j + 1, by go_num, by go_num, by omega, by omega, by omega, F_w6.out, R_w6.out⟩, by simp [intOf]; try omega⟩
                    · skip
                      obtain ⟨x2, y2, c1, c2, f1, f2, ⟨u, c3⟩, hlB2, rs, fs⟩ := R_w6.out.swap (i := q + 1) (j := q) (by omega) (by omega)
                      have RS : Hid _ := rs
                      have FS : Hid _ := fs
                      clear rs fs
                      have hmo : Tryz.prog.follows .mixedOrders = true := by kernel_rfl
                      go_big_region_o
                      generalize ((w6.setCell ⟨B, q + 1, none⟩ (.string y2)).setCell ⟨B, q, none⟩ (.string x2)).drew = w7 at RS FS ⊢
                      have F_w7 : Hid (Fb B W w7) := F_w6.out.also FS.out
                      have R_w7 : Hid (Rg w7 B n G) := RS
                      clear c1 c2 f1 f2 c3 hlB2 hmo RS FS
                      go_wp2
                      exact ⟨⟨q + 2, by go_num, by omega, by omega, F_w7.out, R_w7.out⟩, by simp [intOf]; try omega⟩
                  · have hkz : ¬ (k : Int) < (b : Int) := by omega
                    go_wp2
                    exact ⟨⟨m + 1, j + 1, by go_num, by go_num, by omega, by omega, by omega, F4.out, R4.out⟩, by simp [intOf]; try omega⟩
            · have hbz2 : ¬ 2 ≤ (b : Int) - ((m : Int) + 1) := by omega
              by_cases ha2 : a + 2 ≤ m + 1
              · have haz2 : 2 ≤ (m : Int) + 1 - (a : Int) := by omega
                go_wp2
                obtain ⟨wr3, hwr3⟩ : ∃ wp, wp = w9 := ⟨_, rfl⟩
                go_loopw [11] (fun v wr => ∃ k : Nat, v = .int .i64 (k : Int) ∧ k ≤ m ∧ Hid (Fb B W wr) ∧ Hid (Rg wr B n G)) (fun v _ => (intOf v).toNat)
                case atStart => exact ⟨m, by first | rfl | go_num, Nat.le_refl _, F_w9.out, R_w9.out⟩
                case round =>
                  clear F_w9 R_w9
                  obtain ⟨k, rfl, hkm, F3, R3⟩ := hrel
                  by_cases hk1 : 1 ≤ k
                  · obtain ⟨q, rfl⟩ : ∃ q, k = q + 1 := ⟨k - 1, by omega⟩
                    have hcc : ((q + 1 : Nat) : Int) = (q : Int) + 1 := by omega
                    have hkz : (1 : Int) ≤ (q : Int) + 1 := by omega
                    have e1' : ((q : Int) + 1).toNat = q + 1 := by omega
                    have e3' : (0 : Int) ≤ (q : Int) + 1 := by omega
                    have e4' : (q : Int) + 1 < (n : Int) := by omega
                    have e5' : (q : Int) < (n : Int) := by omega
                    rw [hcc]
                    clear hcc
                    obtain ⟨x0, hx0, gx0⟩ := R3.out.cell (j := q + 1) (by omega)
                    obtain ⟨y0, hy0, gy0⟩ := R3.out.cell (j := q) (by omega)
                    have hlB0 := R3.out.lt
                    have b0 := fun V : Ext wr => V.cell (p := ⟨B, q + 1, none⟩) hlB0 hx0
                    have b1 := fun V : Ext wr => V.cell (p := ⟨B, q, none⟩) hlB0 hy0
                    have HC0 : Hid _ := fun V (hV : Below wr.heap.size wr V) => hcmp.out V x0 y0 ((HF.out.also F3.out).bel hV) gx0 gy0
                    clear gx0 gy0 hx0 hy0
                    go_upto_region 15 with fail
                    refine wp_region_ext wr (Below.refl _ _) (by kernel_rfl) (by kernel_rfl) ?_
                    repeat (go_big_quiet_step (first
                      | (go_at_call 122; exact Ext.call HC0.out _)))
                    refine wpQuiet_nil ?_
                    rintro w5 ⟨⟨_, hb2⟩, rfl⟩
                    have F_w5 : Hid (Fb B W w5) := F3.out.bel hb2
                    have R_w5 : Hid (Rg w5 B n G) := R3.out.below hb2
                    clear b0 b1 hb2 HC0 hlB0 F3 R3
                    go_wp2
                    · skip
                      exact ⟨⟨m + 1, j + 1, by go_num, by go_num, by omega, by omega, by omega, F_w5.out, R_w5.out⟩, by simp [intOf]; try omega⟩
                    · skip
                      obtain ⟨x2, y2, c1, c2, f1, f2, ⟨u, c3⟩, hlB2, rs, fs⟩ := R_w5.out.swap (i := q + 1) (j := q) (by omega) (by omega)
                      have RS : Hid _ := rs
                      have FS : Hid _ := fs
                      clear rs fs
                      have hmo : Tryz.prog.follows .mixedOrders = true := by kernel_rfl
                      go_big_region_o
                      generalize ((w5.setCell ⟨B, q + 1, none⟩ (.string y2)).setCell ⟨B, q, none⟩ (.string x2)).drew = w7 at RS FS ⊢
                      have F_w7 : Hid (Fb B W w7) := F_w5.out.also FS.out
                      have R_w7 : Hid (Rg w7 B n G) := RS
                      clear c1 c2 f1 f2 c3 hlB2 hmo RS FS
                      go_wp2
                      exact ⟨⟨q, by go_num, by omega, F_w7.out, R_w7.out⟩, by simp [intOf]; try omega⟩
                  · have hkz : ¬ (1 : Int) ≤ (k : Int) := by omega
                    have F_w5 : Hid (Fb B W wr) := F3.out
                    have R_w5 : Hid (Rg wr B n G) := R3.out
                    clear F3 R3
                    go_wp2
                    exact ⟨⟨m + 1, j + 1, by go_num, by go_num, by omega, by omega, by omega, F_w5.out, R_w5.out⟩, by simp [intOf]; try omega⟩
              · have haz2 : ¬ 2 ≤ (m : Int) + 1 - (a : Int) := by omega
                go_wp2
                exact ⟨⟨m + 1, j + 1, by go_num, by go_num, by omega, by omega, by omega, F_w9.out, R_w9.out⟩, by simp [intOf]; try omega⟩
        · have hie : i2 = b := by omega
          subst hie
          have hijd : decide ((i2 : Int) < (i2 : Int)) = false := decide_eq_false (by omega)
          go_upto_region 5 with fail
          refine wp_region_ext wr (Below.refl _ _) (by kernel_rfl) (by kernel_rfl) ?_
          repeat (go_big_quiet_step (fail))
          refine wpQuiet_nil ?_
          rintro w3 ⟨⟨_, hb2⟩, rfl⟩
          have F_w3 : Hid (Fb B W w3) := F1.out.bel hb2
          have R_w3 : Hid (Rg w3 B n G) := R1.out.below hb2
          clear hb2 F1 R1 hijd
          go_wp2
          go_ret
          exact ⟨.inl rfl, F_w3.out, R_w3.out⟩
    · have hjz : ¬ (j : Int) < 5 := by omega
      go_wp2
      go_ret
      exact ⟨.inr rfl, FI.out, RI.out⟩

end Go.Proofs.YtafmoceinamcdaaGreat
