/- Put together by a program out of these texts of mine: VSo8, VSo9. -/
import Derived.Test.YtafmoceinamcdaaGreatBunS18

namespace Go.Proofs.YtafmoceinamcdaaGreat
open Go.RowKit
set_option linter.unusedVariables false
set_option linter.unusedSimpArgs false

set_option maxRecDepth 100000 in
set_option maxHeartbeats 8000000 in
theorem so_equal {W0 : World} {B bp : Nat} {cf : ByteArray → ByteArray → Int} {G : ByteArray → Prop} (hcmp : Hid (CmpC W0 B bp cf G)) (n cap a b p : Nat) (hap : a ≤ p) (hpb : p < b) (hbn : b ≤ n) (hn : n ≤ 1000000000) (W : World) (hf : Hid (Fb B W0 W)) (hr : Hid (Rg W B n G)) :
    Calls Tryz.prog 181 #[.slice (some ⟨B, 0, none⟩) n cap, .int .i64 (a : Int), .int .i64 (b : Int), .int .i64 (p : Int), cmpV bp] W fun e W' => ∃ r : Nat, e = .returned (.int .i64 (r : Int)) ∧ a < r ∧ r ≤ b ∧ Fb B W W' ∧ Rg W' B n G := by
  have HF : Hid (Fb B W0 W) := hf
  have HR : Hid (Rg W B n G) := hr
  have F0 : Hid (Fb B W W) := Fx.refl _ _
  unfold cmpV
  clear hf hr
  go_enter Tryz.func181, Tryz.ntmps181
  obtain ⟨x2, y2, c1, c2, f1, f2, ⟨u, c3⟩, hlB2, rs, fs⟩ := HR.out.swap (i := a) (j := p) (by omega) (by omega)
  have RS : Hid _ := rs
  have FS : Hid _ := fs
  clear rs fs
  have hmo : Tryz.prog.follows .mixedOrders = true := by kernel_rfl
  go_upto_region 1 with fail
  go_big_region_o
  generalize ((W.setCell ⟨B, a, none⟩ (.string y2)).setCell ⟨B, p, none⟩ (.string x2)).drew = w1 at RS FS ⊢
  have F_w1 : Hid (Fb B W w1) := F0.out.also FS.out
  have R_w1 : Hid (Rg w1 B n G) := RS
  clear c1 c2 f1 f2 c3 hlB2 hmo RS FS
  go_wp2
  go_loopw [11, 12] (fun v u wr => ∃ i j : Nat, v = .int .i64 (i : Int) ∧ u = .int .i64 (j : Int) ∧ a < i ∧ i ≤ b ∧ a ≤ j ∧ j < b ∧ Hid (Fb B W wr) ∧ Hid (Rg wr B n G)) (fun v u _ => (b - (intOf v).toNat) + (intOf u).toNat)
  case atStart => exact ⟨a + 1, b - 1, by go_num, by first | go_num | (congr 1; omega), by omega, by omega, by omega, by omega, F_w1.out, R_w1.out⟩
  case round =>
    clear F_w1 R_w1 F0
    obtain ⟨i, j, rfl, rfl, hai, hib, haj, hjb, FI, RI⟩ := hrel
    go_wp2
    go_loopw [11] (fun v wr => ∃ i2 : Nat, v = .int .i64 (i2 : Int) ∧ i ≤ i2 ∧ i2 ≤ b ∧ Hid (Fb B W wr) ∧ Hid (Rg wr B n G)) (fun v _ => b - (intOf v).toNat)
    case atStart => exact ⟨i, rfl, Nat.le_refl _, hib, FI.out, RI.out⟩
    case round =>
      clear FI RI
      obtain ⟨i2, rfl, hii2, hi2b, F1, R1⟩ := hrel
      by_cases hij : i2 ≤ j
      · have hijz : (i2 : Int) ≤ (j : Int) := by omega
        have hijd : decide ((i2 : Int) ≤ (j : Int)) = true := decide_eq_true hijz
        obtain ⟨x0, hx0, gx0⟩ := R1.out.cell (j := a) (by omega)
        obtain ⟨y0, hy0, gy0⟩ := R1.out.cell (j := i2) (by omega)
        have hlB0 := R1.out.lt
        have b0 := fun V : Ext wr => V.cell (p := ⟨B, a, none⟩) hlB0 hx0
        have b1 := fun V : Ext wr => V.cell (p := ⟨B, i2, none⟩) hlB0 hy0
        have HC0 : Hid _ := fun V (hV : Below wr.heap.size wr V) => hcmp.out V x0 y0 ((HF.out.also F1.out).bel hV) gx0 gy0
        clear gx0 gy0 hx0 hy0
        go_upto_region 3 with fail
        refine wp_region_ext wr (Below.refl _ _) (by kernel_rfl) (by kernel_rfl) ?_
        repeat (go_big_quiet_step (first
          | (go_at_call 122; exact Ext.call HC0.out _)))
        refine wpQuiet_nil ?_
        rintro w3 ⟨⟨_, hb2⟩, rfl⟩
        have F_w3 : Hid (Fb B W w3) := F1.out.bel hb2
        have R_w3 : Hid (Rg w3 B n G) := R1.out.below hb2
        clear b0 b1 hb2 HC0 hlB0 F1 R1 hijd
        go_wp2
        case roundEnd => exact ⟨⟨i2 + 1, by go_num, by omega, by omega, F_w3.out, R_w3.out⟩, by simp [intOf]; try omega⟩
        try go_wp2
        obtain ⟨wq, hwq⟩ : ∃ wq, wq = w3 := ⟨_, rfl⟩
        go_loopw [12] (fun v wr => ∃ j2 : Nat, v = .int .i64 (j2 : Int) ∧ a ≤ j2 ∧ j2 ≤ j ∧ Hid (Fb B W wr) ∧ Hid (Rg wr B n G)) (fun v _ => (intOf v).toNat)
        case atStart => exact ⟨j, rfl, by omega, Nat.le_refl _, F_w3.out, R_w3.out⟩
        case round =>
          clear F_w3 R_w3
          obtain ⟨j2, rfl, haj2, hj2j, F2, R2⟩ := hrel
          by_cases hij2 : i2 ≤ j2
          · have hijz2 : (i2 : Int) ≤ (j2 : Int) := by omega
            have hijd2 : decide ((i2 : Int) ≤ (j2 : Int)) = true := decide_eq_true hijz2
            obtain ⟨x0, hx0, gx0⟩ := R2.out.cell (j := a) (by omega)
            obtain ⟨y0, hy0, gy0⟩ := R2.out.cell (j := j2) (by omega)
            have hlB0 := R2.out.lt
            have b0 := fun V : Ext wr => V.cell (p := ⟨B, a, none⟩) hlB0 hx0
            have b1 := fun V : Ext wr => V.cell (p := ⟨B, j2, none⟩) hlB0 hy0
            have HC0 : Hid _ := fun V (hV : Below wr.heap.size wr V) => hcmp.out V x0 y0 ((HF.out.also F2.out).bel hV) gx0 gy0
            clear gx0 gy0 hx0 hy0
            go_upto_region 5 with fail
            refine wp_region_ext wr (Below.refl _ _) (by kernel_rfl) (by kernel_rfl) ?_
            repeat (go_big_quiet_step (first
              | (go_at_call 122; exact Ext.call HC0.out _)))
            refine wpQuiet_nil ?_
            rintro w6 ⟨⟨_, hb2⟩, rfl⟩
            have F_w6 : Hid (Fb B W w6) := F2.out.bel hb2
            have R_w6 : Hid (Rg w6 B n G) := R2.out.below hb2
            clear b0 b1 hb2 HC0 hlB0 F2 R2 hijd2
            go_wp2
            case roundEnd => exact ⟨⟨j2 - 1, by first | go_num | (congr 1; omega), by omega, by omega, F_w6.out, R_w6.out⟩, by simp [intOf]; try omega⟩
            obtain ⟨m2, rfl⟩ : ∃ m, j2 = m + 1 := ⟨j2 - 1, by omega⟩
            obtain ⟨x2, y2, c1, c2, f1, f2, ⟨u, c3⟩, hlB2, rs, fs⟩ := R_w6.out.swap (i := i2) (j := m2 + 1) (by omega) (by omega)
            have RS : Hid _ := rs
            have FS : Hid _ := fs
            clear rs fs
            have hmo : Tryz.prog.follows .mixedOrders = true := by kernel_rfl
            go_upto_region 8 with fail
            go_big_region_o
            generalize ((w6.setCell ⟨B, i2, none⟩ (.string y2)).setCell ⟨B, m2 + 1, none⟩ (.string x2)).drew = w9 at RS FS ⊢
            have F_w9 : Hid (Fb B W w9) := F_w6.out.also FS.out
            have R_w9 : Hid (Rg w9 B n G) := RS
            clear c1 c2 f1 f2 c3 hlB2 hmo RS FS
            go_wp2
            exact ⟨⟨i2 + 1, m2, by go_num, by go_num, by omega, by omega, by omega, by omega, F_w9.out, R_w9.out⟩, by simp [intOf]; try omega⟩
          · skip
            have hijz2 : ¬ (i2 : Int) ≤ (j2 : Int) := by omega
            have hijd2 : decide ((i2 : Int) ≤ (j2 : Int)) = false := decide_eq_false hijz2
            go_upto_region 5 with fail
            refine wp_region_ext wr (Below.refl _ _) (by kernel_rfl) (by kernel_rfl) ?_
            repeat (go_big_quiet_step (fail))
            refine wpQuiet_nil ?_
            rintro w6 ⟨⟨_, hb2⟩, rfl⟩
            have F_w6 : Hid (Fb B W w6) := F2.out.bel hb2
            have R_w6 : Hid (Rg w6 B n G) := R2.out.below hb2
            clear hb2 F2 R2 hijd2
            go_wp2
            go_ret
            exact ⟨i2, rfl, by omega, by omega, F_w6.out, R_w6.out⟩
      · have hijz : ¬ (i2 : Int) ≤ (j : Int) := by omega
        have hijd : decide ((i2 : Int) ≤ (j : Int)) = false := decide_eq_false hijz
        go_upto_region 3 with fail
        refine wp_region_ext wr (Below.refl _ _) (by kernel_rfl) (by kernel_rfl) ?_
        repeat (go_big_quiet_step (fail))
        refine wpQuiet_nil ?_
        rintro w3 ⟨⟨_, hb2⟩, rfl⟩
        have F_w3 : Hid (Fb B W w3) := F1.out.bel hb2
        have R_w3 : Hid (Rg w3 B n G) := R1.out.below hb2
        clear hb2 F1 R1 hijd
        try go_wp2
        obtain ⟨wq, hwq⟩ : ∃ wq, wq = w3 := ⟨_, rfl⟩
        go_loopw [12] (fun v wr => ∃ j2 : Nat, v = .int .i64 (j2 : Int) ∧ a ≤ j2 ∧ j2 ≤ j ∧ Hid (Fb B W wr) ∧ Hid (Rg wr B n G)) (fun v _ => (intOf v).toNat)
        case atStart => exact ⟨j, rfl, by omega, Nat.le_refl _, F_w3.out, R_w3.out⟩
        case round =>
          clear F_w3 R_w3
          obtain ⟨j2, rfl, haj2, hj2j, F2, R2⟩ := hrel
          have hijz2 : ¬ (i2 : Int) ≤ (j2 : Int) := by omega
          have hijd2 : decide ((i2 : Int) ≤ (j2 : Int)) = false := decide_eq_false hijz2
          go_upto_region 5 with fail
          refine wp_region_ext wr (Below.refl _ _) (by kernel_rfl) (by kernel_rfl) ?_
          repeat (go_big_quiet_step (fail))
          refine wpQuiet_nil ?_
          rintro w6 ⟨⟨_, hb2⟩, rfl⟩
          have F_w6 : Hid (Fb B W w6) := F2.out.bel hb2
          have R_w6 : Hid (Rg w6 B n G) := R2.out.below hb2
          clear hb2 F2 R2 hijd2
          go_wp2
          go_ret
          exact ⟨i2, rfl, by omega, by omega, F_w6.out, R_w6.out⟩

set_option maxRecDepth 100000 in
set_option maxHeartbeats 16000000 in
theorem so_part {W0 : World} {B bp : Nat} {cf : ByteArray → ByteArray → Int} {G : ByteArray → Prop} (hcmp : Hid (CmpC W0 B bp cf G)) (n cap a b p : Nat) (hap : a ≤ p) (hpb : p < b) (hab : a + 2 ≤ b) (hbn : b ≤ n) (hn : n ≤ 1000000000) (W : World) (hf : Hid (Fb B W0 W)) (hr : Hid (Rg W B n G)) :
    Calls Tryz.prog 182 #[.slice (some ⟨B, 0, none⟩) n cap, .int .i64 (a : Int), .int .i64 (b : Int), .int .i64 (p : Int), cmpV bp] W fun e W' => ∃ (r : Nat) (t : Bool), e = .returned (.tuple #[.int .i64 (r : Int), .bool t]) ∧ a ≤ r ∧ r < b ∧ Fb B W W' ∧ Rg W' B n G := by
  have HF : Hid (Fb B W0 W) := hf
  have HR : Hid (Rg W B n G) := hr
  have F0 : Hid (Fb B W W) := Fx.refl _ _
  unfold cmpV
  clear hf hr
  obtain ⟨bm, hbm⟩ : ∃ bm, b = bm + 1 := ⟨b - 1, by omega⟩
  go_enter Tryz.func182, Tryz.ntmps182
  obtain ⟨x2, y2, c1, c2, f1, f2, ⟨u, c3⟩, hlB2, rs, fs⟩ := HR.out.swap (i := a) (j := p) (by omega) (by omega)
  have RS : Hid _ := rs
  have FS : Hid _ := fs
  clear rs fs
  have hmo : Tryz.prog.follows .mixedOrders = true := by kernel_rfl
  go_upto_region 1 with fail
  go_big_region_o
  generalize ((W.setCell ⟨B, a, none⟩ (.string y2)).setCell ⟨B, p, none⟩ (.string x2)).drew = w1 at RS FS ⊢
  have F_w1 : Hid (Fb B W w1) := F0.out.also FS.out
  have R_w1 : Hid (Rg w1 B n G) := RS
  clear c1 c2 f1 f2 c3 hlB2 hmo RS FS
  have hbz : (b : Int) - 1 = (bm : Int) := by omega
  try go_wp2
  obtain ⟨wp, hwp⟩ : ∃ wp, wp = w1 := ⟨_, rfl⟩
  go_loopw [12] (fun v wr => ∃ i2 : Nat, v = .int .i64 (i2 : Int) ∧ a + 1 ≤ i2 ∧ i2 ≤ b ∧ Hid (Fb B W wr) ∧ Hid (Rg wr B n G)) (fun v _ => b - (intOf v).toNat)
  case atStart => exact ⟨a + 1, by first | rfl | go_num | (congr 1; omega), Nat.le_refl _, by omega, F_w1.out, R_w1.out⟩
  case round =>
    clear F_w1 R_w1
    obtain ⟨i2, rfl, hii2, hi2b, F1, R1⟩ := hrel
    by_cases hij : i2 ≤ bm
    · have hijz : (i2 : Int) ≤ (bm : Int) := by omega
      have hijd : decide ((i2 : Int) ≤ (bm : Int)) = true := decide_eq_true hijz
      obtain ⟨x0, hx0, gx0⟩ := R1.out.cell (j := i2) (by omega)
      obtain ⟨y0, hy0, gy0⟩ := R1.out.cell (j := a) (by omega)
      have hlB0 := R1.out.lt
      have b0 := fun V : Ext wr => V.cell (p := ⟨B, i2, none⟩) hlB0 hx0
      have b1 := fun V : Ext wr => V.cell (p := ⟨B, a, none⟩) hlB0 hy0
      have HC0 : Hid _ := fun V (hV : Below wr.heap.size wr V) => hcmp.out V x0 y0 ((HF.out.also F1.out).bel hV) gx0 gy0
      clear gx0 gy0 hx0 hy0
      go_upto_region 3 with fail
      refine wp_region_ext wr (Below.refl _ _) (by kernel_rfl) (by kernel_rfl) ?_
      repeat (go_big_quiet_step (first
        | (go_at_call 122; exact Ext.call HC0.out _)))
      refine wpQuiet_nil ?_
      rintro w3 ⟨⟨_, hb2⟩, rfl⟩
      have F_w3 : Hid (Fb B W w3) := F1.out.bel hb2
      have R_w3 : Hid (Rg w3 B n G) := R1.out.below hb2
      clear b0 b1 hb2 HC0 hlB0 F1 R1 hijd
      go_wp2
      case roundEnd => exact ⟨⟨i2 + 1, by go_num, by omega, by omega, F_w3.out, R_w3.out⟩, by simp [intOf]; try omega⟩
      try go_wp2
      obtain ⟨wq, hwq⟩ : ∃ wq, wq = w3 := ⟨_, rfl⟩
      go_loopw [13] (fun v wr => ∃ j2 : Nat, v = .int .i64 (j2 : Int) ∧ a ≤ j2 ∧ j2 ≤ bm ∧ Hid (Fb B W wr) ∧ Hid (Rg wr B n G)) (fun v _ => (intOf v).toNat)
      case atStart => exact ⟨bm, by first | rfl | go_num | (congr 1; omega), by omega, Nat.le_refl _, F_w3.out, R_w3.out⟩
      case round =>
        clear F_w3 R_w3
        obtain ⟨j2, rfl, haj2, hj2j, F2, R2⟩ := hrel
        by_cases hij2 : i2 ≤ j2
        · have hijz2 : (i2 : Int) ≤ (j2 : Int) := by omega
          have hijd2 : decide ((i2 : Int) ≤ (j2 : Int)) = true := decide_eq_true hijz2
          obtain ⟨x0, hx0, gx0⟩ := R2.out.cell (j := j2) (by omega)
          obtain ⟨y0, hy0, gy0⟩ := R2.out.cell (j := a) (by omega)
          have hlB0 := R2.out.lt
          have b0 := fun V : Ext wr => V.cell (p := ⟨B, j2, none⟩) hlB0 hx0
          have b1 := fun V : Ext wr => V.cell (p := ⟨B, a, none⟩) hlB0 hy0
          have HC0 : Hid _ := fun V (hV : Below wr.heap.size wr V) => hcmp.out V x0 y0 ((HF.out.also F2.out).bel hV) gx0 gy0
          clear gx0 gy0 hx0 hy0
          go_upto_region 5 with fail
          refine wp_region_ext wr (Below.refl _ _) (by kernel_rfl) (by kernel_rfl) ?_
          repeat (go_big_quiet_step (first
            | (go_at_call 122; exact Ext.call HC0.out _)))
          refine wpQuiet_nil ?_
          rintro w6 ⟨⟨_, hb2⟩, rfl⟩
          have F_w6 : Hid (Fb B W w6) := F2.out.bel hb2
          have R_w6 : Hid (Rg w6 B n G) := R2.out.below hb2
          clear b0 b1 hb2 HC0 hlB0 F2 R2 hijd2
          go_wp2
          case roundEnd => exact ⟨⟨j2 - 1, by first | go_num | (congr 1; omega), by omega, by omega, F_w6.out, R_w6.out⟩, by simp [intOf]; try omega⟩
          obtain ⟨m3, rfl⟩ : ∃ m, j2 = m + 1 := ⟨j2 - 1, by omega⟩
          obtain ⟨x2, y2, c1, c2, f1, f2, ⟨u, c3⟩, hlB2, rs, fs⟩ := R_w6.out.swap (i := i2) (j := m3 + 1) (by omega) (by omega)
          have RS : Hid _ := rs
          have FS : Hid _ := fs
          clear rs fs
          have hmo : Tryz.prog.follows .mixedOrders = true := by kernel_rfl
          go_upto_region 10 with fail
          go_big_region_o
          generalize ((w6.setCell ⟨B, i2, none⟩ (.string y2)).setCell ⟨B, m3 + 1, none⟩ (.string x2)).drew = w8 at RS FS ⊢
          have F_w8 : Hid (Fb B W w8) := F_w6.out.also FS.out
          have R_w8 : Hid (Rg w8 B n G) := RS
          clear c1 c2 f1 f2 c3 hlB2 hmo RS FS
          go_wp2
          go_loopw [12, 13] (fun v u wr => ∃ i j : Nat, v = .int .i64 (i : Int) ∧ u = .int .i64 (j : Int) ∧ a < i ∧ i ≤ b ∧ a ≤ j ∧ j < b ∧ Hid (Fb B W wr) ∧ Hid (Rg wr B n G)) (fun v u _ => (b - (intOf v).toNat) + (intOf u).toNat)
          case atStart => exact ⟨i2 + 1, m3, by go_num, by go_num, by omega, by omega, by omega, by omega, F_w8.out, R_w8.out⟩
          case round =>
            clear F_w8 R_w8
            obtain ⟨i, j, rfl, rfl, hai, hib, haj, hjb, FI, RI⟩ := hrel
            try go_wp2
            obtain ⟨wp, hwp⟩ : ∃ wp, wp = wr := ⟨_, rfl⟩
            go_loopw [12] (fun v wr => ∃ i2 : Nat, v = .int .i64 (i2 : Int) ∧ i ≤ i2 ∧ i2 ≤ b ∧ Hid (Fb B W wr) ∧ Hid (Rg wr B n G)) (fun v _ => b - (intOf v).toNat)
            case atStart => exact ⟨i, by first | rfl | go_num | (congr 1; omega), Nat.le_refl _, by omega, FI.out, RI.out⟩
            case round =>
              clear FI RI
              obtain ⟨i2, rfl, hii2, hi2b, F1, R1⟩ := hrel
              by_cases hij : i2 ≤ j
              · have hijz : (i2 : Int) ≤ (j : Int) := by omega
                have hijd : decide ((i2 : Int) ≤ (j : Int)) = true := decide_eq_true hijz
                obtain ⟨x0, hx0, gx0⟩ := R1.out.cell (j := i2) (by omega)
                obtain ⟨y0, hy0, gy0⟩ := R1.out.cell (j := a) (by omega)
                have hlB0 := R1.out.lt
                have b0 := fun V : Ext wr => V.cell (p := ⟨B, i2, none⟩) hlB0 hx0
                have b1 := fun V : Ext wr => V.cell (p := ⟨B, a, none⟩) hlB0 hy0
                have HC0 : Hid _ := fun V (hV : Below wr.heap.size wr V) => hcmp.out V x0 y0 ((HF.out.also F1.out).bel hV) gx0 gy0
                clear gx0 gy0 hx0 hy0
                go_upto_region 13 with fail
                refine wp_region_ext wr (Below.refl _ _) (by kernel_rfl) (by kernel_rfl) ?_
                repeat (go_big_quiet_step (first
                  | (go_at_call 122; exact Ext.call HC0.out _)))
                refine wpQuiet_nil ?_
                rintro w3 ⟨⟨_, hb2⟩, rfl⟩
                have F_w3 : Hid (Fb B W w3) := F1.out.bel hb2
                have R_w3 : Hid (Rg w3 B n G) := R1.out.below hb2
                clear b0 b1 hb2 HC0 hlB0 F1 R1 hijd
                go_wp2
                case roundEnd => exact ⟨⟨i2 + 1, by go_num, by omega, by omega, F_w3.out, R_w3.out⟩, by simp [intOf]; try omega⟩
                try go_wp2
                obtain ⟨wq, hwq⟩ : ∃ wq, wq = w3 := ⟨_, rfl⟩
                go_loopw [13] (fun v wr => ∃ j2 : Nat, v = .int .i64 (j2 : Int) ∧ a ≤ j2 ∧ j2 ≤ j ∧ Hid (Fb B W wr) ∧ Hid (Rg wr B n G)) (fun v _ => (intOf v).toNat)
                case atStart => exact ⟨j, by first | rfl | go_num | (congr 1; omega), by omega, Nat.le_refl _, F_w3.out, R_w3.out⟩
                case round =>
                  clear F_w3 R_w3
                  obtain ⟨j2, rfl, haj2, hj2j, F2, R2⟩ := hrel
                  by_cases hij2 : i2 ≤ j2
                  · have hijz2 : (i2 : Int) ≤ (j2 : Int) := by omega
                    have hijd2 : decide ((i2 : Int) ≤ (j2 : Int)) = true := decide_eq_true hijz2
                    obtain ⟨x0, hx0, gx0⟩ := R2.out.cell (j := j2) (by omega)
                    obtain ⟨y0, hy0, gy0⟩ := R2.out.cell (j := a) (by omega)
                    have hlB0 := R2.out.lt
                    have b0 := fun V : Ext wr => V.cell (p := ⟨B, j2, none⟩) hlB0 hx0
                    have b1 := fun V : Ext wr => V.cell (p := ⟨B, a, none⟩) hlB0 hy0
                    have HC0 : Hid _ := fun V (hV : Below wr.heap.size wr V) => hcmp.out V x0 y0 ((HF.out.also F2.out).bel hV) gx0 gy0
                    clear gx0 gy0 hx0 hy0
                    go_upto_region 15 with fail
                    refine wp_region_ext wr (Below.refl _ _) (by kernel_rfl) (by kernel_rfl) ?_
                    repeat (go_big_quiet_step (first
                      | (go_at_call 122; exact Ext.call HC0.out _)))
                    refine wpQuiet_nil ?_
                    rintro w6 ⟨⟨_, hb2⟩, rfl⟩
                    have F_w6 : Hid (Fb B W w6) := F2.out.bel hb2
                    have R_w6 : Hid (Rg w6 B n G) := R2.out.below hb2
                    clear b0 b1 hb2 HC0 hlB0 F2 R2 hijd2
                    go_wp2
                    case roundEnd => exact ⟨⟨j2 - 1, by first | go_num | (congr 1; omega), by omega, by omega, F_w6.out, R_w6.out⟩, by simp [intOf]; try omega⟩
                    obtain ⟨m2, rfl⟩ : ∃ m, j2 = m + 1 := ⟨j2 - 1, by omega⟩
                    obtain ⟨x2, y2, c1, c2, f1, f2, ⟨u, c3⟩, hlB2, rs, fs⟩ := R_w6.out.swap (i := i2) (j := m2 + 1) (by omega) (by omega)
                    have RS : Hid _ := rs
                    have FS : Hid _ := fs
                    clear rs fs
                    have hmo : Tryz.prog.follows .mixedOrders = true := by kernel_rfl
                    go_upto_region 18 with fail
                    go_big_region_o
                    generalize ((w6.setCell ⟨B, i2, none⟩ (.string y2)).setCell ⟨B, m2 + 1, none⟩ (.string x2)).drew = w9 at RS FS ⊢
                    have F_w9 : Hid (Fb B W w9) := F_w6.out.also FS.out
                    have R_w9 : Hid (Rg w9 B n G) := RS
                    clear c1 c2 f1 f2 c3 hlB2 hmo RS FS
                    go_wp2
                    exact ⟨⟨i2 + 1, m2, by go_num, by go_num, by omega, by omega, by omega, by omega, F_w9.out, R_w9.out⟩, by simp [intOf]; try omega⟩
                  · skip
                    have hijz2 : ¬ (i2 : Int) ≤ (j2 : Int) := by omega
                    have hijd2 : decide ((i2 : Int) ≤ (j2 : Int)) = false := decide_eq_false hijz2
                    go_upto_region 15 with fail
                    refine wp_region_ext wr (Below.refl _ _) (by kernel_rfl) (by kernel_rfl) ?_
                    repeat (go_big_quiet_step (fail))
                    refine wpQuiet_nil ?_
                    rintro w6 ⟨⟨_, hb2⟩, rfl⟩
                    have F_w6 : Hid (Fb B W w6) := F2.out.bel hb2
                    have R_w6 : Hid (Rg w6 B n G) := R2.out.below hb2
                    clear hb2 F2 R2 hijd2
                    obtain ⟨x2, y2, c1, c2, f1, f2, ⟨u, c3⟩, hlB2, rs, fs⟩ := R_w6.out.swap (i := j2) (j := a) (by omega) (by omega)
                    have RS : Hid _ := rs
                    have FS : Hid _ := fs
                    clear rs fs
                    have hmo : Tryz.prog.follows .mixedOrders = true := by kernel_rfl
                    go_upto_region 21 with fail
                    go_big_region_o
                    generalize ((w6.setCell ⟨B, j2, none⟩ (.string y2)).setCell ⟨B, a, none⟩ (.string x2)).drew = w9 at RS FS ⊢
                    have F_w9 : Hid (Fb B W w9) := F_w6.out.also FS.out
                    have R_w9 : Hid (Rg w9 B n G) := RS
                    clear c1 c2 f1 f2 c3 hlB2 hmo RS FS
                    go_wp2
                    go_ret2
                    exact ⟨j2, by first | exact .inl rfl | exact .inr rfl, by omega, by omega, F_w9.out, R_w9.out⟩
              · have hijz : ¬ (i2 : Int) ≤ (j : Int) := by omega
                have hijd : decide ((i2 : Int) ≤ (j : Int)) = false := decide_eq_false hijz
                go_upto_region 13 with fail
                refine wp_region_ext wr (Below.refl _ _) (by kernel_rfl) (by kernel_rfl) ?_
                repeat (go_big_quiet_step (fail))
                refine wpQuiet_nil ?_
                rintro w3 ⟨⟨_, hb2⟩, rfl⟩
                have F_w3 : Hid (Fb B W w3) := F1.out.bel hb2
                have R_w3 : Hid (Rg w3 B n G) := R1.out.below hb2
                clear hb2 F1 R1 hijd
                try go_wp2
                obtain ⟨wq, hwq⟩ : ∃ wq, wq = w3 := ⟨_, rfl⟩
                go_loopw [13] (fun v wr => ∃ j2 : Nat, v = .int .i64 (j2 : Int) ∧ a ≤ j2 ∧ j2 ≤ j ∧ Hid (Fb B W wr) ∧ Hid (Rg wr B n G)) (fun v _ => (intOf v).toNat)
                case atStart => exact ⟨j, by first | rfl | go_num | (congr 1; omega), by omega, Nat.le_refl _, F_w3.out, R_w3.out⟩
                case round =>
                  clear F_w3 R_w3
                  obtain ⟨j2, rfl, haj2, hj2j, F2, R2⟩ := hrel
                  have hijz2 : ¬ (i2 : Int) ≤ (j2 : Int) := by omega
                  have hijd2 : decide ((i2 : Int) ≤ (j2 : Int)) = false := decide_eq_false hijz2
                  go_upto_region 15 with fail
                  refine wp_region_ext wr (Below.refl _ _) (by kernel_rfl) (by kernel_rfl) ?_
                  repeat (go_big_quiet_step (fail))
                  refine wpQuiet_nil ?_
                  rintro w6 ⟨⟨_, hb2⟩, rfl⟩
                  have F_w6 : Hid (Fb B W w6) := F2.out.bel hb2
                  have R_w6 : Hid (Rg w6 B n G) := R2.out.below hb2
                  clear hb2 F2 R2 hijd2
                  obtain ⟨x2, y2, c1, c2, f1, f2, ⟨u, c3⟩, hlB2, rs, fs⟩ := R_w6.out.swap (i := j2) (j := a) (by omega) (by omega)
                  have RS : Hid _ := rs
                  have FS : Hid _ := fs
                  clear rs fs
                  have hmo : Tryz.prog.follows .mixedOrders = true := by kernel_rfl
                  go_upto_region 21 with fail
                  go_big_region_o
                  generalize ((w6.setCell ⟨B, j2, none⟩ (.string y2)).setCell ⟨B, a, none⟩ (.string x2)).drew = w9 at RS FS ⊢
                  have F_w9 : Hid (Fb B W w9) := F_w6.out.also FS.out
                  have R_w9 : Hid (Rg w9 B n G) := RS
                  clear c1 c2 f1 f2 c3 hlB2 hmo RS FS
                  go_wp2
                  go_ret2
                  exact ⟨j2, by first | exact .inl rfl | exact .inr rfl, by omega, by omega, F_w9.out, R_w9.out⟩
        · skip
          have hijz2 : ¬ (i2 : Int) ≤ (j2 : Int) := by omega
          have hijd2 : decide ((i2 : Int) ≤ (j2 : Int)) = false := decide_eq_false hijz2
          go_upto_region 5 with fail
          refine wp_region_ext wr (Below.refl _ _) (by kernel_rfl) (by kernel_rfl) ?_
          repeat (go_big_quiet_step (fail))
          refine wpQuiet_nil ?_
          rintro w6 ⟨⟨_, hb2⟩, rfl⟩
          have F_w6 : Hid (Fb B W w6) := F2.out.bel hb2
          have R_w6 : Hid (Rg w6 B n G) := R2.out.below hb2
          clear hb2 F2 R2 hijd2
          obtain ⟨x2, y2, c1, c2, f1, f2, ⟨u, c3⟩, hlB2, rs, fs⟩ := R_w6.out.swap (i := j2) (j := a) (by omega) (by omega)
          have RS : Hid _ := rs
          have FS : Hid _ := fs
          clear rs fs
          have hmo : Tryz.prog.follows .mixedOrders = true := by kernel_rfl
          go_upto_region 8 with fail
          go_big_region_o
          generalize ((w6.setCell ⟨B, j2, none⟩ (.string y2)).setCell ⟨B, a, none⟩ (.string x2)).drew = w9 at RS FS ⊢
          have F_w9 : Hid (Fb B W w9) := F_w6.out.also FS.out
          have R_w9 : Hid (Rg w9 B n G) := RS
          clear c1 c2 f1 f2 c3 hlB2 hmo RS FS
          go_wp2
          go_ret2
          exact ⟨j2, by first | exact .inl rfl | exact .inr rfl, by omega, by omega, F_w9.out, R_w9.out⟩
    · have hijz : ¬ (i2 : Int) ≤ (bm : Int) := by omega
      have hijd : decide ((i2 : Int) ≤ (bm : Int)) = false := decide_eq_false hijz
      go_upto_region 3 with fail
      refine wp_region_ext wr (Below.refl _ _) (by kernel_rfl) (by kernel_rfl) ?_
      repeat (go_big_quiet_step (fail))
      refine wpQuiet_nil ?_
      rintro w3 ⟨⟨_, hb2⟩, rfl⟩
      have F_w3 : Hid (Fb B W w3) := F1.out.bel hb2
      have R_w3 : Hid (Rg w3 B n G) := R1.out.below hb2
      clear hb2 F1 R1 hijd
      try go_wp2
      obtain ⟨wq, hwq⟩ : ∃ wq, wq = w3 := ⟨_, rfl⟩
      go_loopw [13] (fun v wr => ∃ j2 : Nat, v = .int .i64 (j2 : Int) ∧ a ≤ j2 ∧ j2 ≤ bm ∧ Hid (Fb B W wr) ∧ Hid (Rg wr B n G)) (fun v _ => (intOf v).toNat)
      case atStart => exact ⟨bm, by first | rfl | go_num | (congr 1; omega), by omega, Nat.le_refl _, F_w3.out, R_w3.out⟩
      case round =>
        clear F_w3 R_w3
        obtain ⟨j2, rfl, haj2, hj2j, F2, R2⟩ := hrel
        have hijz2 : ¬ (i2 : Int) ≤ (j2 : Int) := by omega
        have hijd2 : decide ((i2 : Int) ≤ (j2 : Int)) = false := decide_eq_false hijz2
        go_upto_region 5 with fail
        refine wp_region_ext wr (Below.refl _ _) (by kernel_rfl) (by kernel_rfl) ?_
        repeat (go_big_quiet_step (fail))
        refine wpQuiet_nil ?_
        rintro w6 ⟨⟨_, hb2⟩, rfl⟩
        have F_w6 : Hid (Fb B W w6) := F2.out.bel hb2
        have R_w6 : Hid (Rg w6 B n G) := R2.out.below hb2
        clear hb2 F2 R2 hijd2
        obtain ⟨x2, y2, c1, c2, f1, f2, ⟨u, c3⟩, hlB2, rs, fs⟩ := R_w6.out.swap (i := j2) (j := a) (by omega) (by omega)
        have RS : Hid _ := rs
        have FS : Hid _ := fs
        clear rs fs
        have hmo : Tryz.prog.follows .mixedOrders = true := by kernel_rfl
        go_upto_region 8 with fail
        go_big_region_o
        generalize ((w6.setCell ⟨B, j2, none⟩ (.string y2)).setCell ⟨B, a, none⟩ (.string x2)).drew = w9 at RS FS ⊢
        have F_w9 : Hid (Fb B W w9) := F_w6.out.also FS.out
        have R_w9 : Hid (Rg w9 B n G) := RS
        clear c1 c2 f1 f2 c3 hlB2 hmo RS FS
        go_wp2
        go_ret2
        exact ⟨j2, by first | exact .inl rfl | exact .inr rfl, by omega, by omega, F_w9.out, R_w9.out⟩

end Go.Proofs.YtafmoceinamcdaaGreat
