/- Put together by a program out of these texts of mine: VSo1, VSo3, VSoB. -/
import Derived.Deep.Cut
import Derived.Deep.LoopGhost
import Derived.Test.YtafmoceinamcdaaGreatBunS18
import Derived.Test.YtafmoceinamcdaaGreatBunS19
import Derived.Test.YtafmoceinamcdaaGreatBunS20
import Derived.Test.YtafmoceinamcdaaGreatBunS21

namespace Go.Proofs.YtafmoceinamcdaaGreat
open Go.RowKit
set_option linter.unusedVariables false
set_option linter.unusedSimpArgs false

set_option maxRecDepth 100000 in
set_option maxHeartbeats 8000000 in
theorem so_insertion {W0 : World} {B bp : Nat} {cf : ByteArray → ByteArray → Int} {G : ByteArray → Prop} (hcmp : Hid (CmpC W0 B bp cf G)) (n cap a b : Nat) (hab : a ≤ b) (hbn : b ≤ n) (hn : n ≤ 1000000000) (W : World) (hf : Hid (Fb B W0 W)) (hr : Hid (Rg W B n G)) :
    Calls Tryz.prog 175 #[.slice (some ⟨B, 0, none⟩) n cap, .int .i64 (a : Int), .int .i64 (b : Int), cmpV bp] W fun e W' => e = .returned (.tuple #[]) ∧ Fb B W W' ∧ Rg W' B n G := by
  unfold cmpV
  have HF : Hid (Fb B W0 W) := hf
  have HR : Hid (Rg W B n G) := hr
  clear hf hr
  go_enter Tryz.func175, Tryz.ntmps175
  go_wp2
  go_loopw [8] (fun v wr => ∃ i : Nat, v = .int .i64 (i : Int) ∧ a < i ∧ i ≤ b + 1 ∧ Hid (Fb B W wr) ∧ Hid (Rg wr B n G)) (fun v _ => b + 1 - (intOf v).toNat)
  case atStart => exact ⟨a + 1, by go_num, by omega, by omega, Fx.refl _ _, HR.out⟩
  case round =>
    obtain ⟨i, rfl, hai, hib, FI, RI⟩ := hrel
    by_cases hlt : i < b
    · have hltz : (i : Int) < (b : Int) := by omega
      go_wp2
      obtain ⟨wo, hwo⟩ : ∃ wo, wo = wr := ⟨_, rfl⟩
      subst hwo
      go_loopw [9] (fun v wr => ∃ j : Nat, v = .int .i64 (j : Int) ∧ a ≤ j ∧ j ≤ i ∧ Hid (Fb B W wr) ∧ Hid (Rg wr B n G)) (fun v _ => (intOf v).toNat)
      case atStart => exact ⟨i, rfl, by omega, Nat.le_refl _, FI.out, RI.out⟩
      case round =>
        clear FI RI
        obtain ⟨j, rfl, haj, hji, FJ, RJ⟩ := hrel
        by_cases hja : a < j
        · obtain ⟨q, rfl⟩ : ∃ q, j = q + 1 := ⟨j - 1, by omega⟩
          obtain ⟨x, hx, gx⟩ := RJ.out.cell (j := q + 1) (by omega)
          obtain ⟨y, hy, gy⟩ := RJ.out.cell (j := q) (by omega)
          have GX : Hid (G x) := gx
          have GY : Hid (G y) := gy
          have hlB := RJ.out.lt
          have a0 := fun V : Ext wr => V.cell (p := ⟨B, q + 1, none⟩) hlB hx
          have a1 := fun V : Ext wr => V.cell (p := ⟨B, q, none⟩) hlB hy
          have HC : Hid _ := fun V (hV : Below wr.heap.size wr V) => hcmp.out V x y ((HF.out.also FJ.out).bel hV) gx gy
          have e1 : ((q : Int) + 1).toNat = q + 1 := by omega
          have e2 : ((q : Int)).toNat = q := by omega
          have e3 : (0 : Int) ≤ (q : Int) + 1 := by omega
          have e4 : (q : Int) + 1 < (n : Int) := by omega
          have e5 : (q : Int) < (n : Int) := by omega
          have e6 : IntKind.i64.wrap ((q : Int)) = (q : Int) := by rw [IntKind.wrap_i64]; omega
          have e7 : decide ((q : Int) + 1 > (a : Int)) = true := decide_eq_true (by omega)
          have e8 : (a : Int) < (q : Int) + 1 := by omega
          clear gx gy hx hy
          have hcc : ((q + 1 : Nat) : Int) = (q : Int) + 1 := by omega
          rw [hcc]
          clear hcc
          go_upto_region 4 with fail
          refine wp_region_ext wr (Below.refl _ _) (by kernel_rfl) (by kernel_rfl) ?_
          repeat (go_big_quiet_step (first
            | (go_at_call 122; exact Ext.call HC.out _)))
          refine wpQuiet_nil ?_
          rintro w2 ⟨⟨_, hb2⟩, rfl⟩
          have F2 : Hid (Fb B W w2) := FJ.out.bel hb2
          have R2 : Hid (Rg w2 B n G) := RJ.out.below hb2
          clear a0 a1 hb2 HC hlB FJ RJ
          go_wp2
          case roundEnd =>
            exact ⟨⟨i + 1, by go_num, by omega, by omega, F2, R2⟩, by simp [intOf]; omega⟩
          obtain ⟨x2, y2, c1, c2, f1, f2, ⟨u, c3⟩, hlB2, rs, fs⟩ := R2.out.swap (i := q + 1) (j := q) (by omega) (by omega)
          have RS : Hid _ := rs
          have FS : Hid _ := fs
          clear rs fs R2
          have hmo : Tryz.prog.follows .mixedOrders = true := by kernel_rfl
          go_big_region_o
          generalize ((w2.setCell ⟨B, q + 1, none⟩ (.string y2)).setCell ⟨B, q, none⟩ (.string x2)).drew = w3 at RS FS ⊢
          clear c1 c2 f1 f2 c3 hlB2 hmo
          go_wp2
          exact ⟨⟨q, rfl, by omega, by omega, F2.out.also FS.out, RS.out⟩, by simp [intOf]⟩
        · have hjj : a = j := by omega
          subst hjj
          have e9 : decide ((a : Int) > (a : Int)) = false := decide_eq_false (by omega)
          go_upto_region 4 with fail
          refine wp_region_ext wr (Below.refl _ _) (by kernel_rfl) (by kernel_rfl) ?_
          repeat (go_big_quiet_step (fail))
          refine wpQuiet_nil ?_
          rintro w2 ⟨⟨_, hb2⟩, rfl⟩
          have F2 : Hid (Fb B W w2) := FJ.out.bel hb2
          have R2 : Hid (Rg w2 B n G) := RJ.out.below hb2
          clear hb2 FJ RJ
          go_wp2
          exact ⟨⟨i + 1, by go_num, by omega, by omega, F2, R2⟩, by simp [intOf]; omega⟩
    · go_wp2
      go_end0
      exact ⟨rfl, FI.out, RI.out⟩

set_option maxRecDepth 100000 in
set_option maxHeartbeats 8000000 in
theorem so_pivot {W0 : World} {B bp : Nat} {cf : ByteArray → ByteArray → Int} {G : ByteArray → Prop} (hcmp : Hid (CmpC W0 B bp cf G)) (n cap a b : Nat) (hab : a + 12 < b) (hbn : b ≤ n) (hn : n ≤ 1000000000) (W : World) (hf : Hid (Fb B W0 W)) (hr : Hid (Rg W B n G)) :
    Calls Tryz.prog 178 #[.slice (some ⟨B, 0, none⟩) n cap, .int .i64 (a : Int), .int .i64 (b : Int), cmpV bp] W fun e W' => ∃ (r : Nat) (h : Int), e = .returned (.tuple #[.int .i64 (r : Int), .int .i64 h]) ∧ a ≤ r ∧ r < b ∧ Below W.heap.size W W' ∧ Rg W' B n G := by
  have HF : Hid (Fb B W0 W) := hf
  have HR : Hid (Rg W B n G) := hr
  obtain ⟨l, hl⟩ : ∃ l, b = a + l := ⟨b - a, by omega⟩
  obtain ⟨q, hq⟩ : ∃ q, q = l / 4 := ⟨_, rfl⟩
  obtain ⟨w1, hw1⟩ : ∃ w1, W.alloc (.cells #[.int .i64 0] 3) = w1 := ⟨_, rfl⟩
  have hb1 : Below W.heap.size W w1 := by rw [← hw1]; exact (Below.refl _ _).alloc (Nat.le_refl _) _
  have og1 : Ob w1 W.heap.size #[.int .i64 0] 3 := by rw [← hw1]; exact Ob.new _ _ _
  have HW1 : Hid _ := hw1
  have HB1 : Hid _ := hb1
  have OG1 : Hid _ := og1
  have HG0 : Hid (W0.heap.size ≤ W.heap.size) := HF.out.size
  have F1 : Hid (Fb B W0 w1) := HF.out.bel hb1
  have R1 : Hid (Rg w1 B n G) := HR.out.below hb1
  have e0 : IntKind.i64.wrap ((b : Int) - (a : Int)) = (l : Int) := by rw [IntKind.wrap_i64]; omega
  have e1 : (l : Int).tdiv 4 = (q : Int) := by rw [Int.tdiv_eq_ediv_of_nonneg (by omega)]; omega
  have e8 : (8 : Int) ≤ (l : Int) := by omega
  have hm1 : ((a + q : Nat) : Int) = (a : Int) + (q : Int) := by omega
  have hm2 : ((a + q * 2 : Nat) : Int) = (a : Int) + (q : Int) * 2 := by omega
  have hm3 : ((a + q * 3 : Nat) : Int) = (a : Int) + (q : Int) * 3 := by omega
  have HM : Hid (((a + q : Nat) : Int) = (a : Int) + (q : Int) ∧ ((a + q * 2 : Nat) : Int) = (a : Int) + (q : Int) * 2 ∧ ((a + q * 3 : Nat) : Int) = (a : Int) + (q : Int) * 3) := ⟨hm1, hm2, hm3⟩
  have HQL : Hid (b = a + l ∧ q = l / 4) := ⟨hl, hq⟩
  unfold cmpV
  clear hf hr hw1 hb1 og1 hl hq hm1 hm2 hm3
  go_enter Tryz.func178, Tryz.ntmps178
  go_upto_region 3 with fail
  rw [HW1.out]
  clear HW1
  go_upto_region 6 with fail
  simp only [wr64 (q : Int) (by have := HQL.out; omega), wr64 ((q : Int) * 2) (by have := HQL.out; omega), wr64 ((q : Int) * 3) (by have := HQL.out; omega), wr64 ((a : Int) + (q : Int)) (by have := HQL.out; omega), wr64 ((a : Int) + (q : Int) * 2) (by have := HQL.out; omega), wr64 ((a : Int) + (q : Int) * 3) (by have := HQL.out; omega)]
  clear e0 e1
  by_cases h50 : 50 ≤ l
  · have h50z : (50 : Int) ≤ (l : Int) := by omega
    have Q1 : Hid _ := so_medianAdj hcmp n cap (a + q) (by have := HQL.out; omega) (by have := HQL.out; omega) hn w1 W.heap.size 0 HG0 F1 R1 OG1
    unfold cmpV at Q1
    rw [HM.out.1] at Q1
    go_wp2_with fail
    refine Calls.mono Q1.out ?_
    rintro e w2 ⟨i, rfl, hi, hc2⟩
    have HI : Hid (a ≤ i ∧ i < b) := by have := HQL.out; show _ ∧ _; omega
    obtain ⟨k2, g2⟩ := hc2.2
    have C2 : Hid (Ct w1 w2 W.heap.size) := hc2
    have Q2 : Hid _ := so_medianAdj hcmp n cap (a + q * 2) (by have := HQL.out; omega) (by have := HQL.out; omega) hn w2 W.heap.size k2 HG0 (show Hid _ from F1.out.ct HG0.out hc2) (show Hid _ from R1.out.ct OG1.out hc2) (show Hid _ from g2)
    unfold cmpV at Q2
    rw [HM.out.2.1] at Q2
    clear hi hc2 g2 Q1
    go_wp2_with fail
    refine Calls.mono Q2.out ?_
    rintro e w3 ⟨j, rfl, hj, hc3⟩
    have HJ : Hid (a ≤ j ∧ j < b) := by have := HQL.out; show _ ∧ _; omega
    obtain ⟨k3, g3⟩ := hc3.2
    have C3 : Hid (Ct w1 w3 W.heap.size) := C2.out.also hc3
    have Q3 : Hid _ := so_medianAdj hcmp n cap (a + q * 3) (by have := HQL.out; omega) (by have := HQL.out; omega) hn w3 W.heap.size k3 HG0 (show Hid _ from F1.out.ct HG0.out C3.out) (show Hid _ from R1.out.ct OG1.out C3.out) (show Hid _ from g3)
    unfold cmpV at Q3
    rw [HM.out.2.2] at Q3
    clear hj hc3 g3 Q2 C2
    go_wp2_with fail
    refine Calls.mono Q3.out ?_
    rintro e w4 ⟨m, rfl, hm, hc4⟩
    have HMm : Hid (a ≤ m ∧ m < b) := by have := HQL.out; show _ ∧ _; omega
    obtain ⟨k4, g4⟩ := hc4.2
    have C4 : Hid (Ct w1 w4 W.heap.size) := C3.out.also hc4
    have Q4 : Hid _ := so_median hcmp n cap i j m (by have := HI.out; omega) (by have := HJ.out; omega) (by have := HMm.out; omega) w4 W.heap.size k4 HG0 (show Hid _ from F1.out.ct HG0.out C4.out) (show Hid _ from R1.out.ct OG1.out C4.out) (show Hid _ from g4)
    unfold cmpV at Q4
    clear hm hc4 g4 Q3 C3
    go_wp2_with fail
    refine Calls.mono Q4.out ?_
    rintro e w5 ⟨r, rfl, hr5, hc5⟩
    have HR5 : Hid (a ≤ r ∧ r < b) := by have h1 := HI.out; have h2 := HJ.out; have h3 := HMm.out; show _ ∧ _; omega
    obtain ⟨k5, g5⟩ := hc5.2
    have C5 : Hid (Ct w1 w5 W.heap.size) := C4.out.also hc5
    obtain ⟨c1, c2, c3⟩ := ob1 g5
    have HE : Hid (Below W.heap.size W w5 ∧ Rg w5 B n G) := ⟨HB1.out.trans (C5.out.1.to_below HB1.out.size (fun b e => by rw [e]; exact Nat.le_refl _)), R1.out.ct OG1.out C5.out⟩
    clear hr5 hc5 g5 Q4 C4 C5
    go_wp2
    all_goals (go_ret2; exact ⟨r, _, rfl, HR5.out.1, HR5.out.2, HE.out.1, HE.out.2⟩)
  · have h50z : ¬ (50 : Int) ≤ (l : Int) := by omega
    have Q4 : Hid _ := so_median hcmp n cap (a + q) (a + q * 2) (a + q * 3) (by have := HQL.out; omega) (by have := HQL.out; omega) (by have := HQL.out; omega) w1 W.heap.size 0 HG0 F1 R1 OG1
    unfold cmpV at Q4
    rw [HM.out.1, HM.out.2.1, HM.out.2.2] at Q4
    go_wp2_with fail
    refine Calls.mono Q4.out ?_
    rintro e w5 ⟨r, rfl, hr5, hc5⟩
    have HR5 : Hid (a ≤ r ∧ r < b) := by have := HQL.out; show _ ∧ _; omega
    obtain ⟨k5, g5⟩ := hc5.2
    have C5 : Hid (Ct w1 w5 W.heap.size) := hc5
    obtain ⟨c1, c2, c3⟩ := ob1 g5
    have HE : Hid (Below W.heap.size W w5 ∧ Rg w5 B n G) := ⟨HB1.out.trans (C5.out.1.to_below HB1.out.size (fun b e => by rw [e]; exact Nat.le_refl _)), R1.out.ct OG1.out C5.out⟩
    clear hr5 hc5 g5 Q4 C5
    go_wp2
    all_goals (go_ret2; exact ⟨r, _, rfl, HR5.out.1, HR5.out.2, HE.out.1, HE.out.2⟩)

set_option maxRecDepth 100000 in
set_option maxHeartbeats 16000000 in
theorem so_pdq {W0 : World} {B bp : Nat} {cf : ByteArray → ByteArray → Int} {G : ByteArray → Prop} (hcmp : Hid (CmpC W0 B bp cf G)) (n cap : Nat) (hn : n ≤ 1000000000) : ∀ (d a b L : Nat), b - a < d → a ≤ b → b ≤ n → L ≤ 1000000000 → ∀ (W : World) (hf : Hid (Fb B W0 W)) (hr : Hid (Rg W B n G)),
    Calls Tryz.prog 151 #[.slice (some ⟨B, 0, none⟩) n cap, .int .i64 (a : Int), .int .i64 (b : Int), .int .i64 (L : Int), cmpV bp] W fun e W' => e = .returned (.tuple #[]) ∧ Fb B W W' ∧ Rg W' B n G := by
  intro d
  induction d with
  | zero => intro _ _ _ h; exact absurd h (Nat.not_lt_zero _)
  | succ d ih =>
    intro a b L hd hab hbn hL W hf hr
    have HF : Hid (Fb B W0 W) := hf
    have HR : Hid (Rg W B n G) := hr
    have F0 : Hid (Fb B W W) := Fx.refl _ _
    have IH : Hid _ := ih
    clear ih
    have hd2 : b - a ≤ d := by omega
    unfold cmpV at IH ⊢
    clear hf hr hd
    go_enter Tryz.func151, Tryz.ntmps151
    go_wp2
    go_loopg [1, 2, 3, 10, 11] (b - a) (fun kx v1 v2 v3 v10 v11 wr => ∃ (a1 b1 L1 : Nat) (s t : Bool), v1 = .int .i64 (a1 : Int) ∧ v2 = .int .i64 (b1 : Int) ∧ v3 = .int .i64 (L1 : Int) ∧ v10 = .bool s ∧ v11 = .bool t ∧ a1 ≤ b1 ∧ b1 ≤ n ∧ b1 - a1 ≤ kx ∧ kx ≤ d ∧ L1 ≤ 1000000000 ∧ Hid (Fb B W wr) ∧ Hid (Rg wr B n G))
    case atStart => exact ⟨a, b, L, true, true, rfl, rfl, rfl, rfl, rfl, hab, hbn, Nat.le_refl _, hd2, hL, F0, HR⟩
    case round =>
      clear F0 hab hbn hd2 hL
      obtain ⟨a, b, L, s, t, rfl, rfl, rfl, rfl, rfl, hab, hbn, hkx, hkN, hL, F_wr, R_wr⟩ := hrel
      by_cases hs : b ≤ a + 12
      · have hsz : (b : Int) - (a : Int) ≤ 12 := by omega
        have QI : Hid _ := so_insertion hcmp n cap a b hab hbn hn wr (show Hid _ from HF.out.also F_wr.out) R_wr
        unfold cmpV at QI
        go_wp2_with fail
        refine Calls.mono QI.out ?_
        rintro e w2 ⟨rfl, f9, r9⟩
        have F_w2 : Hid (Fb B W w2) := F_wr.out.also f9
        have R_w2 : Hid (Rg w2 B n G) := r9
        clear f9 r9 F_wr R_wr
        clear QI
        go_wp2_with fail
        (try simp only [Exit.inBlock, Exit.then]); refine bodyPost_ret (results_none rfl _ _ _) rfl ?_
        exact ⟨rfl, F_w2.out, R_w2.out⟩
      · have hsz : ¬ (b : Int) - (a : Int) ≤ 12 := by omega
        by_cases hL0 : L = 0
        · have hLz : (L : Int) = 0 := by omega
          have QH : Hid _ := so_heap hcmp n cap a b (by omega) hbn hn wr (show Hid _ from HF.out.also F_wr.out) R_wr
          unfold cmpV at QH
          go_wp2_with fail
          refine Calls.mono QH.out ?_
          rintro e w2 ⟨rfl, f9, r9⟩
          have F_w2 : Hid (Fb B W w2) := F_wr.out.also f9
          have R_w2 : Hid (Rg w2 B n G) := r9
          clear f9 r9 F_wr R_wr
          clear QH
          go_wp2_with fail
          (try simp only [Exit.inBlock, Exit.then]); refine bodyPost_ret (results_none rfl _ _ _) rfl ?_
          exact ⟨rfl, F_w2.out, R_w2.out⟩
        · have hLz : ¬ (L : Int) = 0 := by omega
          go_upto_if 39 with fail
          go_cut [3] from 21 (fun s3 wx => (∃ L2 : Nat, s3 = .int .i64 (L2 : Int) ∧ L2 ≤ 1000000000) ∧ Hid (Fb B W wx) ∧ Hid (Rg wx B n G))
          case first =>
            rcases s with _ | _
            · have QB : Hid _ := so_break n cap a b (bp := bp) (by omega) hbn hn wr R_wr
              unfold cmpV at QB
              go_wp2_with fail
              refine Calls.mono QB.out ?_
              rintro e w2 ⟨rfl, f9, r9⟩
              have F_w2 : Hid (Fb B W w2) := F_wr.out.also f9
              have R_w2 : Hid (Rg w2 B n G) := r9
              clear f9 r9 F_wr R_wr
              clear QB
              go_wp2_with fail
              go_meet
              case rel => exact ⟨⟨L - 1, by congr 1; omega, by omega⟩, F_w2, R_w2⟩
            · go_wp2_with fail
              go_meet
              case rel => exact ⟨⟨L, rfl, hL⟩, F_wr, R_wr⟩
          case rest =>
            clear F_wr R_wr hL
            obtain ⟨⟨L, rfl, hL⟩, F_w2, R_w2⟩ := hcut
            have QP : Hid _ := so_pivot hcmp n cap a b (by omega) hbn hn wc (show Hid _ from HF.out.also F_w2.out) R_w2
            unfold cmpV at QP
            go_upto_if 56 with fail
            refine Calls.mono QP.out ?_
            rintro e w3 ⟨p, h, rfl, hap, hpb, f9, r9⟩
            have F_w3 : Hid (Fb B W w3) := F_w2.out.bel f9
            have R_w3 : Hid (Rg w3 B n G) := r9
            clear f9 r9 F_w2 R_w2
            clear QP
            go_upto_if 56 with fail
            go_cut [13, 14] from 21 (fun s13 s14 wx => (∃ (p : Nat) (h : Int), s13 = .int .i64 (p : Int) ∧ s14 = .int .i64 h ∧ a ≤ p ∧ p < b) ∧ Hid (Fb B W wx) ∧ Hid (Rg wx B n G))
            case first =>
              by_cases hh : h = 2
              · subst hh
                have QR : Hid _ := so_reverse n cap a b (bp := bp) hab hbn hn w3 R_w3
                unfold cmpV at QR
                go_wp2_with fail
                refine Calls.mono QR.out ?_
                rintro e w4 ⟨rfl, f9, r9⟩
                have F_w4 : Hid (Fb B W w4) := F_w3.out.also f9
                have R_w4 : Hid (Rg w4 B n G) := r9
                clear f9 r9 F_w3 R_w3
                clear QR
                go_wp2_with fail
                go_meet
                case rel => exact ⟨⟨b - 1 - (p - a), 1, by congr 1; omega, rfl, by omega, by omega⟩, F_w4, R_w4⟩
              · go_wp2_with fail
                go_meet
                case rel => exact ⟨⟨p, h, rfl, rfl, hap, hpb⟩, F_w3, R_w3⟩
            case rest =>
              clear hap hpb F_w3 R_w3 p h
              obtain ⟨⟨p, h, rfl, rfl, hap, hpb⟩, F_w4, R_w4⟩ := hcut
              go_upto_region 15 with fail
              go_cut [14, 75] from 21 (fun s14 s75 wx => s14 = .int .i64 h ∧ (∃ c, s75 = .bool c) ∧ wx = wc)
              case first =>
                rcases s with _ | _ <;> rcases t with _ | _ <;> by_cases hh3 : h = 1 <;>
                  (go_wp2_with fail
                   go_meet
                   exact ⟨rfl, ⟨_, rfl⟩, rfl⟩)
              case rest =>
                obtain ⟨rfl, ⟨c, rfl⟩, rfl⟩ := hcut
                go_upto_if 75 with fail
                go_cut [] from 21 (fun wx => Hid (Fb B W wx) ∧ Hid (Rg wx B n G))
                case first =>
                  cases c
                  · go_wp2_with fail
                    go_meet
                    case rel => exact ⟨F_w4, R_w4⟩
                  · have QS : Hid _ := so_partial hcmp n cap a b (by omega) hbn hn wc (show Hid _ from HF.out.also F_w4.out) R_w4
                    unfold cmpV at QS
                    go_wp2_with fail
                    refine Calls.mono QS.out ?_
                    rintro e w5 ⟨hrt, f9, r9⟩
                    have F_w5 : Hid (Fb B W w5) := F_w4.out.also f9
                    have R_w5 : Hid (Rg w5 B n G) := r9
                    clear f9 r9 F_w4 R_w4
                    clear QS
                    rcases hrt with rfl | rfl
                    · go_wp2_with fail
                      (try simp only [Exit.inBlock, Exit.then]); refine bodyPost_ret (results_none rfl _ _ _) rfl ?_
                      exact ⟨rfl, F_w5.out, R_w5.out⟩
                    · go_wp2_with fail
                      go_meet
                      case rel => exact ⟨F_w5, R_w5⟩
                case rest =>
                  clear F_w4 R_w4
                  obtain ⟨F_w5, R_w5⟩ := hcut
                  by_cases ha0 : 0 < a
                  · obtain ⟨q, rfl⟩ : ∃ q, a = q + 1 := ⟨a - 1, by omega⟩
                    have hqc : ((q + 1 : Nat) : Int) = (q : Int) + 1 := by omega
                    have hqz : ((q + 1 : Nat) : Int) - 1 = (q : Int) := by omega
                    have haz : (0 : Int) < ((q + 1 : Nat) : Int) := by omega
                    have haz2 : (0 : Int) < (q : Int) + 1 := by omega
                    have had : decide ((0 : Int) < ((q + 1 : Nat) : Int)) = true := decide_eq_true haz
                    have had2 : decide ((0 : Int) < (q : Int) + 1) = true := decide_eq_true haz2
                    have e5 : (q : Int) < (n : Int) := by omega
                    have e6 : (p : Int) < (n : Int) := by omega
                    obtain ⟨x0, hx0, gx0⟩ := R_w5.out.cell (j := q) (by omega)
                    obtain ⟨y0, hy0, gy0⟩ := R_w5.out.cell (j := p) (by omega)
                    have hlB0 := R_w5.out.lt
                    have b0 := fun V : Ext wc => V.cell (p := ⟨B, q, none⟩) hlB0 hx0
                    have b1 := fun V : Ext wc => V.cell (p := ⟨B, p, none⟩) hlB0 hy0
                    have HC0 : Hid _ := fun V (hV : Below wc.heap.size wc V) => hcmp.out V x0 y0 ((HF.out.also F_w5.out).bel hV) gx0 gy0
                    clear gx0 gy0 hx0 hy0
                    go_upto_region 17 with fail
                    refine wp_region_ext wc (Below.refl _ _) (by kernel_rfl) (by kernel_rfl) ?_
                    repeat (go_big_quiet_step (first
                      | (go_at_call 122; exact Ext.call HC0.out _)))
                    refine wpQuiet_nil ?_
                    rintro w6 ⟨⟨_, hb2⟩, rfl⟩
                    have F_w6 : Hid (Fb B W w6) := F_w5.out.bel hb2
                    have R_w6 : Hid (Rg w6 B n G) := R_w5.out.below hb2
                    clear b0 b1 hb2 HC0 hlB0 F_w5 R_w5 had had2
                    have QE : Hid _ := so_equal hcmp n cap (q + 1) b p hap hpb hbn hn w6 (show Hid _ from HF.out.also F_w6.out) R_w6
                    unfold cmpV at QE
                    have QT : Hid _ := so_part hcmp n cap (q + 1) b p hap hpb (by omega) hbn hn w6 (show Hid _ from HF.out.also F_w6.out) R_w6
                    unfold cmpV at QT
                    simp only [hqc] at QE QT
                    go_wp2_with fail
                    · refine Calls.mono QE.out ?_
                      rintro e w7 ⟨r, rfl, har, hrb, f9, r9⟩
                      have F_w7 : Hid (Fb B W w7) := F_w6.out.also f9
                      have R_w7 : Hid (Rg w7 B n G) := r9
                      clear QE QT f9 r9 F_w6 R_w6
                      go_wp2_with fail
                      go_roundg (b - r)
                      case measure => omega
                      case rel => exact ⟨r, b, L, s, t, rfl, rfl, rfl, rfl, rfl, hrb, hbn, Nat.le_refl _, by omega, hL, F_w7, R_w7⟩
                    · refine Calls.mono QT.out ?_
                      rintro e w7 ⟨m, t2, rfl, ham, hmb, f9, r9⟩
                      have F_w7 : Hid (Fb B W w7) := F_w6.out.also f9
                      have R_w7 : Hid (Rg w7 B n G) := r9
                      clear f9 r9 F_w6 R_w6 QT QE
                      go_upto_if 125 with fail
                      have hcc : ((m + 1 : Nat) : Int) = (m : Int) + 1 := by omega
                      by_cases hlr : (m : Int) - ((q : Int) + 1) < (b : Int) - (m : Int)
                      · have QX : Hid _ := IH.out (q + 1) m L (by omega) (by omega) (by omega) hL w7 (show Hid _ from HF.out.also F_w7.out) R_w7
                        unfold cmpV at QX
                        simp only [hqc] at QX
                        go_wp2_with fail
                        refine Calls.mono QX.out ?_
                        rintro e w8 ⟨rfl, f9, r9⟩
                        have F_w8 : Hid (Fb B W w8) := F_w7.out.also f9
                        have R_w8 : Hid (Rg w8 B n G) := r9
                        clear f9 r9 F_w7 R_w7
                        clear QX
                        go_wp2_with fail
                        go_roundg (b - (m + 1))
                        case measure => omega
                        case rel => exact ⟨m + 1, b, L, _, t2, by simp, rfl, rfl, rfl, rfl, by omega, hbn, Nat.le_refl _, by omega, hL, F_w8, R_w8⟩
                      · have QX : Hid _ := IH.out (m + 1) b L (by omega) (by omega) hbn hL w7 (show Hid _ from HF.out.also F_w7.out) R_w7
                        unfold cmpV at QX
                        simp only [hcc] at QX
                        go_wp2_with fail
                        refine Calls.mono QX.out ?_
                        rintro e w8 ⟨rfl, f9, r9⟩
                        have F_w8 : Hid (Fb B W w8) := F_w7.out.also f9
                        have R_w8 : Hid (Rg w8 B n G) := r9
                        clear f9 r9 F_w7 R_w7
                        clear QX
                        go_wp2_with fail
                        go_roundg (m - (q + 1))
                        case measure => omega
                        case rel => exact ⟨(q + 1), m, L, _, t2, congrArg (Value.int .i64) hqc.symm, rfl, rfl, rfl, rfl, ham, by omega, Nat.le_refl _, by omega, hL, F_w8, R_w8⟩
                  · have haz : ¬ (0 : Int) < (a : Int) := by omega
                    have had : decide ((0 : Int) < (a : Int)) = false := decide_eq_false haz
                    go_upto_region 17 with fail
                    refine wp_region_ext wc (Below.refl _ _) (by kernel_rfl) (by kernel_rfl) ?_
                    repeat (go_big_quiet_step (fail))
                    refine wpQuiet_nil ?_
                    rintro w6 ⟨⟨_, hb2⟩, rfl⟩
                    have F_w6 : Hid (Fb B W w6) := F_w5.out.bel hb2
                    have R_w6 : Hid (Rg w6 B n G) := R_w5.out.below hb2
                    clear hb2 F_w5 R_w5 had
                    have QE : Hid _ := so_equal hcmp n cap a b p hap hpb hbn hn w6 (show Hid _ from HF.out.also F_w6.out) R_w6
                    unfold cmpV at QE
                    have QT : Hid _ := so_part hcmp n cap a b p hap hpb (by omega) hbn hn w6 (show Hid _ from HF.out.also F_w6.out) R_w6
                    unfold cmpV at QT
                    go_wp2_with fail
                    refine Calls.mono QT.out ?_
                    rintro e w7 ⟨m, t2, rfl, ham, hmb, f9, r9⟩
                    have F_w7 : Hid (Fb B W w7) := F_w6.out.also f9
                    have R_w7 : Hid (Rg w7 B n G) := r9
                    clear f9 r9 F_w6 R_w6 QT QE
                    go_upto_if 125 with fail
                    have hcc : ((m + 1 : Nat) : Int) = (m : Int) + 1 := by omega
                    by_cases hlr : (m : Int) - (a : Int) < (b : Int) - (m : Int)
                    · have QX : Hid _ := IH.out a m L (by omega) (by omega) (by omega) hL w7 (show Hid _ from HF.out.also F_w7.out) R_w7
                      unfold cmpV at QX
                      go_wp2_with fail
                      refine Calls.mono QX.out ?_
                      rintro e w8 ⟨rfl, f9, r9⟩
                      have F_w8 : Hid (Fb B W w8) := F_w7.out.also f9
                      have R_w8 : Hid (Rg w8 B n G) := r9
                      clear f9 r9 F_w7 R_w7
                      clear QX
                      go_wp2_with fail
                      go_roundg (b - (m + 1))
                      case measure => omega
                      case rel => exact ⟨m + 1, b, L, _, t2, by simp, rfl, rfl, rfl, rfl, by omega, hbn, Nat.le_refl _, by omega, hL, F_w8, R_w8⟩
                    · have QX : Hid _ := IH.out (m + 1) b L (by omega) (by omega) hbn hL w7 (show Hid _ from HF.out.also F_w7.out) R_w7
                      unfold cmpV at QX
                      simp only [hcc] at QX
                      go_wp2_with fail
                      refine Calls.mono QX.out ?_
                      rintro e w8 ⟨rfl, f9, r9⟩
                      have F_w8 : Hid (Fb B W w8) := F_w7.out.also f9
                      have R_w8 : Hid (Rg w8 B n G) := r9
                      clear f9 r9 F_w7 R_w7
                      clear QX
                      go_wp2_with fail
                      go_roundg (m - a)
                      case measure => omega
                      case rel => exact ⟨a, m, L, _, t2, rfl, rfl, rfl, rfl, rfl, ham, by omega, Nat.le_refl _, by omega, hL, F_w8, R_w8⟩

end Go.Proofs.YtafmoceinamcdaaGreat
