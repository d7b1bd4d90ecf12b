/- Put together by a program out of these texts of mine: VSo6, VSo7. -/
import Derived.Test.YtafmoceinamcdaaGreatBunS18

namespace Go.Proofs.YtafmoceinamcdaaGreat
open Go.RowKit
set_option linter.unusedVariables false
set_option linter.unusedSimpArgs false

set_option maxRecDepth 100000 in
set_option maxHeartbeats 8000000 in
theorem so_sift {W0 : World} {B bp : Nat} {cf : ByteArray → ByteArray → Int} {G : ByteArray → Prop} (hcmp : Hid (CmpC W0 B bp cf G)) (n cap lo hi first : Nat) (hlo : lo ≤ n) (hfn : first + hi ≤ n) (hn : n ≤ 1000000000) (W : World) (hf : Hid (Fb B W0 W)) (hr : Hid (Rg W B n G)) :
    Calls Tryz.prog 192 #[.slice (some ⟨B, 0, none⟩) n cap, .int .i64 (lo : Int), .int .i64 (hi : Int), .int .i64 (first : Int), cmpV bp] W fun e W' => e = .returned (.tuple #[]) ∧ Fb B W W' ∧ Rg W' B n G := by
  have HF : Hid (Fb B W0 W) := hf
  have HR : Hid (Rg W B n G) := hr
  have HFN : Hid (first + hi ≤ n ∧ n ≤ 1000000000) := ⟨hfn, hn⟩
  unfold cmpV
  clear hf hr
  go_enter Tryz.func192, Tryz.ntmps192
  go_wp2
  go_loopw [10] (fun v wr => ∃ r : Nat, v = .int .i64 (r : Int) ∧ r ≤ n ∧ Hid (Fb B W wr) ∧ Hid (Rg wr B n G)) (fun v _ => n - (intOf v).toNat)
  case atStart => exact ⟨lo, rfl, hlo, Fx.refl _ _, HR.out⟩
  case round =>
    obtain ⟨r, rfl, hrn, FI, RI⟩ := hrel
    obtain ⟨ch, hch⟩ : ∃ ch, ch = 2 * r + 1 := ⟨_, rfl⟩
    have hcz : (2 * (r : Int) + 1) = (ch : Int) := by omega
    have HCH : Hid (ch = 2 * r + 1) := hch
    clear hch
    go_upto_region 2 with fail
    try rw [hcz]
    clear hcz
    by_cases hbr : hi ≤ ch
    · have hbz : (hi : Int) ≤ (ch : Int) := by omega
      go_wp2
      go_end0
      exact ⟨rfl, FI.out, RI.out⟩
    · have hbz : ¬ (hi : Int) ≤ (ch : Int) := by omega
      have HCC : Hid (ch < hi ∧ r < ch) := by have := HCH.out; show _ ∧ _; omega
      by_cases h2 : ch + 1 < hi
      · have h2z : (ch : Int) + 1 < (hi : Int) := by omega
        obtain ⟨x0, hx0, gx0⟩ := RI.out.cell (j := first + ch) (by omega)
        obtain ⟨y0, hy0, gy0⟩ := RI.out.cell (j := first + ch + 1) (by omega)
        have hlB0 := RI.out.lt
        have b0 := fun V : Ext wr => V.cell (p := ⟨B, first + ch, none⟩) hlB0 hx0
        have b1 := fun V : Ext wr => V.cell (p := ⟨B, first + ch + 1, none⟩) hlB0 hy0
        have HC0 : Hid _ := fun V (hV : Below wr.heap.size wr V) => hcmp.out V x0 y0 ((HF.out.also FI.out).bel hV) gx0 gy0
        have e1 : ((first : Int) + (ch : Int)).toNat = first + ch := by omega
        have e2 : ((first : Int) + (ch : Int) + 1).toNat = first + ch + 1 := by omega
        have e3 : (0 : Int) ≤ (first : Int) + (ch : Int) := by omega
        have e4 : (0 : Int) ≤ (first : Int) + (ch : Int) + 1 := by omega
        have e5 : (first : Int) + (ch : Int) < (n : Int) := by omega
        have e6 : (first : Int) + (ch : Int) + 1 < (n : Int) := by omega
        have e7 : decide ((ch : Int) + 1 < (hi : Int)) = true := decide_eq_true h2z
        clear gx0 gy0 hx0 hy0
        go_upto_region 3 with fail
        refine wp_region_ext wr (Below.refl _ _) (by kernel_rfl) (by kernel_rfl) ?_
        repeat (go_big_quiet_step (first
          | (go_at_call 122; exact Ext.call HC0.out _)))
        refine wpQuiet_nil ?_
        rintro w2 ⟨⟨_, hb2⟩, rfl⟩
        have F2 : Hid (Fb B W w2) := FI.out.bel hb2
        have R2 : Hid (Rg w2 B n G) := RI.out.below hb2
        clear b0 b1 hb2 HC0 hlB0 FI RI e1 e2 e3 e4 e5 e6 e7
        by_cases hq : cf x0 y0 < 0
        · obtain ⟨cc, hcc⟩ : ∃ cc, cc = ch + 1 := ⟨_, rfl⟩
          have hcz : ((ch : Int) + 1) = (cc : Int) := by omega
          have HCC2 : Hid (cc < hi ∧ r < cc) := by have := HCC.out; show _ ∧ _; omega
          clear hcc
          go_upto_region 5 with fail
          try rw [hcz]
          clear hcz HCC h2 h2z hbz hbr hq
          have HCC : Hid (cc < hi ∧ r < cc) := HCC2.out
          obtain ⟨x, hx, gx⟩ := R2.out.cell (j := first + r) (by have h1 := HCC.out; have h2 := HFN.out; omega)
          obtain ⟨y, hy, gy⟩ := R2.out.cell (j := first + cc) (by have h1 := HCC.out; have h2 := HFN.out; omega)
          have hlB := R2.out.lt
          have a0 := fun V : Ext w2 => V.cell (p := ⟨B, first + r, none⟩) hlB hx
          have a1 := fun V : Ext w2 => V.cell (p := ⟨B, first + cc, none⟩) hlB hy
          have HC : Hid _ := fun V (hV : Below w2.heap.size w2 V) => hcmp.out V x y ((HF.out.also F2.out).bel hV) gx gy
          have e1 : ((first : Int) + (r : Int)).toNat = first + r := by omega
          have e2 : ((first : Int) + (cc : Int)).toNat = first + cc := by omega
          have e3 : (0 : Int) ≤ (first : Int) + (r : Int) := by omega
          have e4 : (0 : Int) ≤ (first : Int) + (cc : Int) := by omega
          have e5 : (first : Int) + (r : Int) < (n : Int) := by have h1 := HCC.out; have h2 := HFN.out; omega
          have e6 : (first : Int) + (cc : Int) < (n : Int) := by have h1 := HCC.out; have h2 := HFN.out; omega
          clear gx gy hx hy
          refine wp_region_ext w2 (Below.refl _ _) (by kernel_rfl) (by kernel_rfl) ?_
          repeat (go_big_quiet_step (first
            | (go_at_call 122; exact Ext.call HC.out _)))
          refine wpQuiet_nil ?_
          rintro w3 ⟨⟨_, hb3⟩, rfl⟩
          have F3 : Hid (Fb B W w3) := F2.out.bel hb3
          have R3 : Hid (Rg w3 B n G) := R2.out.below hb3
          clear a0 a1 hb3 HC hlB F2 R2
          go_wp2
          · refine bodyPost_ret (results_none rfl _ _ _) rfl ?_
            exact ⟨rfl, F3.out, R3.out⟩
          · obtain ⟨x2, y2, c1, c2, f1, f2, ⟨u, c3⟩, hlB2, rs, fs⟩ := R3.out.swap (i := first + r) (j := first + cc) (by have h1 := HCC.out; have h2 := HFN.out; omega) (by have h1 := HCC.out; have h2 := HFN.out; omega)
            have RS : Hid _ := rs
            have FS : Hid _ := fs
            clear rs fs R3
            have hmo : Tryz.prog.follows .mixedOrders = true := by kernel_rfl
            go_big_region_o
            generalize ((w3.setCell ⟨B, first + r, none⟩ (.string y2)).setCell ⟨B, first + cc, none⟩ (.string x2)).drew = w4 at RS FS ⊢
            clear c1 c2 f1 f2 c3 hlB2 hmo e1 e2 e3 e4 e5 e6
            go_wp2
            refine ⟨⟨cc, rfl, by have h1 := HCC.out; have h2 := HFN.out; omega, F3.out.also FS.out, RS.out⟩, ?_⟩
            have h1 := HCC.out
            have h2 := HFN.out
            simp [intOf]
            omega
        · have hq2 : 0 ≤ cf x0 y0 := by omega
          go_upto_region 5 with fail
          clear h2 h2z hbz hbr hq hq2
          obtain ⟨x, hx, gx⟩ := R2.out.cell (j := first + r) (by have h1 := HCC.out; have h2 := HFN.out; omega)
          obtain ⟨y, hy, gy⟩ := R2.out.cell (j := first + ch) (by have h1 := HCC.out; have h2 := HFN.out; omega)
          have hlB := R2.out.lt
          have a0 := fun V : Ext w2 => V.cell (p := ⟨B, first + r, none⟩) hlB hx
          have a1 := fun V : Ext w2 => V.cell (p := ⟨B, first + ch, none⟩) hlB hy
          have HC : Hid _ := fun V (hV : Below w2.heap.size w2 V) => hcmp.out V x y ((HF.out.also F2.out).bel hV) gx gy
          have e1 : ((first : Int) + (r : Int)).toNat = first + r := by omega
          have e2 : ((first : Int) + (ch : Int)).toNat = first + ch := by omega
          have e3 : (0 : Int) ≤ (first : Int) + (r : Int) := by omega
          have e4 : (0 : Int) ≤ (first : Int) + (ch : Int) := by omega
          have e5 : (first : Int) + (r : Int) < (n : Int) := by have h1 := HCC.out; have h2 := HFN.out; omega
          have e6 : (first : Int) + (ch : Int) < (n : Int) := by have h1 := HCC.out; have h2 := HFN.out; omega
          clear gx gy hx hy
          refine wp_region_ext w2 (Below.refl _ _) (by kernel_rfl) (by kernel_rfl) ?_
          repeat (go_big_quiet_step (first
            | (go_at_call 122; exact Ext.call HC.out _)))
          refine wpQuiet_nil ?_
          rintro w3 ⟨⟨_, hb3⟩, rfl⟩
          have F3 : Hid (Fb B W w3) := F2.out.bel hb3
          have R3 : Hid (Rg w3 B n G) := R2.out.below hb3
          clear a0 a1 hb3 HC hlB F2 R2
          go_wp2
          · refine bodyPost_ret (results_none rfl _ _ _) rfl ?_
            exact ⟨rfl, F3.out, R3.out⟩
          · obtain ⟨x2, y2, c1, c2, f1, f2, ⟨u, c3⟩, hlB2, rs, fs⟩ := R3.out.swap (i := first + r) (j := first + ch) (by have h1 := HCC.out; have h2 := HFN.out; omega) (by have h1 := HCC.out; have h2 := HFN.out; omega)
            have RS : Hid _ := rs
            have FS : Hid _ := fs
            clear rs fs R3
            have hmo : Tryz.prog.follows .mixedOrders = true := by kernel_rfl
            go_big_region_o
            generalize ((w3.setCell ⟨B, first + r, none⟩ (.string y2)).setCell ⟨B, first + ch, none⟩ (.string x2)).drew = w4 at RS FS ⊢
            clear c1 c2 f1 f2 c3 hlB2 hmo e1 e2 e3 e4 e5 e6
            go_wp2
            refine ⟨⟨ch, rfl, by have h1 := HCC.out; have h2 := HFN.out; omega, F3.out.also FS.out, RS.out⟩, ?_⟩
            have h1 := HCC.out
            have h2 := HFN.out
            simp [intOf]
            omega
      · have h2z : ¬ (ch : Int) + 1 < (hi : Int) := by omega
        have e7 : decide ((ch : Int) + 1 < (hi : Int)) = false := decide_eq_false h2z
        go_upto_region 3 with fail
        refine wp_region_ext wr (Below.refl _ _) (by kernel_rfl) (by kernel_rfl) ?_
        repeat (go_big_quiet_step (fail))
        refine wpQuiet_nil ?_
        rintro w2 ⟨⟨_, hb2⟩, rfl⟩
        have F2 : Hid (Fb B W w2) := FI.out.bel hb2
        have R2 : Hid (Rg w2 B n G) := RI.out.below hb2
        clear hb2 FI RI e7
        go_upto_region 5 with fail
        clear h2 h2z hbz hbr
        obtain ⟨x, hx, gx⟩ := R2.out.cell (j := first + r) (by have h1 := HCC.out; have h2 := HFN.out; omega)
        obtain ⟨y, hy, gy⟩ := R2.out.cell (j := first + ch) (by have h1 := HCC.out; have h2 := HFN.out; omega)
        have hlB := R2.out.lt
        have a0 := fun V : Ext w2 => V.cell (p := ⟨B, first + r, none⟩) hlB hx
        have a1 := fun V : Ext w2 => V.cell (p := ⟨B, first + ch, none⟩) hlB hy
        have HC : Hid _ := fun V (hV : Below w2.heap.size w2 V) => hcmp.out V x y ((HF.out.also F2.out).bel hV) gx gy
        have e1 : ((first : Int) + (r : Int)).toNat = first + r := by omega
        have e2 : ((first : Int) + (ch : Int)).toNat = first + ch := by omega
        have e3 : (0 : Int) ≤ (first : Int) + (r : Int) := by omega
        have e4 : (0 : Int) ≤ (first : Int) + (ch : Int) := by omega
        have e5 : (first : Int) + (r : Int) < (n : Int) := by have h1 := HCC.out; have h2 := HFN.out; omega
        have e6 : (first : Int) + (ch : Int) < (n : Int) := by have h1 := HCC.out; have h2 := HFN.out; omega
        clear gx gy hx hy
        refine wp_region_ext w2 (Below.refl _ _) (by kernel_rfl) (by kernel_rfl) ?_
        repeat (go_big_quiet_step (first
          | (go_at_call 122; exact Ext.call HC.out _)))
        refine wpQuiet_nil ?_
        rintro w3 ⟨⟨_, hb3⟩, rfl⟩
        have F3 : Hid (Fb B W w3) := F2.out.bel hb3
        have R3 : Hid (Rg w3 B n G) := R2.out.below hb3
        clear a0 a1 hb3 HC hlB F2 R2
        go_wp2
        · refine bodyPost_ret (results_none rfl _ _ _) rfl ?_
          exact ⟨rfl, F3.out, R3.out⟩
        · obtain ⟨x2, y2, c1, c2, f1, f2, ⟨u, c3⟩, hlB2, rs, fs⟩ := R3.out.swap (i := first + r) (j := first + ch) (by have h1 := HCC.out; have h2 := HFN.out; omega) (by have h1 := HCC.out; have h2 := HFN.out; omega)
          have RS : Hid _ := rs
          have FS : Hid _ := fs
          clear rs fs R3
          have hmo : Tryz.prog.follows .mixedOrders = true := by kernel_rfl
          go_big_region_o
          generalize ((w3.setCell ⟨B, first + r, none⟩ (.string y2)).setCell ⟨B, first + ch, none⟩ (.string x2)).drew = w4 at RS FS ⊢
          clear c1 c2 f1 f2 c3 hlB2 hmo e1 e2 e3 e4 e5 e6
          go_wp2
          refine ⟨⟨ch, rfl, by have h1 := HCC.out; have h2 := HFN.out; omega, F3.out.also FS.out, RS.out⟩, ?_⟩
          have h1 := HCC.out
          have h2 := HFN.out
          simp [intOf]
          omega

set_option maxRecDepth 100000 in
set_option maxHeartbeats 8000000 in
theorem so_heap {W0 : World} {B bp : Nat} {cf : ByteArray → ByteArray → Int} {G : ByteArray → Prop} (hcmp : Hid (CmpC W0 B bp cf G)) (n cap a b : Nat) (hab : a + 12 < b) (hbn : b ≤ n) (hn : n ≤ 1000000000) (W : World) (hf : Hid (Fb B W0 W)) (hr : Hid (Rg W B n G)) :
    Calls Tryz.prog 176 #[.slice (some ⟨B, 0, none⟩) n cap, .int .i64 (a : Int), .int .i64 (b : Int), cmpV bp] W fun e W' => e = .returned (.tuple #[]) ∧ Fb B W W' ∧ Rg W' B n G := by
  have HF : Hid (Fb B W0 W) := hf
  have HR : Hid (Rg W B n G) := hr
  have hmo : Tryz.prog.follows .mixedOrders = true := by kernel_rfl
  obtain ⟨l, hl⟩ : ∃ l, b = a + l := ⟨b - a, by omega⟩
  obtain ⟨q, hq⟩ : ∃ q, q = (l - 1) / 2 := ⟨_, rfl⟩
  have e0 : wrap64 ((b : Int) - (a : Int)) = (l : Int) := by rw [wr64 _ (by omega)]; omega
  have E2 : Hid (wrap64 ((wrap64 ((l : Int) - 1)).tdiv 2) = (q : Int)) := by
    show _ = _
    rw [wr64 ((l : Int) - 1) (by omega), Int.tdiv_eq_ediv_of_nonneg (by omega), wr64 _ (by omega)]
    omega
  have HQL : Hid (b = a + l ∧ q = (l - 1) / 2 ∧ b ≤ n ∧ 12 < l) := ⟨hl, hq, hbn, by omega⟩
  have Q1 : Hid _ := fun (i : Nat) (hi : i ≤ n) (W' : World) (h1 : Hid (Fb B W0 W')) (h2 : Hid (Rg W' B n G)) => so_sift hcmp n cap i l a hi (by have := HQL.out; omega) hn W' h1 h2
  have Q2 : Hid _ := fun (i : Nat) (hi : a + i ≤ n) (W' : World) (h1 : Hid (Fb B W0 W')) (h2 : Hid (Rg W' B n G)) => so_sift hcmp n cap 0 i a (by omega) hi hn W' h1 h2
  unfold cmpV at Q1 Q2 ⊢
  clear hf hr hl hq hab
  go_enter Tryz.func176, Tryz.ntmps176
  go_upto_region 5 with fail
  simp only [e0, E2.out]
  clear e0
  go_loopw [11] (fun v wr => ∃ i : Int, v = .int .i64 i ∧ -1 ≤ i ∧ i ≤ (q : Int) ∧ Hid (Fb B W wr) ∧ Hid (Rg wr B n G)) (fun v _ => (intOf v + 1).toNat)
  case atStart => exact ⟨(q : Int), rfl, by omega, by omega, Fx.refl _ _, HR.out⟩
  case round =>
    obtain ⟨i, rfl, hi0, hiq, FI, RI⟩ := hrel
    have HQN : Hid (q ≤ n) := by have := HQL.out; show _ ≤ _; omega
    by_cases hlt : 0 ≤ i
    · obtain ⟨m, rfl⟩ : ∃ m : Nat, i = (m : Int) := ⟨i.toNat, by omega⟩
      have QS : Hid _ := Q1.out m (by have := HQN.out; omega) wr (show Hid _ from HF.out.also FI.out) RI
      go_wp2_with fail
      refine Calls.mono QS.out ?_
      rintro e w2 ⟨rfl, f2, r2⟩
      have F2 : Hid (Fb B W w2) := FI.out.also f2
      have R2 : Hid (Rg w2 B n G) := r2
      have HMQ : Hid ((m : Int) ≤ (q : Int)) := hiq
      have hmn : (m : Int) ≤ 1000000000 := by have := HQN.out; omega
      clear f2 r2 QS FI RI hlt
      go_wp2
      go_roundw
      case rel => exact ⟨(m : Int) - 1, by go_num, by omega, by have := HMQ.out; omega, F2.out, R2.out⟩
      case measure => simp [intOf]
    · go_upto_region 8 with fail
      go_loopw [12] (fun v wx => ∃ i : Int, v = .int .i64 i ∧ -1 ≤ i ∧ i ≤ (l : Int) - 1 ∧ Hid (Fb B W wx) ∧ Hid (Rg wx B n G)) (fun v _ => (intOf v + 1).toNat)
      case atStart => exact ⟨(l : Int) - 1, by first | rfl | (congr 1; exact wr64 _ (by have := HQL.out; omega)), by have := HQL.out; omega, by omega, FI.out, RI.out⟩
      case round =>
        clear FI RI hlt hi0 hiq
        obtain ⟨i2, rfl, hi0, hil, FI, RI⟩ := hrel
        by_cases hlt : 0 ≤ i2
        · obtain ⟨m, rfl⟩ : ∃ m : Nat, i2 = (m : Int) := ⟨i2.toNat, by omega⟩
          have HML : Hid (m + 1 ≤ l) := by show _ ≤ _; omega
          obtain ⟨x2, y2, c1, c2, f1, f2, ⟨u, c3⟩, hlB2, rs, fs⟩ := RI.out.swap (i := a) (j := a + m) (by have := HQL.out; omega) (by have h1 := HQL.out; have h2 := HML.out; omega)
          have RS : Hid _ := rs
          have FS : Hid _ := fs
          have e13 : ((a : Int) + (m : Int)).toNat = a + m := by omega
          have e14 : (0 : Int) ≤ (a : Int) + (m : Int) := by omega
          have e15 : (a : Int) + (m : Int) < (n : Int) := by have h1 := HQL.out; have h2 := HML.out; omega
          have e16 : (a : Int) < (n : Int) := by have h1 := HQL.out; omega
          have FI2 : Hid (Fb B W wr) := FI.out
          clear rs fs RI FI hil
          go_upto_region 10 with fail
          go_big_region_o
          generalize ((wr.setCell ⟨B, a, none⟩ (.string y2)).setCell ⟨B, a + m, none⟩ (.string x2)).drew = w3 at RS FS ⊢
          clear c1 c2 f1 f2 c3 hlB2 e13 e14 e15 e16
          have F3 : Hid (Fb B W w3) := FI2.out.also FS.out
          have QS : Hid _ := Q2.out m (by have h1 := HQL.out; have h2 := HML.out; omega) w3 (show Hid _ from HF.out.also F3.out) RS
          have hmn : (m : Int) ≤ 1000000000 := by have h1 := HQL.out; have h2 := HML.out; omega
          go_wp2_with fail
          refine Calls.mono QS.out ?_
          rintro e w4 ⟨rfl, f4, r4⟩
          have F4 : Hid (Fb B W w4) := F3.out.also f4
          have R4 : Hid (Rg w4 B n G) := r4
          clear f4 r4 QS FS F3 FI2 RS hlt
          go_wp2
          go_roundw
          case rel => exact ⟨(m : Int) - 1, by go_num, by omega, by have := HML.out; omega, F4.out, R4.out⟩
          case measure => simp [intOf]
        · go_wp2
          go_end0
          exact ⟨rfl, FI.out, RI.out⟩

end Go.Proofs.YtafmoceinamcdaaGreat
