/- Put together by a program out of these texts of mine: CkV, CkW, VLay2. -/
import Derived.Test.YtcnjjhdmnagkgaaGreatDoorBunC10
import Derived.Test.YtcnjjhdmnagkgaaGreatDoorBunC22

namespace Go.Proofs.YtcnjjhdmnagkgaaGreatDoor
open Go.RowKit
set_option linter.unusedVariables false
set_option linter.unusedSimpArgs false

set_option maxRecDepth 100000 in
set_option maxHeartbeats 8000000 in
theorem clay1 (nm s t : List Int) (hnb : Hid (byts nm)) (hsb : Hid (byts s)) (htb : Hid (byts t)) (hnl : nm.length ≤ 1000) (hsl : s.length ≤ 1000) (htl : t.length ≤ 1000) (hf1 : strOfNums (njoin nm s) ≠ strOfNums nm) (hf2 : strOfNums (njoin nm t) ≠ strOfNums nm) (hf3 : strOfNums (njoin nm t) ≠ strOfNums (njoin nm s)) (H : ByteArray) (W : World) {bh ba bq bp bs be gm gf : Nat} {vf : Value} (hL : Hid (Lz W W bh ba bq bp bs be vf H 0 (fun _ => none))) (hgm : Ob W gm (exG (strOfNums nm) gf 1) 42) (hgf : Hid (Ob W gf (exF (strOfNums s)) 34 ∧ gf ≠ bs)) :
    Calls Tryz.prog 146 #[.string (strOfNums []), .slice (some ⟨gm, 0, none⟩) 1 1, .pointer (some ⟨bh, 0, none⟩), .pointer (some ⟨ba, 0, none⟩), .pointer (some ⟨bq, 0, none⟩)] W fun e W' => e = .returned (.slice (some ⟨W.heap.size, 0, none⟩) 1 1) ∧ ∃ n g, Lz W W' bh ba bq bp bs be vf H n g := by
  have hmk := mk1 W
  obtain ⟨w1, hw1⟩ : ∃ w1, w1 = W.alloc (.cells #[.string ⟨#[]⟩, .slice none 0 0, .slice none 0 0, .slice none 0 0, .slice none 0 0, .slice none 0 0, .slice none 0 0, .slice none 0 0, .slice none 0 0, .slice none 0 0, .slice none 0 0] 42) := ⟨_, rfl⟩
  rw [← hw1] at hmk
  have hb1 : Below W.heap.size W w1 := by rw [hw1]; exact (Below.refl _ _).alloc (Nat.le_refl _) _
  have k1 : Ob w1 W.heap.size #[.string ⟨#[]⟩, .slice none 0 0, .slice none 0 0, .slice none 0 0, .slice none 0 0, .slice none 0 0, .slice none 0 0, .slice none 0 0, .slice none 0 0, .slice none 0 0, .slice none 0 0] 42 := by rw [hw1]; exact Ob.new _ _ _
  have hs1 : w1.heap.size = W.heap.size + 1 := by rw [hw1]; simp
  have g1 := hgm.below hb1 hgm.lt
  have L1 : Hid (Lz W w1 bh ba bq bp bs be vf H 0 (fun _ => none)) := hL.out.keep hb1 (Nat.le_refl _)
  have K1 : Hid _ := k1
  have G1 : Hid _ := g1
  have HS1 : Hid _ := hs1
  have hgl : gm < W.heap.size := hgm.lt
  have HNL : Hid ((strOfNums nm).size ≤ 1000000 ∧ (strOfNums s).size ≤ 1000000 ∧ (strOfNums t).size ≤ 1000000) := by
    refine ⟨?_, ?_, ?_⟩ <;> rw [strOfNums_size] <;> omega
  have NE : Hid (strOfNums (njoin nm s) ≠ strOfNums nm ∧ strOfNums (njoin nm t) ≠ strOfNums nm ∧ strOfNums (njoin nm t) ≠ strOfNums (njoin nm s)) := ⟨hf1, hf2, hf3⟩
  have QPM : Hid (∀ V, Po V bp bs be vf 0 (fun _ => none) → Calls Tryz.prog 147 #[.agg #[.pointer (some ⟨bp, 0, none⟩), .string H], .string (strOfNums []), .string (strOfNums nm), .agg #[.int .i64 2, .string ⟨#[]⟩, .pointer (some ⟨W.heap.size, 0, none⟩), .pointer none, .pointer none]] V fun e W' => e = .returned (.string (strOfNums nm)) ∧ V.grownBy W' (some bs) ∧ Mg W' bs 1 (gput (fun _ => none) (strOfNums nm) (.agg #[.int .i64 2, .string H, .pointer (some ⟨W.heap.size, 0, none⟩), .pointer none, .pointer none]))) := fun V hV => pput0 H [] nm (show Hid (byts []) from fun x hx => by cases hx) hnb (by simp) (by omega) 2 (some ⟨W.heap.size, 0, none⟩) none none V (show Hid _ from hV) rfl
  have QPF1 : Hid (∀ (V : World) {a : Nat} {g : ByteArray → Option Value}, Po V bp bs be vf a g → g (strOfNums (njoin nm s)) = none → Calls Tryz.prog 147 #[.agg #[.pointer (some ⟨bp, 0, none⟩), .string H], .string (strOfNums nm), .string (strOfNums s), .agg #[.int .i64 5, .string ⟨#[]⟩, .pointer none, .pointer none, .pointer none]] V fun e W' => e = .returned (.string (strOfNums (njoin nm s))) ∧ V.grownBy W' (some bs) ∧ Mg W' bs (a + 1) (gput g (strOfNums (njoin nm s)) (.agg #[.int .i64 5, .string H, .pointer none, .pointer none, .pointer none]))) := fun V {a} {g} hV hg => pput0 H nm s hnb hsb (by omega) (by omega) 5 none none none V (show Hid _ from hV) hg
  have QPF2 : Hid (∀ (V : World) {a : Nat} {g : ByteArray → Option Value}, Po V bp bs be vf a g → g (strOfNums (njoin nm t)) = none → Calls Tryz.prog 147 #[.agg #[.pointer (some ⟨bp, 0, none⟩), .string H], .string (strOfNums nm), .string (strOfNums t), .agg #[.int .i64 5, .string ⟨#[]⟩, .pointer none, .pointer none, .pointer none]] V fun e W' => e = .returned (.string (strOfNums (njoin nm t))) ∧ V.grownBy W' (some bs) ∧ Mg W' bs (a + 1) (gput g (strOfNums (njoin nm t)) (.agg #[.int .i64 5, .string H, .pointer none, .pointer none, .pointer none]))) := fun V {a} {g} hV hg => pput0 H nm t hnb htb (by omega) (by omega) 5 none none none V (show Hid _ from hV) hg
  clear hw1 hb1 k1 g1 hL hgm hs1 hnl hsl htl hnb hsb htb hf1 hf2 hf3
  generalize strOfNums (njoin nm s) = F1 at *
  generalize strOfNums (njoin nm t) = F2 at *
  generalize strOfNums nm = N at *
  generalize strOfNums s = S1 at *
  generalize strOfNums t = S2 at *
  generalize strOfNums [] = S0 at *
  go_enter Tryz.func146, Tryz.ntmps146
  go_wp2
  go_loopw [21] (fun v wr => (v = .int .i64 0 ∧ w1 = wr) ∨ (v = .int .i64 1 ∧ Hid (∃ n g, Lz W wr bh ba bq bp bs be vf H n g))) (fun v _ => 1 - (intOf v).toNat)
  case atStart => exact .inl ⟨rfl, rfl⟩
  case round =>
    rcases hrel with ⟨rfl, rfl⟩ | ⟨rfl, HL⟩
    · obtain ⟨w2, hw2⟩ : ∃ w2, w2 = w1.alloc (.cells (exG N gf 1) 42) := ⟨_, rfl⟩
      have hb2 : Below w1.heap.size w1 w2 := by rw [hw2]; exact (Below.refl _ _).alloc (Nat.le_refl _) _
      have m2 : Ob w2 w1.heap.size (exG N gf 1) 42 := by rw [hw2]; exact Ob.new _ _ _
      have k2 := K1.out.below hb2 K1.out.lt
      have L2 : Hid (Lz W w2 bh ba bq bp bs be vf H 0 (fun _ => none)) := L1.out.keep hb2 (by rw [HS1.out]; omega)
      have h2 := L2.out.hb
      have a0 := fun x : Ext w2 => x.cell (p := ⟨bh, 0, none⟩) h2.lt (h2.cell 0 rfl)
      have a1 := fun x : Ext w2 => x.cell (p := ⟨bh, 1, none⟩) h2.lt (h2.cell 1 rfl)
      have b0 := fun x : Ext w2 => x.cell (p := ⟨w1.heap.size, 0, none⟩) m2.lt (m2.cell 0 rfl)
      obtain ⟨⟨i0, i1, i2, i3, i4, i5, i6, i7, i8, i9, i10⟩, _, il⟩ := ob11 (show Ob w1 gm #[.string N, .slice (some ⟨gf, 0, none⟩) 1 1, .slice none 0 0, .slice none 0 0, .slice none 0 0, .slice none 0 0, .slice none 0 0, .slice none 0 0, .slice none 0 0, .slice none 0 0, .slice none 0 0] 42 from G1.out)
      have kl : W.heap.size < w2.heap.size := k2.lt
      have K2 : Hid _ := k2
      have M2 : Hid _ := m2
      have HW2 : Hid _ := hw2
      clear hb2 m2 k2 h2 hw2
      unfold exG at HW2
      go_upto_region 5 with fail
      rw [← HW2.out]
      clear HW2 i0 i1 i2 i3 i4 i5 i6 i7 i8 i9 i10 il
      refine wp_region_then w2 8 2 rfl (Below.refl _ _) (by kernel_rfl) (by kernel_rfl) (by kernel_rfl) (by kernel_rfl) ?_
      simp only [List.take]
      repeat (go_big_quiet_step (fail))
      refine wpQuiet_nil ?_
      rintro w3 ⟨⟨_, hb3⟩, rfl⟩
      have QP3 : Hid _ := QPM.out w3 (L2.out.po.below hb3 (Nat.le_refl _))
      have HB3 : Hid _ := hb3
      clear hb3 a0 a1 b0
      refine wpAny_force (i := 8) (by kernel_rfl) rfl ?_
      intro Q' hQ' hPn
      have HQ : Hid _ := hQ'
      clear hQ' hPn
      go_wp2_with fail
      refine Calls.mono QP3.out ?_
      rintro e w4 ⟨rfl, hg4, hm4⟩
      have hbs : bs < W.heap.size := L2.out.lt.2.2.2.2.1
      have hs1' := HS1.out
      have l4 := (L2.out.keep HB3.out (by omega)).put hg4 hm4
      have k4 := (K2.out.below HB3.out K2.out.lt).grown hg4 (fun e => by have := Option.some.inj e; omega)
      have m4 := (M2.out.below HB3.out M2.out.lt).grown hg4 (fun e => by have := Option.some.inj e; omega)
      have L4 : Hid _ := l4
      have K4 : Hid _ := k4
      have M4 : Hid (Ob w4 w1.heap.size (exG N gf 1) 42) := m4
      clear hg4 hm4 l4 k4 m4 QP3 HB3 L2 K2 M2 L1 K1 G1 hs1'
      go_wp2
      refine HQ.out _ _ ?_
      clear HQ
      refine wpAny_force (i := 9) (by kernel_rfl) rfl ?_
      intro Q' hQ' hPn
      have HQ : Hid _ := hQ'
      clear hQ' hPn
      go_wp2
      refine HQ.out _ _ ?_
      clear HQ
      refine wpAny_end (by kernel_rfl) ?_
      have QM : Hid _ := cmsg1 N S1 S2 HNL.out.1 HNL.out.2.1 HNL.out.2.2 w4 gf (hgf.out.1.grown L4.out.gr (fun e => hgf.out.2 (Option.some.inj e)))
      unfold exG at QM
      have m4' := M4.out
      unfold exG at m4'
      obtain ⟨⟨c0, c1⟩, _, cl⟩ := ob2 L4.out.ab
      obtain ⟨⟨d0, d1, d2, d3, d4, d5, d6, d7, d8, d9, d10⟩, _, dl⟩ := ob11 m4'
      have kl4 : W.heap.size < w4.heap.size := K4.out.lt
      clear m4'
      go_wp2_with fail
      refine Calls.mono QM.out ?_
      rintro e w5 ⟨⟨p1, r1, p3, r3, p4, r4, p5, r5, p6, r6, p7, r7, p8, r8, p9, r9, p10, r10, rfl⟩, hb5⟩
      have L5 : Hid _ := L4.out.keep hb5 (by omega)
      have k5 := K4.out.below hb5 K4.out.lt
      have M5 : Hid (Ob w5 w1.heap.size (exG N gf 1) 42) := M4.out.below hb5 M4.out.lt
      obtain ⟨⟨f0, f1, f2, f3, f4, f5, f6, f7, f8, f9, f10⟩, ⟨h0, h1, h2, h3, h4, h5, h6, h7, h8, h9, h10⟩, fl⟩ := ob11 k5
      have K5 : Hid _ := k5
      clear hb5 k5 QM L4 K4 M4 c0 c1 cl d0 d1 d2 d3 d4 d5 d6 d7 d8 d9 d10 dl kl4
      go_upto_region 7 with fail
      have k6 := set11 K5.out (.string N) (.slice p1 1 r1) (.slice none 0 0) (.slice p3 0 r3) (.slice p4 0 r4) (.slice p5 0 r5) (.slice p6 0 r6) (.slice p7 0 r7) (.slice p8 0 r8) (.slice p9 0 r9) (.slice p10 0 r10)
      have b6 := below11 (n := W.heap.size) W.heap.size (Nat.le_refl _) (Below.refl W.heap.size w5) (.string N) (.slice p1 1 r1) (.slice none 0 0) (.slice p3 0 r3) (.slice p4 0 r4) (.slice p5 0 r5) (.slice p6 0 r6) (.slice p7 0 r7) (.slice p8 0 r8) (.slice p9 0 r9) (.slice p10 0 r10)
      have m6 := other11 (b := W.heap.size) M5.out (by rw [HS1.out]; omega) (.string N) (.slice p1 1 r1) (.slice none 0 0) (.slice p3 0 r3) (.slice p4 0 r4) (.slice p5 0 r5) (.slice p6 0 r6) (.slice p7 0 r7) (.slice p8 0 r8) (.slice p9 0 r9) (.slice p10 0 r10)
      have l6 := L5.out.keep b6 (Nat.le_refl _)
      generalize (((((((((((w5.setCell ⟨W.heap.size, 0, none⟩ (.string N)).setCell ⟨W.heap.size, 1, none⟩ (.slice p1 1 r1)).setCell ⟨W.heap.size, 2, none⟩ (.slice none 0 0)).setCell ⟨W.heap.size, 3, none⟩ (.slice p3 0 r3)).setCell ⟨W.heap.size, 4, none⟩ (.slice p4 0 r4)).setCell ⟨W.heap.size, 5, none⟩ (.slice p5 0 r5)).setCell ⟨W.heap.size, 6, none⟩ (.slice p6 0 r6)).setCell ⟨W.heap.size, 7, none⟩ (.slice p7 0 r7)).setCell ⟨W.heap.size, 8, none⟩ (.slice p8 0 r8)).setCell ⟨W.heap.size, 9, none⟩ (.slice p9 0 r9)).setCell ⟨W.heap.size, 10, none⟩ (.slice p10 0 r10)) = w6 at *
      clear b6 f0 f1 f2 f3 f4 f5 f6 f7 f8 f9 f10 h0 h1 h2 h3 h4 h5 h6 h7 h8 h9 h10 fl K5 M5 L5
      obtain ⟨KC, hKC⟩ : ∃ KC : Array Value, KC = #[.string N, .slice p1 1 r1, .slice none 0 0, .slice p3 0 r3, .slice p4 0 r4, .slice p5 0 r5, .slice p6 0 r6, .slice p7 0 r7, .slice p8 0 r8, .slice p9 0 r9, .slice p10 0 r10] := ⟨_, rfl⟩
      rw [← hKC] at k6
      have HKC : Hid _ := hKC
      have KM6 : Hid (Ob w6 W.heap.size KC 42 ∧ Ob w6 w1.heap.size (exG N gf 1) 42) := ⟨k6, m6⟩
      have L6 : Hid (∃ a g, Lz W w6 bh ba bq bp bs be vf H a g ∧ g F1 = none) := ⟨_, _, l6, by unfold gput; rw [if_neg NE.out.1]⟩
      unfold exG at m6
      have d1 : w6.cell? ⟨w1.heap.size, 1, none⟩ = some (.slice (some ⟨gf, 0, none⟩) 1 1) := m6.cell 1 rfl
      have dl : w1.heap.size < w6.heap.size := m6.lt
      clear k6 m6 l6 hKC
      go_wp2
      clear d1 dl
      go_loopw [44] (fun v wr => (v = .int .i64 0 ∧ Hid (∃ a g, Lz W wr bh ba bq bp bs be vf H a g ∧ g F1 = none) ∧ Hid (Ob wr W.heap.size KC 42 ∧ Ob wr w1.heap.size (exG N gf 1) 42)) ∨ (v = .int .i64 1 ∧ Hid (∃ a g, Lz W wr bh ba bq bp bs be vf H a g) ∧ Hid (Ob wr W.heap.size KC 42 ∧ Ob wr w1.heap.size (exG N gf 1) 42))) (fun v _ => 3 - (intOf v).toNat)
      case atStart => exact .inl ⟨rfl, L6, KM6⟩
      case round =>
        rcases hrel with ⟨rfl, LW, KMr⟩ | ⟨rfl, LW, KMr⟩
        · obtain ⟨ga, gg, hl, hg1⟩ := LW.out
          have FR : Ob wr gf (exF S1) 34 := hgf.out.1.grown hl.gr (fun e => hgf.out.2 (Option.some.inj e))
          unfold exF at FR
          have d0 : wr.cell? ⟨gf, 0, none⟩ = some _ := FR.cell 0 rfl
          have d1 : wr.cell? ⟨gf, 1, none⟩ = some _ := FR.cell 1 rfl
          have d2 : wr.cell? ⟨gf, 2, none⟩ = some _ := FR.cell 2 rfl
          have d3 : wr.cell? ⟨gf, 3, none⟩ = some _ := FR.cell 3 rfl
          have d4 : wr.cell? ⟨gf, 4, none⟩ = some _ := FR.cell 4 rfl
          have d5 : wr.cell? ⟨gf, 5, none⟩ = some _ := FR.cell 5 rfl
          have d6 : wr.cell? ⟨gf, 6, none⟩ = some _ := FR.cell 6 rfl
          have d7 : wr.cell? ⟨gf, 7, none⟩ = some _ := FR.cell 7 rfl
          have d8 : wr.cell? ⟨gf, 8, none⟩ = some _ := FR.cell 8 rfl
          have d9 : wr.cell? ⟨gf, 9, none⟩ = some _ := FR.cell 9 rfl
          have d10 : wr.cell? ⟨gf, 10, none⟩ = some _ := FR.cell 10 rfl
          have d11 : wr.cell? ⟨gf, 11, none⟩ = some _ := FR.cell 11 rfl
          have d12 : wr.cell? ⟨gf, 12, none⟩ = some _ := FR.cell 12 rfl
          have dl := FR.lt
          obtain ⟨v5, hv5, hc5, o5⟩ := exF_new S1 wr
          unfold exF at hv5 o5
          have l5 := hl.keep hc5 hl.gr.size
          have HG : Hid (gg F1 = none) := hg1
          have QP : Hid _ := QPF1.out v5 l5.po HG.out
          obtain ⟨⟨x0, x1⟩, _, xl⟩ := ob2 l5.hb
          have y0 : v5.cell? ⟨wr.heap.size, 0, none⟩ = some (.string S1) := o5.cell 0 rfl
          have yl := o5.lt
          have KM5 : Hid (Ob v5 W.heap.size KC 42 ∧ Ob v5 w1.heap.size (exG N gf 1) 42) := ⟨KMr.out.1.below hc5 KMr.out.1.lt, KMr.out.2.below hc5 KMr.out.2.lt⟩
          have L5 : Hid _ := l5
          have HV5 : Hid _ := hv5
          clear hl l5 o5 hc5 hv5 FR LW KMr hg1
          go_upto_region 10 with fail
          rw [HV5.out]
          clear HV5 d0 d1 d2 d3 d4 d5 d6 d7 d8 d9 d10 d11 d12 dl
          go_wp2_with fail
          refine Calls.mono QP.out ?_
          rintro e v6 ⟨rfl, hg6, hm6⟩
          have LW6 : Hid (∃ a g, Lz W v6 bh ba bq bp bs be vf H a g) := ⟨_, _, L5.out.put hg6 hm6⟩
          have KM6b : Hid (Ob v6 W.heap.size KC 42 ∧ Ob v6 w1.heap.size (exG N gf 1) 42) := ⟨KM5.out.1.grown hg6 (fun e => by have h1 := Option.some.inj e; have h2 := L5.out.lt.2.2.2.2.1; omega), KM5.out.2.grown hg6 (fun e => by have h1 := Option.some.inj e; have h2 := L5.out.lt.2.2.2.2.1; have h3 := HS1.out; omega)⟩
          clear hg6 hm6 QP L5 KM5 HG x0 x1 xl y0 yl
          go_wp2
          go_roundw
          case rel => first | exact .inr (⟨by go_num, LW6, KM6b⟩) | ((repeat apply Exists.intro); exact ⟨.inr (⟨by go_num, LW6, KM6b⟩), rfl⟩)
          case measure => simp [intOf]
        · obtain ⟨ga, gg, hl⟩ := LW.out
          have L6 : Hid _ := hl
          have K6 : Hid _ := KMr.out.1
          have M6 : Hid _ := KMr.out.2
          clear hl LW

          have m6 := M6.out
          unfold exG at m6
          have d2 : wr.cell? ⟨w1.heap.size, 2, none⟩ = some (.slice none 0 0) := m6.cell 2 rfl
          have d6 : wr.cell? ⟨w1.heap.size, 6, none⟩ = some (.slice none 0 0) := m6.cell 6 rfl
          have dl : w1.heap.size < wr.heap.size := m6.lt
          obtain ⟨e1, _, el⟩ := ob1 L6.out.qb
          unfold layV at e1
          have QZ : Hid _ := fun (s p1 p2 p3 : Value) => play0 s p1 p2 p3 none 0 wr
          obtain ⟨wy, hwy⟩ : ∃ wy, wy = wr := ⟨_, rfl⟩
          subst hwy
          clear m6 KMr M6
          go_wp2
          go_loopw [58] (fun v wr => v = .int .i64 0 ∧ wy = wr) (fun _ _ => 0)
          case atStart => exact ⟨rfl, rfl⟩
          case round =>
            obtain ⟨rfl, rfl⟩ := hrel
            go_wp2_with fail
            refine Calls.mono (QZ.out _ _ _ _) ?_
            rintro e w7 ⟨na, nc, rfl, hb7⟩
            have k7 := K6.out.below hb7 K6.out.lt
            rw [HKC.out] at k7
            have L7 : Hid _ := L6.out.keep hb7 (Nat.le_of_lt K6.out.lt)
            obtain ⟨w8, hw8⟩ : ∃ w8, w8 = w7.setCell ⟨W.heap.size, 2, none⟩ (.slice na 0 nc) := ⟨_, rfl⟩
            have k8 := k7.set 2 (.slice na 0 nc)
            rw [← hw8] at k8
            have L8 : Hid _ := L7.out.keep (show Below W.heap.size w7 w8 by rw [hw8]; exact (Below.refl _ _).setCell (p := ⟨W.heap.size, 2, none⟩) (Nat.le_refl _) _) (Nat.le_refl _)
            have s1 : w7.cell? ⟨W.heap.size, 2, none⟩ = some (.slice none 0 0) := k7.cell 2 rfl
            have s2 : w7.frozen? ⟨W.heap.size, 2, none⟩ = false := k7.frozen 2
            have s3 : W.heap.size < w7.heap.size := k7.lt
            have q8 := L8.out.hb
            have a0 := fun x : Ext w8 => x.cell (p := ⟨bh, 0, none⟩) q8.lt (q8.cell 0 rfl)
            have a1 := fun x : Ext w8 => x.cell (p := ⟨bh, 1, none⟩) q8.lt (q8.cell 1 rfl)
            have a2 := fun x : Ext w8 => x.cell (p := ⟨W.heap.size, 3, none⟩) k8.lt (k8.cell 3 rfl)
            have K8 : Hid _ := k8
            have HW8 : Hid _ := hw8
            clear hb7 k7 k8 q8 hw8 L7 L6 K6 QZ d2 d6 dl e1 el
            go_upto_region 18 with fail
            rw [← HW8.out]
            clear HW8 s1 s2 s3
            refine wp_region_ext w8 (Below.refl _ _) (by kernel_rfl) (by kernel_rfl) ?_
            repeat (go_big_quiet_step (first
              | (go_at_call 149; exact Ext.call (fun V hV => penums0 _ _ _ _ _ V) _)))
            refine wpQuiet_nil ?_
            rintro w9 ⟨⟨_, hb9⟩, rfl⟩
            have l9 := L8.out.keep hb9 (Nat.le_of_lt K8.out.lt)
            have k9 := K8.out.below hb9 K8.out.lt
            have q9 := l9.hb
            clear a0 a1 a2
            have a0 := fun x : Ext w9 => x.cell (p := ⟨bh, 0, none⟩) q9.lt (q9.cell 0 rfl)
            have a1 := fun x : Ext w9 => x.cell (p := ⟨bh, 1, none⟩) q9.lt (q9.cell 1 rfl)
            have a2 := fun x : Ext w9 => x.cell (p := ⟨W.heap.size, 5, none⟩) k9.lt (k9.cell 5 rfl)
            have L9 : Hid _ := l9
            have K9 : Hid (W.heap.size < w9.heap.size) := k9.lt
            clear l9 k9 q9 hb9 L8 K8
            go_upto_region 19 with fail
            refine wp_region_ext w9 (Below.refl _ _) (by kernel_rfl) (by kernel_rfl) ?_
            repeat (go_big_quiet_step (first
              | (go_at_call 150; exact Ext.call (fun V hV => pexts0 _ _ _ _ _ V) _)))
            refine wpQuiet_nil ?_
            rintro w10 ⟨⟨_, hb10⟩, rfl⟩
            have L10 : Hid (∃ n g, Lz W w10 bh ba bq bp bs be vf H n g) := ⟨_, _, L9.out.keep hb10 (Nat.le_of_lt K9.out)⟩
            clear a0 a1 a2 hb10 L9 K9
            go_wp2
            go_roundw
            case rel => first | exact .inr ⟨by go_num, L10⟩ | ((repeat apply Exists.intro); exact ⟨.inr ⟨by go_num, L10⟩, rfl⟩)
            case measure => simp [intOf]
    · go_wp2
      go_ret
      exact ⟨rfl, HL.out⟩

set_option maxRecDepth 100000 in
set_option maxHeartbeats 8000000 in
theorem clay2 (nm s t : List Int) (hnb : Hid (byts nm)) (hsb : Hid (byts s)) (htb : Hid (byts t)) (hnl : nm.length ≤ 1000) (hsl : s.length ≤ 1000) (htl : t.length ≤ 1000) (hf1 : strOfNums (njoin nm s) ≠ strOfNums nm) (hf2 : strOfNums (njoin nm t) ≠ strOfNums nm) (hf3 : strOfNums (njoin nm t) ≠ strOfNums (njoin nm s)) (H : ByteArray) (W : World) {bh ba bq bp bs be gm gf : Nat} {vf : Value} (hL : Hid (Lz W W bh ba bq bp bs be vf H 0 (fun _ => none))) (hgm : Ob W gm (exG (strOfNums nm) gf 2) 42) (hgf : Hid (Ob W gf (exR (strOfNums s) (strOfNums t)) 34 ∧ gf ≠ bs)) :
    Calls Tryz.prog 146 #[.string (strOfNums []), .slice (some ⟨gm, 0, none⟩) 1 1, .pointer (some ⟨bh, 0, none⟩), .pointer (some ⟨ba, 0, none⟩), .pointer (some ⟨bq, 0, none⟩)] W fun e W' => e = .returned (.slice (some ⟨W.heap.size, 0, none⟩) 1 1) ∧ ∃ n g, Lz W W' bh ba bq bp bs be vf H n g := by
  have hmk := mk1 W
  obtain ⟨w1, hw1⟩ : ∃ w1, w1 = W.alloc (.cells #[.string ⟨#[]⟩, .slice none 0 0, .slice none 0 0, .slice none 0 0, .slice none 0 0, .slice none 0 0, .slice none 0 0, .slice none 0 0, .slice none 0 0, .slice none 0 0, .slice none 0 0] 42) := ⟨_, rfl⟩
  rw [← hw1] at hmk
  have hb1 : Below W.heap.size W w1 := by rw [hw1]; exact (Below.refl _ _).alloc (Nat.le_refl _) _
  have k1 : Ob w1 W.heap.size #[.string ⟨#[]⟩, .slice none 0 0, .slice none 0 0, .slice none 0 0, .slice none 0 0, .slice none 0 0, .slice none 0 0, .slice none 0 0, .slice none 0 0, .slice none 0 0, .slice none 0 0] 42 := by rw [hw1]; exact Ob.new _ _ _
  have hs1 : w1.heap.size = W.heap.size + 1 := by rw [hw1]; simp
  have g1 := hgm.below hb1 hgm.lt
  have L1 : Hid (Lz W w1 bh ba bq bp bs be vf H 0 (fun _ => none)) := hL.out.keep hb1 (Nat.le_refl _)
  have K1 : Hid _ := k1
  have G1 : Hid _ := g1
  have HS1 : Hid _ := hs1
  have hgl : gm < W.heap.size := hgm.lt
  have HNL : Hid ((strOfNums nm).size ≤ 1000000 ∧ (strOfNums s).size ≤ 1000000 ∧ (strOfNums t).size ≤ 1000000) := by
    refine ⟨?_, ?_, ?_⟩ <;> rw [strOfNums_size] <;> omega
  have NE : Hid (strOfNums (njoin nm s) ≠ strOfNums nm ∧ strOfNums (njoin nm t) ≠ strOfNums nm ∧ strOfNums (njoin nm t) ≠ strOfNums (njoin nm s)) := ⟨hf1, hf2, hf3⟩
  have QPM : Hid (∀ V, Po V bp bs be vf 0 (fun _ => none) → Calls Tryz.prog 147 #[.agg #[.pointer (some ⟨bp, 0, none⟩), .string H], .string (strOfNums []), .string (strOfNums nm), .agg #[.int .i64 2, .string ⟨#[]⟩, .pointer (some ⟨W.heap.size, 0, none⟩), .pointer none, .pointer none]] V fun e W' => e = .returned (.string (strOfNums nm)) ∧ V.grownBy W' (some bs) ∧ Mg W' bs 1 (gput (fun _ => none) (strOfNums nm) (.agg #[.int .i64 2, .string H, .pointer (some ⟨W.heap.size, 0, none⟩), .pointer none, .pointer none]))) := fun V hV => pput0 H [] nm (show Hid (byts []) from fun x hx => by cases hx) hnb (by simp) (by omega) 2 (some ⟨W.heap.size, 0, none⟩) none none V (show Hid _ from hV) rfl
  have QPF1 : Hid (∀ (V : World) {a : Nat} {g : ByteArray → Option Value}, Po V bp bs be vf a g → g (strOfNums (njoin nm s)) = none → Calls Tryz.prog 147 #[.agg #[.pointer (some ⟨bp, 0, none⟩), .string H], .string (strOfNums nm), .string (strOfNums s), .agg #[.int .i64 5, .string ⟨#[]⟩, .pointer none, .pointer none, .pointer none]] V fun e W' => e = .returned (.string (strOfNums (njoin nm s))) ∧ V.grownBy W' (some bs) ∧ Mg W' bs (a + 1) (gput g (strOfNums (njoin nm s)) (.agg #[.int .i64 5, .string H, .pointer none, .pointer none, .pointer none]))) := fun V {a} {g} hV hg => pput0 H nm s hnb hsb (by omega) (by omega) 5 none none none V (show Hid _ from hV) hg
  have QPF2 : Hid (∀ (V : World) {a : Nat} {g : ByteArray → Option Value}, Po V bp bs be vf a g → g (strOfNums (njoin nm t)) = none → Calls Tryz.prog 147 #[.agg #[.pointer (some ⟨bp, 0, none⟩), .string H], .string (strOfNums nm), .string (strOfNums t), .agg #[.int .i64 5, .string ⟨#[]⟩, .pointer none, .pointer none, .pointer none]] V fun e W' => e = .returned (.string (strOfNums (njoin nm t))) ∧ V.grownBy W' (some bs) ∧ Mg W' bs (a + 1) (gput g (strOfNums (njoin nm t)) (.agg #[.int .i64 5, .string H, .pointer none, .pointer none, .pointer none]))) := fun V {a} {g} hV hg => pput0 H nm t hnb htb (by omega) (by omega) 5 none none none V (show Hid _ from hV) hg
  clear hw1 hb1 k1 g1 hL hgm hs1 hnl hsl htl hnb hsb htb hf1 hf2 hf3
  generalize strOfNums (njoin nm s) = F1 at *
  generalize strOfNums (njoin nm t) = F2 at *
  generalize strOfNums nm = N at *
  generalize strOfNums s = S1 at *
  generalize strOfNums t = S2 at *
  generalize strOfNums [] = S0 at *
  go_enter Tryz.func146, Tryz.ntmps146
  go_wp2
  go_loopw [21] (fun v wr => (v = .int .i64 0 ∧ w1 = wr) ∨ (v = .int .i64 1 ∧ Hid (∃ n g, Lz W wr bh ba bq bp bs be vf H n g))) (fun v _ => 1 - (intOf v).toNat)
  case atStart => exact .inl ⟨rfl, rfl⟩
  case round =>
    rcases hrel with ⟨rfl, rfl⟩ | ⟨rfl, HL⟩
    · obtain ⟨w2, hw2⟩ : ∃ w2, w2 = w1.alloc (.cells (exG N gf 2) 42) := ⟨_, rfl⟩
      have hb2 : Below w1.heap.size w1 w2 := by rw [hw2]; exact (Below.refl _ _).alloc (Nat.le_refl _) _
      have m2 : Ob w2 w1.heap.size (exG N gf 2) 42 := by rw [hw2]; exact Ob.new _ _ _
      have k2 := K1.out.below hb2 K1.out.lt
      have L2 : Hid (Lz W w2 bh ba bq bp bs be vf H 0 (fun _ => none)) := L1.out.keep hb2 (by rw [HS1.out]; omega)
      have h2 := L2.out.hb
      have a0 := fun x : Ext w2 => x.cell (p := ⟨bh, 0, none⟩) h2.lt (h2.cell 0 rfl)
      have a1 := fun x : Ext w2 => x.cell (p := ⟨bh, 1, none⟩) h2.lt (h2.cell 1 rfl)
      have b0 := fun x : Ext w2 => x.cell (p := ⟨w1.heap.size, 0, none⟩) m2.lt (m2.cell 0 rfl)
      obtain ⟨⟨i0, i1, i2, i3, i4, i5, i6, i7, i8, i9, i10⟩, _, il⟩ := ob11 (show Ob w1 gm #[.string N, .slice (some ⟨gf, 0, none⟩) 2 2, .slice none 0 0, .slice none 0 0, .slice none 0 0, .slice none 0 0, .slice none 0 0, .slice none 0 0, .slice none 0 0, .slice none 0 0, .slice none 0 0] 42 from G1.out)
      have kl : W.heap.size < w2.heap.size := k2.lt
      have K2 : Hid _ := k2
      have M2 : Hid _ := m2
      have HW2 : Hid _ := hw2
      clear hb2 m2 k2 h2 hw2
      unfold exG at HW2
      go_upto_region 5 with fail
      rw [← HW2.out]
      clear HW2 i0 i1 i2 i3 i4 i5 i6 i7 i8 i9 i10 il
      refine wp_region_then w2 8 2 rfl (Below.refl _ _) (by kernel_rfl) (by kernel_rfl) (by kernel_rfl) (by kernel_rfl) ?_
      simp only [List.take]
      repeat (go_big_quiet_step (fail))
      refine wpQuiet_nil ?_
      rintro w3 ⟨⟨_, hb3⟩, rfl⟩
      have QP3 : Hid _ := QPM.out w3 (L2.out.po.below hb3 (Nat.le_refl _))
      have HB3 : Hid _ := hb3
      clear hb3 a0 a1 b0
      refine wpAny_force (i := 8) (by kernel_rfl) rfl ?_
      intro Q' hQ' hPn
      have HQ : Hid _ := hQ'
      clear hQ' hPn
      go_wp2_with fail
      refine Calls.mono QP3.out ?_
      rintro e w4 ⟨rfl, hg4, hm4⟩
      have hbs : bs < W.heap.size := L2.out.lt.2.2.2.2.1
      have hs1' := HS1.out
      have l4 := (L2.out.keep HB3.out (by omega)).put hg4 hm4
      have k4 := (K2.out.below HB3.out K2.out.lt).grown hg4 (fun e => by have := Option.some.inj e; omega)
      have m4 := (M2.out.below HB3.out M2.out.lt).grown hg4 (fun e => by have := Option.some.inj e; omega)
      have L4 : Hid _ := l4
      have K4 : Hid _ := k4
      have M4 : Hid (Ob w4 w1.heap.size (exG N gf 2) 42) := m4
      clear hg4 hm4 l4 k4 m4 QP3 HB3 L2 K2 M2 L1 K1 G1 hs1'
      go_wp2
      refine HQ.out _ _ ?_
      clear HQ
      refine wpAny_force (i := 9) (by kernel_rfl) rfl ?_
      intro Q' hQ' hPn
      have HQ : Hid _ := hQ'
      clear hQ' hPn
      go_wp2
      refine HQ.out _ _ ?_
      clear HQ
      refine wpAny_end (by kernel_rfl) ?_
      have QM : Hid _ := cmsg2 N S1 S2 HNL.out.1 HNL.out.2.1 HNL.out.2.2 w4 gf (hgf.out.1.grown L4.out.gr (fun e => hgf.out.2 (Option.some.inj e)))
      unfold exG at QM
      have m4' := M4.out
      unfold exG at m4'
      obtain ⟨⟨c0, c1⟩, _, cl⟩ := ob2 L4.out.ab
      obtain ⟨⟨d0, d1, d2, d3, d4, d5, d6, d7, d8, d9, d10⟩, _, dl⟩ := ob11 m4'
      have kl4 : W.heap.size < w4.heap.size := K4.out.lt
      clear m4'
      go_wp2_with fail
      refine Calls.mono QM.out ?_
      rintro e w5 ⟨⟨p1, r1, p3, r3, p4, r4, p5, r5, p6, r6, p7, r7, p8, r8, p9, r9, p10, r10, rfl⟩, hb5⟩
      have L5 : Hid _ := L4.out.keep hb5 (by omega)
      have k5 := K4.out.below hb5 K4.out.lt
      have M5 : Hid (Ob w5 w1.heap.size (exG N gf 2) 42) := M4.out.below hb5 M4.out.lt
      obtain ⟨⟨f0, f1, f2, f3, f4, f5, f6, f7, f8, f9, f10⟩, ⟨h0, h1, h2, h3, h4, h5, h6, h7, h8, h9, h10⟩, fl⟩ := ob11 k5
      have K5 : Hid _ := k5
      clear hb5 k5 QM L4 K4 M4 c0 c1 cl d0 d1 d2 d3 d4 d5 d6 d7 d8 d9 d10 dl kl4
      go_upto_region 7 with fail
      have k6 := set11 K5.out (.string N) (.slice p1 2 r1) (.slice none 0 0) (.slice p3 0 r3) (.slice p4 0 r4) (.slice p5 0 r5) (.slice p6 0 r6) (.slice p7 0 r7) (.slice p8 0 r8) (.slice p9 0 r9) (.slice p10 0 r10)
      have b6 := below11 (n := W.heap.size) W.heap.size (Nat.le_refl _) (Below.refl W.heap.size w5) (.string N) (.slice p1 2 r1) (.slice none 0 0) (.slice p3 0 r3) (.slice p4 0 r4) (.slice p5 0 r5) (.slice p6 0 r6) (.slice p7 0 r7) (.slice p8 0 r8) (.slice p9 0 r9) (.slice p10 0 r10)
      have m6 := other11 (b := W.heap.size) M5.out (by rw [HS1.out]; omega) (.string N) (.slice p1 2 r1) (.slice none 0 0) (.slice p3 0 r3) (.slice p4 0 r4) (.slice p5 0 r5) (.slice p6 0 r6) (.slice p7 0 r7) (.slice p8 0 r8) (.slice p9 0 r9) (.slice p10 0 r10)
      have l6 := L5.out.keep b6 (Nat.le_refl _)
      generalize (((((((((((w5.setCell ⟨W.heap.size, 0, none⟩ (.string N)).setCell ⟨W.heap.size, 1, none⟩ (.slice p1 2 r1)).setCell ⟨W.heap.size, 2, none⟩ (.slice none 0 0)).setCell ⟨W.heap.size, 3, none⟩ (.slice p3 0 r3)).setCell ⟨W.heap.size, 4, none⟩ (.slice p4 0 r4)).setCell ⟨W.heap.size, 5, none⟩ (.slice p5 0 r5)).setCell ⟨W.heap.size, 6, none⟩ (.slice p6 0 r6)).setCell ⟨W.heap.size, 7, none⟩ (.slice p7 0 r7)).setCell ⟨W.heap.size, 8, none⟩ (.slice p8 0 r8)).setCell ⟨W.heap.size, 9, none⟩ (.slice p9 0 r9)).setCell ⟨W.heap.size, 10, none⟩ (.slice p10 0 r10)) = w6 at *
      clear b6 f0 f1 f2 f3 f4 f5 f6 f7 f8 f9 f10 h0 h1 h2 h3 h4 h5 h6 h7 h8 h9 h10 fl K5 M5 L5
      obtain ⟨KC, hKC⟩ : ∃ KC : Array Value, KC = #[.string N, .slice p1 2 r1, .slice none 0 0, .slice p3 0 r3, .slice p4 0 r4, .slice p5 0 r5, .slice p6 0 r6, .slice p7 0 r7, .slice p8 0 r8, .slice p9 0 r9, .slice p10 0 r10] := ⟨_, rfl⟩
      rw [← hKC] at k6
      have HKC : Hid _ := hKC
      have KM6 : Hid (Ob w6 W.heap.size KC 42 ∧ Ob w6 w1.heap.size (exG N gf 2) 42) := ⟨k6, m6⟩
      have L6 : Hid (∃ a g, Lz W w6 bh ba bq bp bs be vf H a g ∧ g F1 = none ∧ g F2 = none) := ⟨_, _, l6, by unfold gput; rw [if_neg NE.out.1], by unfold gput; rw [if_neg NE.out.2.1]⟩
      unfold exG at m6
      have d1 : w6.cell? ⟨w1.heap.size, 1, none⟩ = some (.slice (some ⟨gf, 0, none⟩) 2 2) := m6.cell 1 rfl
      have dl : w1.heap.size < w6.heap.size := m6.lt
      clear k6 m6 l6 hKC
      go_wp2
      clear d1 dl
      go_loopw [44] (fun v wr => (v = .int .i64 0 ∧ Hid (∃ a g, Lz W wr bh ba bq bp bs be vf H a g ∧ g F1 = none ∧ g F2 = none) ∧ Hid (Ob wr W.heap.size KC 42 ∧ Ob wr w1.heap.size (exG N gf 2) 42)) ∨ (v = .int .i64 1 ∧ Hid (∃ a g, Lz W wr bh ba bq bp bs be vf H a g ∧ g F2 = none) ∧ Hid (Ob wr W.heap.size KC 42 ∧ Ob wr w1.heap.size (exG N gf 2) 42)) ∨ (v = .int .i64 2 ∧ Hid (∃ a g, Lz W wr bh ba bq bp bs be vf H a g) ∧ Hid (Ob wr W.heap.size KC 42 ∧ Ob wr w1.heap.size (exG N gf 2) 42))) (fun v _ => 3 - (intOf v).toNat)
      case atStart => exact .inl ⟨rfl, L6, KM6⟩
      case round =>
        rcases hrel with ⟨rfl, LW, KMr⟩ | ⟨rfl, LW, KMr⟩ | ⟨rfl, LW, KMr⟩
        · obtain ⟨ga, gg, hl, hg1, hg2⟩ := LW.out
          have FR : Ob wr gf (exR S1 S2) 34 := hgf.out.1.grown hl.gr (fun e => hgf.out.2 (Option.some.inj e))
          unfold exR at FR
          have d0 : wr.cell? ⟨gf, 0, none⟩ = some _ := FR.cell 0 rfl
          have d1 : wr.cell? ⟨gf, 1, none⟩ = some _ := FR.cell 1 rfl
          have d2 : wr.cell? ⟨gf, 2, none⟩ = some _ := FR.cell 2 rfl
          have d3 : wr.cell? ⟨gf, 3, none⟩ = some _ := FR.cell 3 rfl
          have d4 : wr.cell? ⟨gf, 4, none⟩ = some _ := FR.cell 4 rfl
          have d5 : wr.cell? ⟨gf, 5, none⟩ = some _ := FR.cell 5 rfl
          have d6 : wr.cell? ⟨gf, 6, none⟩ = some _ := FR.cell 6 rfl
          have d7 : wr.cell? ⟨gf, 7, none⟩ = some _ := FR.cell 7 rfl
          have d8 : wr.cell? ⟨gf, 8, none⟩ = some _ := FR.cell 8 rfl
          have d9 : wr.cell? ⟨gf, 9, none⟩ = some _ := FR.cell 9 rfl
          have d10 : wr.cell? ⟨gf, 10, none⟩ = some _ := FR.cell 10 rfl
          have d11 : wr.cell? ⟨gf, 11, none⟩ = some _ := FR.cell 11 rfl
          have d12 : wr.cell? ⟨gf, 12, none⟩ = some _ := FR.cell 12 rfl
          have dl := FR.lt
          obtain ⟨v5, hv5, hc5, o5⟩ := exF_new S1 wr
          unfold exF at hv5 o5
          have l5 := hl.keep hc5 hl.gr.size
          have HG : Hid (gg F1 = none ∧ gg F2 = none) := ⟨hg1, hg2⟩
          have QP : Hid _ := QPF1.out v5 l5.po HG.out.1
          obtain ⟨⟨x0, x1⟩, _, xl⟩ := ob2 l5.hb
          have y0 : v5.cell? ⟨wr.heap.size, 0, none⟩ = some (.string S1) := o5.cell 0 rfl
          have yl := o5.lt
          have KM5 : Hid (Ob v5 W.heap.size KC 42 ∧ Ob v5 w1.heap.size (exG N gf 2) 42) := ⟨KMr.out.1.below hc5 KMr.out.1.lt, KMr.out.2.below hc5 KMr.out.2.lt⟩
          have L5 : Hid _ := l5
          have HV5 : Hid _ := hv5
          clear hl l5 o5 hc5 hv5 FR LW KMr hg1 hg2
          go_upto_region 10 with fail
          rw [HV5.out]
          clear HV5 d0 d1 d2 d3 d4 d5 d6 d7 d8 d9 d10 d11 d12 dl
          go_wp2_with fail
          refine Calls.mono QP.out ?_
          rintro e v6 ⟨rfl, hg6, hm6⟩
          have LW6 : Hid (∃ a g, Lz W v6 bh ba bq bp bs be vf H a g ∧ g F2 = none) := ⟨_, _, L5.out.put hg6 hm6, by unfold gput; rw [if_neg (NE.out.2.2)]; exact HG.out.2⟩
          have KM6b : Hid (Ob v6 W.heap.size KC 42 ∧ Ob v6 w1.heap.size (exG N gf 2) 42) := ⟨KM5.out.1.grown hg6 (fun e => by have h1 := Option.some.inj e; have h2 := L5.out.lt.2.2.2.2.1; omega), KM5.out.2.grown hg6 (fun e => by have h1 := Option.some.inj e; have h2 := L5.out.lt.2.2.2.2.1; have h3 := HS1.out; omega)⟩
          clear hg6 hm6 QP L5 KM5 HG x0 x1 xl y0 yl
          go_wp2
          go_roundw
          case rel => first | exact .inr (.inl ⟨by go_num, LW6, KM6b⟩) | ((repeat apply Exists.intro); exact ⟨.inr (.inl ⟨by go_num, LW6, KM6b⟩), rfl⟩)
          case measure => simp [intOf]
        · obtain ⟨ga, gg, hl, hg2⟩ := LW.out
          have FR : Ob wr gf (exR S1 S2) 34 := hgf.out.1.grown hl.gr (fun e => hgf.out.2 (Option.some.inj e))
          unfold exR at FR
          have d0 : wr.cell? ⟨gf, 13, none⟩ = some _ := FR.cell 13 rfl
          have d1 : wr.cell? ⟨gf, 14, none⟩ = some _ := FR.cell 14 rfl
          have d2 : wr.cell? ⟨gf, 15, none⟩ = some _ := FR.cell 15 rfl
          have d3 : wr.cell? ⟨gf, 16, none⟩ = some _ := FR.cell 16 rfl
          have d4 : wr.cell? ⟨gf, 17, none⟩ = some _ := FR.cell 17 rfl
          have d5 : wr.cell? ⟨gf, 18, none⟩ = some _ := FR.cell 18 rfl
          have d6 : wr.cell? ⟨gf, 19, none⟩ = some _ := FR.cell 19 rfl
          have d7 : wr.cell? ⟨gf, 20, none⟩ = some _ := FR.cell 20 rfl
          have d8 : wr.cell? ⟨gf, 21, none⟩ = some _ := FR.cell 21 rfl
          have d9 : wr.cell? ⟨gf, 22, none⟩ = some _ := FR.cell 22 rfl
          have d10 : wr.cell? ⟨gf, 23, none⟩ = some _ := FR.cell 23 rfl
          have d11 : wr.cell? ⟨gf, 24, none⟩ = some _ := FR.cell 24 rfl
          have d12 : wr.cell? ⟨gf, 25, none⟩ = some _ := FR.cell 25 rfl
          have dl := FR.lt
          obtain ⟨v5, hv5, hc5, o5⟩ := exF_new S2 wr
          unfold exF at hv5 o5
          have l5 := hl.keep hc5 hl.gr.size
          have HG : Hid (gg F2 = none) := hg2
          have QP : Hid _ := QPF2.out v5 l5.po HG.out
          obtain ⟨⟨x0, x1⟩, _, xl⟩ := ob2 l5.hb
          have y0 : v5.cell? ⟨wr.heap.size, 0, none⟩ = some (.string S2) := o5.cell 0 rfl
          have yl := o5.lt
          have KM5 : Hid (Ob v5 W.heap.size KC 42 ∧ Ob v5 w1.heap.size (exG N gf 2) 42) := ⟨KMr.out.1.below hc5 KMr.out.1.lt, KMr.out.2.below hc5 KMr.out.2.lt⟩
          have L5 : Hid _ := l5
          have HV5 : Hid _ := hv5
          clear hl l5 o5 hc5 hv5 FR LW KMr hg2
          go_upto_region 10 with fail
          rw [HV5.out]
          clear HV5 d0 d1 d2 d3 d4 d5 d6 d7 d8 d9 d10 d11 d12 dl
          go_wp2_with fail
          refine Calls.mono QP.out ?_
          rintro e v6 ⟨rfl, hg6, hm6⟩
          have LW6 : Hid (∃ a g, Lz W v6 bh ba bq bp bs be vf H a g) := ⟨_, _, L5.out.put hg6 hm6⟩
          have KM6b : Hid (Ob v6 W.heap.size KC 42 ∧ Ob v6 w1.heap.size (exG N gf 2) 42) := ⟨KM5.out.1.grown hg6 (fun e => by have h1 := Option.some.inj e; have h2 := L5.out.lt.2.2.2.2.1; omega), KM5.out.2.grown hg6 (fun e => by have h1 := Option.some.inj e; have h2 := L5.out.lt.2.2.2.2.1; have h3 := HS1.out; omega)⟩
          clear hg6 hm6 QP L5 KM5 HG x0 x1 xl y0 yl
          go_wp2
          go_roundw
          case rel => first | exact .inr (.inr (⟨by go_num, LW6, KM6b⟩)) | ((repeat apply Exists.intro); exact ⟨.inr (.inr (⟨by go_num, LW6, KM6b⟩)), rfl⟩)
          case measure => simp [intOf]
        · obtain ⟨ga, gg, hl⟩ := LW.out
          have L6 : Hid _ := hl
          have K6 : Hid _ := KMr.out.1
          have M6 : Hid _ := KMr.out.2
          clear hl LW

          have m6 := M6.out
          unfold exG at m6
          have d2 : wr.cell? ⟨w1.heap.size, 2, none⟩ = some (.slice none 0 0) := m6.cell 2 rfl
          have d6 : wr.cell? ⟨w1.heap.size, 6, none⟩ = some (.slice none 0 0) := m6.cell 6 rfl
          have dl : w1.heap.size < wr.heap.size := m6.lt
          obtain ⟨e1, _, el⟩ := ob1 L6.out.qb
          unfold layV at e1
          have QZ : Hid _ := fun (s p1 p2 p3 : Value) => play0 s p1 p2 p3 none 0 wr
          obtain ⟨wy, hwy⟩ : ∃ wy, wy = wr := ⟨_, rfl⟩
          subst hwy
          clear m6 KMr M6
          go_wp2
          go_loopw [58] (fun v wr => v = .int .i64 0 ∧ wy = wr) (fun _ _ => 0)
          case atStart => exact ⟨rfl, rfl⟩
          case round =>
            obtain ⟨rfl, rfl⟩ := hrel
            go_wp2_with fail
            refine Calls.mono (QZ.out _ _ _ _) ?_
            rintro e w7 ⟨na, nc, rfl, hb7⟩
            have k7 := K6.out.below hb7 K6.out.lt
            rw [HKC.out] at k7
            have L7 : Hid _ := L6.out.keep hb7 (Nat.le_of_lt K6.out.lt)
            obtain ⟨w8, hw8⟩ : ∃ w8, w8 = w7.setCell ⟨W.heap.size, 2, none⟩ (.slice na 0 nc) := ⟨_, rfl⟩
            have k8 := k7.set 2 (.slice na 0 nc)
            rw [← hw8] at k8
            have L8 : Hid _ := L7.out.keep (show Below W.heap.size w7 w8 by rw [hw8]; exact (Below.refl _ _).setCell (p := ⟨W.heap.size, 2, none⟩) (Nat.le_refl _) _) (Nat.le_refl _)
            have s1 : w7.cell? ⟨W.heap.size, 2, none⟩ = some (.slice none 0 0) := k7.cell 2 rfl
            have s2 : w7.frozen? ⟨W.heap.size, 2, none⟩ = false := k7.frozen 2
            have s3 : W.heap.size < w7.heap.size := k7.lt
            have q8 := L8.out.hb
            have a0 := fun x : Ext w8 => x.cell (p := ⟨bh, 0, none⟩) q8.lt (q8.cell 0 rfl)
            have a1 := fun x : Ext w8 => x.cell (p := ⟨bh, 1, none⟩) q8.lt (q8.cell 1 rfl)
            have a2 := fun x : Ext w8 => x.cell (p := ⟨W.heap.size, 3, none⟩) k8.lt (k8.cell 3 rfl)
            have K8 : Hid _ := k8
            have HW8 : Hid _ := hw8
            clear hb7 k7 k8 q8 hw8 L7 L6 K6 QZ d2 d6 dl e1 el
            go_upto_region 18 with fail
            rw [← HW8.out]
            clear HW8 s1 s2 s3
            refine wp_region_ext w8 (Below.refl _ _) (by kernel_rfl) (by kernel_rfl) ?_
            repeat (go_big_quiet_step (first
              | (go_at_call 149; exact Ext.call (fun V hV => penums0 _ _ _ _ _ V) _)))
            refine wpQuiet_nil ?_
            rintro w9 ⟨⟨_, hb9⟩, rfl⟩
            have l9 := L8.out.keep hb9 (Nat.le_of_lt K8.out.lt)
            have k9 := K8.out.below hb9 K8.out.lt
            have q9 := l9.hb
            clear a0 a1 a2
            have a0 := fun x : Ext w9 => x.cell (p := ⟨bh, 0, none⟩) q9.lt (q9.cell 0 rfl)
            have a1 := fun x : Ext w9 => x.cell (p := ⟨bh, 1, none⟩) q9.lt (q9.cell 1 rfl)
            have a2 := fun x : Ext w9 => x.cell (p := ⟨W.heap.size, 5, none⟩) k9.lt (k9.cell 5 rfl)
            have L9 : Hid _ := l9
            have K9 : Hid (W.heap.size < w9.heap.size) := k9.lt
            clear l9 k9 q9 hb9 L8 K8
            go_upto_region 19 with fail
            refine wp_region_ext w9 (Below.refl _ _) (by kernel_rfl) (by kernel_rfl) ?_
            repeat (go_big_quiet_step (first
              | (go_at_call 150; exact Ext.call (fun V hV => pexts0 _ _ _ _ _ V) _)))
            refine wpQuiet_nil ?_
            rintro w10 ⟨⟨_, hb10⟩, rfl⟩
            have L10 : Hid (∃ n g, Lz W w10 bh ba bq bp bs be vf H n g) := ⟨_, _, L9.out.keep hb10 (Nat.le_of_lt K9.out)⟩
            clear a0 a1 a2 hb10 L9 K9
            go_wp2
            go_roundw
            case rel => first | exact .inr ⟨by go_num, L10⟩ | ((repeat apply Exists.intro); exact ⟨.inr ⟨by go_num, L10⟩, rfl⟩)
            case measure => simp [intOf]
    · go_wp2
      go_ret
      exact ⟨rfl, HL.out⟩

theorem str_inj {a b : List Int} (ha : byts a) (hb : byts b) (h : strOfNums a = strOfNums b) : a = b := by
  have h1 := congrArg (fun x : ByteArray => x.data.toList) h
  simp only [strOfNums_data] at h1
  clear h
  induction a generalizing b with
  | nil => cases b with
    | nil => rfl
    | cons y r => simp at h1
  | cons x l ih => cases b with
    | nil => simp at h1
    | cons y r =>
      simp only [List.map_cons, List.cons.injEq] at h1
      rw [u8_inj (ha x (by simp)) (hb y (by simp)) h1.1, ih (fun z hz => ha z (by simp [hz])) (fun z hz => hb z (by simp [hz])) h1.2]

theorem wpList_append_eqV {w : World} {ops : Array Oper} {rest : List Oper} {o : Oper} {f : Act} {Q : Exit → Act → World → Prop} (hgd : o.guard = none) (s x : Operand) (T : TypeId)
    (ho : o.op = .call { callee := .builtin .append, args := #[s, x], argTypes := #[T, T] }) {vs vx v' : Value} {w' : World} (hs : f.eval s = vs) (hx : f.eval x = vx) (hrun : (Builtin.append_ #[T, T] o.type #[vs, vx]).run Tryz.prog w = .ok v' w') (h : wpList Tryz.prog ops Q rest (f.put o.dst v') w') :
    wpList Tryz.prog ops Q (o :: rest) f w := by
  refine wpList_plain hgd fun K hK => ?_
  unfold Oper.wp
  simp [execOp, ho, resolve, invoke, builtin, hs, hx, hrun, Result.andThen]
  exact hK _ _ h

theorem infoFileV : (Tryz.prog.info? 46).map (fun i => (i.zero, i.size, i.bytes)) = some (some (.agg #[.string ⟨#[]⟩, .string ⟨#[]⟩, .slice none 0 0, .slice none 0 0, .slice none 0 0, .slice none 0 0, .slice none 0 0, .slice none 0 0, .string ⟨#[]⟩, .slice none 0 0, .slice none 0 0]), 11, ((Tryz.prog.info? 46).map (fun i => i.bytes)).getD 0) := by kernel_rfl

theorem infoFileB : ((Tryz.prog.info? 46).map (fun i => i.bytes)).getD 0 ≤ 1000 := of_decide_eq_true (by kernel_rfl)

structure Kp (W w : World) (bp bs : Nat) : Prop where
  os : w.os = W.os
  tape : w.tape = W.tape
  output : w.output = W.output
  size : W.heap.size ≤ w.heap.size
  block : ∀ k, k < W.heap.size → k ≠ bp → k ≠ bs → w.heap[k]? = W.heap[k]?

theorem Kp.ob {W w : World} {bp bs : Nat} (h : Kp W w bp bs) {b : Nat} {c : Array Value} {T : TypeId} (ho : Ob W b c T) (h1 : b ≠ bp) (h2 : b ≠ bs) : Ob w b c T := ⟨(h.block b ho.lt h1 h2).trans ho.eq⟩

end Go.Proofs.YtcnjjhdmnagkgaaGreatDoor
