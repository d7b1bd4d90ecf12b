/- Put together by a program out of these texts of mine: CkZ, VAwk, CkUn, CkFb. -/
import Derived.Test.YtcnjjhdmnagkgaaGreatDoorBunC9
import Derived.Test.YtcnjjhdmnagkgaaGreatDoorBunC11
import Derived.Test.YtcnjjhdmnagkgaaGreatDoorBunC16
import Derived.Test.YtcnjjhdmnagkgaaGreatDoorBunC25

namespace Go.Proofs.YtcnjjhdmnagkgaaGreatDoor
open Go.RowKit
set_option linter.unusedVariables false
set_option linter.unusedSimpArgs false

structure CFl (W w : World) (bp bs be : Nat) (A K : ByteArray) : Prop where
  r4 : Ob w W.heap.size #[.string ⟨#[]⟩] 9
  r5 : Ob w (W.heap.size + 1) #[.int .i64 0] 25
  po : Fx w (W.heap.size + 1 + 1) bp bs be A K
  kp : Kp W w bp bs

set_option maxRecDepth 100000 in
set_option maxHeartbeats 8000000 in
theorem cfill1 (A K : ByteArray) (HK : Hid (K = ⟨#[]⟩)) (hA : A.size ≤ 1000000) (nm s t : List Int) (hnb : Hid (byts nm)) (hsb : Hid (byts s)) (htb : Hid (byts t)) (hnl : nm.length ≤ 1000) (hsl : s.length ≤ 1000) (htl : t.length ≤ 1000) (hf1 : strOfNums (njoin nm s) ≠ strOfNums nm) (hf2 : strOfNums (njoin nm t) ≠ strOfNums nm) (hf3 : strOfNums (njoin nm t) ≠ strOfNums (njoin nm s)) (gm gf gl : Nat) (W : World) {bp bs be : Nat} (hP : Hid (Po W bp bs be (.slice none 0 0) 0 (fun _ => none))) (hgm : Ob W gm (exG (strOfNums nm) gf 1) 42) (hgfl : Ob W gl (fil1 A K K gm) 46) (hgn : gm ≠ bs) (hgf : Hid (Ob W gf (exF (strOfNums s)) 34 ∧ gf ≠ bs)) :
    Calls Tryz.prog 69 #[.pointer (some ⟨bp, 0, none⟩), .slice (some ⟨gl, 0, none⟩) 1 1] W fun e W' => e = .returned (.tuple #[.string ⟨#[]⟩, .int .i64 0]) ∧ Kp W W' bp bs ∧ Fx W' W.heap.size bp bs be A K := by
  have hmf : ∀ (fn : Fn) (first cap : Array Value) (w : World), (Instr.makeFunc fn first cap).run Tryz.prog w = .ok (.func fn first cap) w := fun _ _ _ _ => rfl
  obtain ⟨w1, hw1⟩ : ∃ w1, w1 = (W.alloc (.cells #[.string ⟨#[]⟩] 9)).alloc (.cells #[.int .i64 0] 25) := ⟨_, rfl⟩
  have hb1 : Below W.heap.size W w1 := by rw [hw1]; exact ((Below.refl _ _).alloc (Nat.le_refl _) _).alloc (by simp) _
  have r4 : Ob w1 W.heap.size #[.string ⟨#[]⟩] 9 := by rw [hw1]; exact (Ob.new _ _ _).alloc _
  have r5 : Ob w1 (W.heap.size + 1) #[.int .i64 0] 25 := by rw [hw1]; have := Ob.new (W.alloc (.cells #[.string ⟨#[]⟩] 9)) #[.int .i64 0] 25; simpa using this
  have P1 := hP.out.below hb1 (Nat.le_refl _)
  have g1 := hgm.below hb1 hgm.lt
  have f1 := hgfl.below hb1 hgfl.lt
  obtain ⟨w2, hw2⟩ : ∃ w2, w2 = w1.alloc (.cells (fil1 A K K gm) 46) := ⟨_, rfl⟩
  have hb2 : Below w1.heap.size w1 w2 := by rw [hw2]; exact (Below.refl _ _).alloc (Nat.le_refl _) _
  have QL : Hid _ := clayF1 A K HK hA nm s t hnb hsb htb hnl hsl htl hf1 hf2 hf3 gm gf w2 (show Hid _ from P1.below hb2 (Nat.le_refl _)) (g1.below hb2 g1.lt) hgn (show Hid _ from ⟨(hgf.out.1.below hb1 hgf.out.1.lt).below hb2 (Nat.lt_of_lt_of_le hgf.out.1.lt hb1.size), hgf.out.2⟩)
  have b2 : Ob w2 w1.heap.size (fil1 A K K gm) 46 := by rw [hw2]; exact Ob.new _ _ _
  have R4 : Hid _ := r4.below hb2 r4.lt
  have R5 : Hid _ := r5.below hb2 r5.lt
  have HK2 : Hid (Kp W w2 bp bs) := ((Kp.refl W bp bs).below hb1 (Nat.le_refl _)).below hb2 (Nat.le_of_lt r4.lt)
  have HL : Hid (bp < W.heap.size ∧ bs < W.heap.size) := ⟨hP.out.blk.lt, hP.out.sym.lt⟩
  have HX : Hid (be < W.heap.size) := hP.out.ext.lt
  unfold fil1 at *
  obtain ⟨⟨c0, c1, c2, c3, c4, c5, c6, c7, c8, c9, c10⟩, _, cl⟩ := ob11 f1
  obtain ⟨⟨d0, d1, d2, d3, d4, d5, d6, d7, d8, d9, d10⟩, _, dl⟩ := ob11 b2
  have HW1 : Hid _ := hw1
  have HW2 : Hid _ := hw2
  have HS2 : Hid (W.heap.size + 1 < w2.heap.size) := by have h1 := r5.lt; have h2 := hb2.size; show _ < _; omega
  clear hb1 hb2 r4 r5 P1 g1 f1 b2 hw1 hw2 hgm hgfl hP
  go_enter_defers Tryz.func69, Tryz.ntmps69
  go_upto_region 2 with fail
  rw [← HW1.out]
  clear HW1
  go_wp2
  go_loopw [13] (fun v wr => (v = .int .i64 0 ∧ w1 = wr) ∨ (v = .int .i64 1 ∧ Hid (CFl W wr bp bs be A K))) (fun v _ => 1 - (intOf v).toNat)
  case atStart => exact .inl ⟨rfl, rfl⟩
  case round =>
    rcases hrel with ⟨rfl, rfl⟩ | ⟨rfl, HF⟩
    · go_upto_region 5 with fail
      rw [← HW2.out]
      clear HW2
      go_wp2_with fail
      refine Calls.mono QL.out ?_
      rintro e w3 ⟨rfl, hk3, hp3⟩
      have HF3 : Hid (CFl W w3 bp bs be A K) := ⟨hk3.ob R4.out (by have := HL.out; omega) (by have := HL.out; omega), hk3.ob R5.out (by have := HL.out; omega) (by have := HL.out; omega), hp3.from HS2.out, HK2.out.trans hk3⟩
      clear hk3 hp3 QL c0 c1 c2 c3 c4 c5 c6 c7 c8 c9 c10 cl d0 d1 d2 d3 d4 d5 d6 d7 d8 d9 d10 dl
      go_wp2
      go_roundw
      case rel => first | exact .inr ⟨by go_num, HF3⟩ | ((repeat apply Exists.intro); exact ⟨.inr ⟨by go_num, HF3⟩, rfl⟩)
      case measure => simp [intOf]
    · have hp := HF.out.po
      obtain ⟨c, hrg, hnx⟩ := rng0 hp.ext.1
      have x2 : wr.cell? ⟨bp, 2, none⟩ = some (.map (some be)) := hp.ext.2.1
      have xl := hp.ext.2.2
      obtain ⟨w5, hw5⟩ : ∃ w5, w5 = wr.alloc (.mapIter (some be) c #[] c) := ⟨_, rfl⟩
      rw [← hw5] at hrg hnx
      have hb5 : Below wr.heap.size wr w5 := by rw [hw5]; exact (Below.refl _ _).alloc (Nat.le_refl _) _
      have q4 := HF.out.r4.below hb5 HF.out.r4.lt
      have q5 := HF.out.r5.below hb5 HF.out.r5.lt
      have P5 : Hid (Fx w5 (W.heap.size + 1 + 1) bp bs be A K) := hp.below hb5 (Nat.le_refl _)
      have HK5 : Hid (Kp W w5 bp bs) := HF.out.kp.below hb5 HF.out.kp.size
      obtain ⟨y1, y2, y3⟩ := ob1 q4
      obtain ⟨z1, z2, z3⟩ := ob1 q5
      have Q4 : Hid _ := q4
      have Q5 : Hid _ := q5
      clear hp hw5 hb5 q4 q5 HF QL HW2 c0 c1 c2 c3 c4 c5 c6 c7 c8 c9 c10 cl d0 d1 d2 d3 d4 d5 d6 d7 d8 d9 d10 dl R4 R5 HK2
      go_wp2
      go_loopw [26] (fun _ wx => w5 = wx) (fun _ _ => 0)
      case atStart => exact rfl
      case round =>
        obtain rfl := hrel
        go_wp2
        refine leaves_cons (f := 104) (args := #[.pointer (some ⟨W.heap.size, 0, none⟩), .pointer (some ⟨W.heap.size + 1, 0, none⟩)]) (by simp) (by simp [go_sem]) ?_
        refine (fill_idle _ _ _).mono ?_
        rintro e u' w'' ⟨rfl, rfl, rfl⟩
        have s4 : Ob ((w5.setCell ⟨W.heap.size, 0, none⟩ (.string ⟨#[]⟩)).setCell ⟨W.heap.size + 1, 0, none⟩ (.int .i64 0)) W.heap.size #[.string ⟨#[]⟩] 9 := by have := (Q4.out.set 0 (.string ⟨#[]⟩)).other (b' := W.heap.size + 1) (by omega) 0 (.int .i64 0); simpa using this
        have s5 : Ob ((w5.setCell ⟨W.heap.size, 0, none⟩ (.string ⟨#[]⟩)).setCell ⟨W.heap.size + 1, 0, none⟩ (.int .i64 0)) (W.heap.size + 1) #[.int .i64 0] 25 := by have := (Q5.out.other (b' := W.heap.size) (by omega) 0 (.string ⟨#[]⟩)).set 0 (.int .i64 0); simpa using this
        have hb6 : Below W.heap.size w5 ((w5.setCell ⟨W.heap.size, 0, none⟩ (.string ⟨#[]⟩)).setCell ⟨W.heap.size + 1, 0, none⟩ (.int .i64 0)) := ((Below.refl _ _).setCell (p := ⟨W.heap.size, 0, none⟩) (Nat.le_refl _) _).setCell (p := ⟨W.heap.size + 1, 0, none⟩) (by simp) _
        have hl0 := HL.out
        have hx0 := HX.out
        have PV : Hid (Fx ((w5.setCell ⟨W.heap.size, 0, none⟩ (.string ⟨#[]⟩)).setCell ⟨W.heap.size + 1, 0, none⟩ (.int .i64 0)) (W.heap.size + 1 + 1) bp bs be A K) := (P5.out.set 0 _ (by omega) (by omega) (by omega) (by omega)).set 0 _ (by omega) (by omega) (by omega) (by omega)
        generalize ((w5.setCell ⟨W.heap.size, 0, none⟩ (.string ⟨#[]⟩)).setCell ⟨W.heap.size + 1, 0, none⟩ (.int .i64 0)) = V at s4 s5 hb6 PV ⊢
        have hA7 : Below V.heap.size V (V.alloc (.cells #[.string ⟨#[]⟩] 181)) := (Below.refl _ _).alloc (Nat.le_refl _) _
        have hp := PV.out
        have hl := HL.out
        have hWV : W.heap.size ≤ V.heap.size := Nat.le_of_lt s4.lt
        have hb7 : Below W.heap.size w5 (V.alloc (.cells #[.string ⟨#[]⟩] 181)) := hb6.trans (hA7.mono hWV)
        have hx := HX.out
        exact ⟨.tuple #[.string ⟨#[]⟩, .int .i64 0], fill_res rfl rfl (s4.below hA7 s4.lt) (s5.below hA7 s5.lt), rfl, HK5.out.below hb7 (Nat.le_refl _), (hp.below hA7 (Nat.le_refl _)).from (by omega)⟩

set_option maxRecDepth 100000 in
set_option maxHeartbeats 8000000 in
theorem cfill2 (A K : ByteArray) (HK : Hid (K = ⟨#[]⟩)) (hA : A.size ≤ 1000000) (nm s t : List Int) (hnb : Hid (byts nm)) (hsb : Hid (byts s)) (htb : Hid (byts t)) (hnl : nm.length ≤ 1000) (hsl : s.length ≤ 1000) (htl : t.length ≤ 1000) (hf1 : strOfNums (njoin nm s) ≠ strOfNums nm) (hf2 : strOfNums (njoin nm t) ≠ strOfNums nm) (hf3 : strOfNums (njoin nm t) ≠ strOfNums (njoin nm s)) (gm gf gl : Nat) (W : World) {bp bs be : Nat} (hP : Hid (Po W bp bs be (.slice none 0 0) 0 (fun _ => none))) (hgm : Ob W gm (exG (strOfNums nm) gf 2) 42) (hgfl : Ob W gl (fil1 A K K gm) 46) (hgn : gm ≠ bs) (hgf : Hid (Ob W gf (exR (strOfNums s) (strOfNums t)) 34 ∧ gf ≠ bs)) :
    Calls Tryz.prog 69 #[.pointer (some ⟨bp, 0, none⟩), .slice (some ⟨gl, 0, none⟩) 1 1] W fun e W' => e = .returned (.tuple #[.string ⟨#[]⟩, .int .i64 0]) ∧ Kp W W' bp bs ∧ Fx W' W.heap.size bp bs be A K := by
  have hmf : ∀ (fn : Fn) (first cap : Array Value) (w : World), (Instr.makeFunc fn first cap).run Tryz.prog w = .ok (.func fn first cap) w := fun _ _ _ _ => rfl
  obtain ⟨w1, hw1⟩ : ∃ w1, w1 = (W.alloc (.cells #[.string ⟨#[]⟩] 9)).alloc (.cells #[.int .i64 0] 25) := ⟨_, rfl⟩
  have hb1 : Below W.heap.size W w1 := by rw [hw1]; exact ((Below.refl _ _).alloc (Nat.le_refl _) _).alloc (by simp) _
  have r4 : Ob w1 W.heap.size #[.string ⟨#[]⟩] 9 := by rw [hw1]; exact (Ob.new _ _ _).alloc _
  have r5 : Ob w1 (W.heap.size + 1) #[.int .i64 0] 25 := by rw [hw1]; have := Ob.new (W.alloc (.cells #[.string ⟨#[]⟩] 9)) #[.int .i64 0] 25; simpa using this
  have P1 := hP.out.below hb1 (Nat.le_refl _)
  have g1 := hgm.below hb1 hgm.lt
  have f1 := hgfl.below hb1 hgfl.lt
  obtain ⟨w2, hw2⟩ : ∃ w2, w2 = w1.alloc (.cells (fil1 A K K gm) 46) := ⟨_, rfl⟩
  have hb2 : Below w1.heap.size w1 w2 := by rw [hw2]; exact (Below.refl _ _).alloc (Nat.le_refl _) _
  have QL : Hid _ := clayF2 A K HK hA nm s t hnb hsb htb hnl hsl htl hf1 hf2 hf3 gm gf w2 (show Hid _ from P1.below hb2 (Nat.le_refl _)) (g1.below hb2 g1.lt) hgn (show Hid _ from ⟨(hgf.out.1.below hb1 hgf.out.1.lt).below hb2 (Nat.lt_of_lt_of_le hgf.out.1.lt hb1.size), hgf.out.2⟩)
  have b2 : Ob w2 w1.heap.size (fil1 A K K gm) 46 := by rw [hw2]; exact Ob.new _ _ _
  have R4 : Hid _ := r4.below hb2 r4.lt
  have R5 : Hid _ := r5.below hb2 r5.lt
  have HK2 : Hid (Kp W w2 bp bs) := ((Kp.refl W bp bs).below hb1 (Nat.le_refl _)).below hb2 (Nat.le_of_lt r4.lt)
  have HL : Hid (bp < W.heap.size ∧ bs < W.heap.size) := ⟨hP.out.blk.lt, hP.out.sym.lt⟩
  have HX : Hid (be < W.heap.size) := hP.out.ext.lt
  unfold fil1 at *
  obtain ⟨⟨c0, c1, c2, c3, c4, c5, c6, c7, c8, c9, c10⟩, _, cl⟩ := ob11 f1
  obtain ⟨⟨d0, d1, d2, d3, d4, d5, d6, d7, d8, d9, d10⟩, _, dl⟩ := ob11 b2
  have HW1 : Hid _ := hw1
  have HW2 : Hid _ := hw2
  have HS2 : Hid (W.heap.size + 1 < w2.heap.size) := by have h1 := r5.lt; have h2 := hb2.size; show _ < _; omega
  clear hb1 hb2 r4 r5 P1 g1 f1 b2 hw1 hw2 hgm hgfl hP
  go_enter_defers Tryz.func69, Tryz.ntmps69
  go_upto_region 2 with fail
  rw [← HW1.out]
  clear HW1
  go_wp2
  go_loopw [13] (fun v wr => (v = .int .i64 0 ∧ w1 = wr) ∨ (v = .int .i64 1 ∧ Hid (CFl W wr bp bs be A K))) (fun v _ => 1 - (intOf v).toNat)
  case atStart => exact .inl ⟨rfl, rfl⟩
  case round =>
    rcases hrel with ⟨rfl, rfl⟩ | ⟨rfl, HF⟩
    · go_upto_region 5 with fail
      rw [← HW2.out]
      clear HW2
      go_wp2_with fail
      refine Calls.mono QL.out ?_
      rintro e w3 ⟨rfl, hk3, hp3⟩
      have HF3 : Hid (CFl W w3 bp bs be A K) := ⟨hk3.ob R4.out (by have := HL.out; omega) (by have := HL.out; omega), hk3.ob R5.out (by have := HL.out; omega) (by have := HL.out; omega), hp3.from HS2.out, HK2.out.trans hk3⟩
      clear hk3 hp3 QL c0 c1 c2 c3 c4 c5 c6 c7 c8 c9 c10 cl d0 d1 d2 d3 d4 d5 d6 d7 d8 d9 d10 dl
      go_wp2
      go_roundw
      case rel => first | exact .inr ⟨by go_num, HF3⟩ | ((repeat apply Exists.intro); exact ⟨.inr ⟨by go_num, HF3⟩, rfl⟩)
      case measure => simp [intOf]
    · have hp := HF.out.po
      obtain ⟨c, hrg, hnx⟩ := rng0 hp.ext.1
      have x2 : wr.cell? ⟨bp, 2, none⟩ = some (.map (some be)) := hp.ext.2.1
      have xl := hp.ext.2.2
      obtain ⟨w5, hw5⟩ : ∃ w5, w5 = wr.alloc (.mapIter (some be) c #[] c) := ⟨_, rfl⟩
      rw [← hw5] at hrg hnx
      have hb5 : Below wr.heap.size wr w5 := by rw [hw5]; exact (Below.refl _ _).alloc (Nat.le_refl _) _
      have q4 := HF.out.r4.below hb5 HF.out.r4.lt
      have q5 := HF.out.r5.below hb5 HF.out.r5.lt
      have P5 : Hid (Fx w5 (W.heap.size + 1 + 1) bp bs be A K) := hp.below hb5 (Nat.le_refl _)
      have HK5 : Hid (Kp W w5 bp bs) := HF.out.kp.below hb5 HF.out.kp.size
      obtain ⟨y1, y2, y3⟩ := ob1 q4
      obtain ⟨z1, z2, z3⟩ := ob1 q5
      have Q4 : Hid _ := q4
      have Q5 : Hid _ := q5
      clear hp hw5 hb5 q4 q5 HF QL HW2 c0 c1 c2 c3 c4 c5 c6 c7 c8 c9 c10 cl d0 d1 d2 d3 d4 d5 d6 d7 d8 d9 d10 dl R4 R5 HK2
      go_wp2
      go_loopw [26] (fun _ wx => w5 = wx) (fun _ _ => 0)
      case atStart => exact rfl
      case round =>
        obtain rfl := hrel
        go_wp2
        refine leaves_cons (f := 104) (args := #[.pointer (some ⟨W.heap.size, 0, none⟩), .pointer (some ⟨W.heap.size + 1, 0, none⟩)]) (by simp) (by simp [go_sem]) ?_
        refine (fill_idle _ _ _).mono ?_
        rintro e u' w'' ⟨rfl, rfl, rfl⟩
        have s4 : Ob ((w5.setCell ⟨W.heap.size, 0, none⟩ (.string ⟨#[]⟩)).setCell ⟨W.heap.size + 1, 0, none⟩ (.int .i64 0)) W.heap.size #[.string ⟨#[]⟩] 9 := by have := (Q4.out.set 0 (.string ⟨#[]⟩)).other (b' := W.heap.size + 1) (by omega) 0 (.int .i64 0); simpa using this
        have s5 : Ob ((w5.setCell ⟨W.heap.size, 0, none⟩ (.string ⟨#[]⟩)).setCell ⟨W.heap.size + 1, 0, none⟩ (.int .i64 0)) (W.heap.size + 1) #[.int .i64 0] 25 := by have := (Q5.out.other (b' := W.heap.size) (by omega) 0 (.string ⟨#[]⟩)).set 0 (.int .i64 0); simpa using this
        have hb6 : Below W.heap.size w5 ((w5.setCell ⟨W.heap.size, 0, none⟩ (.string ⟨#[]⟩)).setCell ⟨W.heap.size + 1, 0, none⟩ (.int .i64 0)) := ((Below.refl _ _).setCell (p := ⟨W.heap.size, 0, none⟩) (Nat.le_refl _) _).setCell (p := ⟨W.heap.size + 1, 0, none⟩) (by simp) _
        have hl0 := HL.out
        have hx0 := HX.out
        have PV : Hid (Fx ((w5.setCell ⟨W.heap.size, 0, none⟩ (.string ⟨#[]⟩)).setCell ⟨W.heap.size + 1, 0, none⟩ (.int .i64 0)) (W.heap.size + 1 + 1) bp bs be A K) := (P5.out.set 0 _ (by omega) (by omega) (by omega) (by omega)).set 0 _ (by omega) (by omega) (by omega) (by omega)
        generalize ((w5.setCell ⟨W.heap.size, 0, none⟩ (.string ⟨#[]⟩)).setCell ⟨W.heap.size + 1, 0, none⟩ (.int .i64 0)) = V at s4 s5 hb6 PV ⊢
        have hA7 : Below V.heap.size V (V.alloc (.cells #[.string ⟨#[]⟩] 181)) := (Below.refl _ _).alloc (Nat.le_refl _) _
        have hp := PV.out
        have hl := HL.out
        have hWV : W.heap.size ≤ V.heap.size := Nat.le_of_lt s4.lt
        have hb7 : Below W.heap.size w5 (V.alloc (.cells #[.string ⟨#[]⟩] 181)) := hb6.trans (hA7.mono hWV)
        have hx := HX.out
        exact ⟨.tuple #[.string ⟨#[]⟩, .int .i64 0], fill_res rfl rfl (s4.below hA7 s4.lt) (s5.below hA7 s5.lt), rfl, HK5.out.below hb7 (Nat.le_refl _), (hp.below hA7 (Nat.le_refl _)).from (by omega)⟩

set_option maxRecDepth 20000 in
set_option maxHeartbeats 4000000 in
theorem cnew1 (A K : ByteArray) (HK : Hid (K = ⟨#[]⟩)) (hA : A.size ≤ 1000000) (nm s t : List Int) (hnb : Hid (byts nm)) (hsb : Hid (byts s)) (htb : Hid (byts t)) (hnl : nm.length ≤ 1000) (hsl : s.length ≤ 1000) (htl : t.length ≤ 1000) (hf1 : strOfNums (njoin nm s) ≠ strOfNums nm) (hf2 : strOfNums (njoin nm t) ≠ strOfNums nm) (hf3 : strOfNums (njoin nm t) ≠ strOfNums (njoin nm s)) (gm gf gl : Nat) (W : World) (hgm : Ob W gm (exG (strOfNums nm) gf 1) 42) (hgfl : Ob W gl (fil1 A K K gm) 46) (hgf : Hid (Ob W gf (exF (strOfNums s)) 34)) :
    Calls Tryz.prog 36 #[.slice (some ⟨gl, 0, none⟩) 1 1] W fun e W' => ∃ bp bs be, e = .returned (.tuple #[.pointer (some ⟨bp, 0, none⟩), .string ⟨#[]⟩, .int .i64 0]) ∧ Below W.heap.size W W' ∧ Fx W' W.heap.size bp bs be A K := by
  have hmm := @run_makeMap Tryz.prog
  have QC : Hid _ := cconf1 A K K (strOfNums nm) gf 1 gm gl W hgm hgfl
  have GM : Hid _ := hgm
  have GL : Hid _ := hgfl
  clear hgm hgfl
  go_enter Tryz.func36, Tryz.ntmps36
  go_wp2_with fail
  refine Calls.mono QC.out ?_
  rintro e w1 ⟨rfl, hb1⟩
  obtain ⟨w2, hw2⟩ : ∃ w2, w2 = ((w1.alloc (.map #[] 0)).alloc (.map #[] 0)).alloc (.cells #[.slice none 0 0, .map (some w1.heap.size), .map (some (w1.heap.size + 1))] 143) := ⟨_, rfl⟩
  have hb2 : Below w1.heap.size w1 w2 := by rw [hw2]; exact (((Below.refl _ _).alloc (Nat.le_refl _) _).alloc (by simp) _).alloc (by simp; omega) _
  have P2 : Hid (Po w2 (w1.heap.size + 1 + 1) w1.heap.size (w1.heap.size + 1) (.slice none 0 0) 0 (fun _ => none)) := by
    refine ⟨?_, ?_, ?_, ⟨by omega, by omega, by omega⟩, ⟨_, _, _, rfl⟩⟩
    · rw [hw2]
      have := Ob.new ((w1.alloc (.map #[] 0)).alloc (.map #[] 0)) #[.slice none 0 0, .map (some w1.heap.size), .map (some (w1.heap.size + 1))] 143
      simpa using this
    · rw [hw2]
      exact ((Mg.made w1).below (m := w1.heap.size + 1) ((Below.refl _ _).alloc (by simp) _) (by omega)).below (m := w1.heap.size + 1) ((Below.refl _ _).alloc (by simp) _) (by omega)
    · rw [hw2]
      have := (Mg.made (w1.alloc (.map #[] 0))).below (m := w1.heap.size + 1 + 1) ((Below.refl _ _).alloc (o := .cells #[.slice none 0 0, .map (some w1.heap.size), .map (some (w1.heap.size + 1))] 143) (by simp)) (by simp)
      simpa using this
  have hgl := GM.out.lt
  have QF : Hid _ := cfill1 A K HK hA nm s t hnb hsb htb hnl hsl htl hf1 hf2 hf3 gm gf gl w2 P2 ((GM.out.below hb1 GM.out.lt).below hb2 (Nat.lt_of_lt_of_le GM.out.lt hb1.size)) ((GL.out.below hb1 GL.out.lt).below hb2 (Nat.lt_of_lt_of_le GL.out.lt hb1.size)) (by have := hb1.size; omega) (show Hid _ from ⟨(hgf.out.below hb1 hgf.out.lt).below hb2 (Nat.lt_of_lt_of_le hgf.out.lt hb1.size), by have h1 := hb1.size; have h2 := hgf.out.lt; omega⟩)
  have HB2 : Hid (Below W.heap.size W w2) := hb1.trans (hb2.mono hb1.size)
  have HS : Hid (W.heap.size ≤ w1.heap.size) := hb1.size
  have HW2 : Hid _ := hw2
  clear hb1 hb2 hw2 QC GM GL hgl P2
  go_upto_region 4 with fail
  rw [← HW2.out]
  clear HW2
  go_wp2_with fail
  refine Calls.mono QF.out ?_
  rintro e w3 ⟨rfl, hk3, hp3⟩
  have hb3 : Below W.heap.size w2 w3 := ⟨hk3.os, hk3.tape, hk3.output, hk3.size, fun k hk => hk3.block k (by have := HB2.out.size; omega) (by have := HS.out; omega) (by have := HS.out; omega)⟩
  have HB3 : Hid (Below W.heap.size W w3) := HB2.out.trans hb3
  have P3 : Hid (Fx w3 w2.heap.size (w1.heap.size + 1 + 1) w1.heap.size (w1.heap.size + 1) A K) := hp3
  clear hk3 hp3 hb3 QF
  go_wp2
  go_ret3
  exact ⟨_, _, _, rfl, HB3.out, P3.out.from HB2.out.size⟩

set_option maxRecDepth 20000 in
set_option maxHeartbeats 4000000 in
theorem cnew2 (A K : ByteArray) (HK : Hid (K = ⟨#[]⟩)) (hA : A.size ≤ 1000000) (nm s t : List Int) (hnb : Hid (byts nm)) (hsb : Hid (byts s)) (htb : Hid (byts t)) (hnl : nm.length ≤ 1000) (hsl : s.length ≤ 1000) (htl : t.length ≤ 1000) (hf1 : strOfNums (njoin nm s) ≠ strOfNums nm) (hf2 : strOfNums (njoin nm t) ≠ strOfNums nm) (hf3 : strOfNums (njoin nm t) ≠ strOfNums (njoin nm s)) (gm gf gl : Nat) (W : World) (hgm : Ob W gm (exG (strOfNums nm) gf 2) 42) (hgfl : Ob W gl (fil1 A K K gm) 46) (hgf : Hid (Ob W gf (exR (strOfNums s) (strOfNums t)) 34)) :
    Calls Tryz.prog 36 #[.slice (some ⟨gl, 0, none⟩) 1 1] W fun e W' => ∃ bp bs be, e = .returned (.tuple #[.pointer (some ⟨bp, 0, none⟩), .string ⟨#[]⟩, .int .i64 0]) ∧ Below W.heap.size W W' ∧ Fx W' W.heap.size bp bs be A K := by
  have hmm := @run_makeMap Tryz.prog
  have QC : Hid _ := cconf1 A K K (strOfNums nm) gf 2 gm gl W hgm hgfl
  have GM : Hid _ := hgm
  have GL : Hid _ := hgfl
  clear hgm hgfl
  go_enter Tryz.func36, Tryz.ntmps36
  go_wp2_with fail
  refine Calls.mono QC.out ?_
  rintro e w1 ⟨rfl, hb1⟩
  obtain ⟨w2, hw2⟩ : ∃ w2, w2 = ((w1.alloc (.map #[] 0)).alloc (.map #[] 0)).alloc (.cells #[.slice none 0 0, .map (some w1.heap.size), .map (some (w1.heap.size + 1))] 143) := ⟨_, rfl⟩
  have hb2 : Below w1.heap.size w1 w2 := by rw [hw2]; exact (((Below.refl _ _).alloc (Nat.le_refl _) _).alloc (by simp) _).alloc (by simp; omega) _
  have P2 : Hid (Po w2 (w1.heap.size + 1 + 1) w1.heap.size (w1.heap.size + 1) (.slice none 0 0) 0 (fun _ => none)) := by
    refine ⟨?_, ?_, ?_, ⟨by omega, by omega, by omega⟩, ⟨_, _, _, rfl⟩⟩
    · rw [hw2]
      have := Ob.new ((w1.alloc (.map #[] 0)).alloc (.map #[] 0)) #[.slice none 0 0, .map (some w1.heap.size), .map (some (w1.heap.size + 1))] 143
      simpa using this
    · rw [hw2]
      exact ((Mg.made w1).below (m := w1.heap.size + 1) ((Below.refl _ _).alloc (by simp) _) (by omega)).below (m := w1.heap.size + 1) ((Below.refl _ _).alloc (by simp) _) (by omega)
    · rw [hw2]
      have := (Mg.made (w1.alloc (.map #[] 0))).below (m := w1.heap.size + 1 + 1) ((Below.refl _ _).alloc (o := .cells #[.slice none 0 0, .map (some w1.heap.size), .map (some (w1.heap.size + 1))] 143) (by simp)) (by simp)
      simpa using this
  have hgl := GM.out.lt
  have QF : Hid _ := cfill2 A K HK hA nm s t hnb hsb htb hnl hsl htl hf1 hf2 hf3 gm gf gl w2 P2 ((GM.out.below hb1 GM.out.lt).below hb2 (Nat.lt_of_lt_of_le GM.out.lt hb1.size)) ((GL.out.below hb1 GL.out.lt).below hb2 (Nat.lt_of_lt_of_le GL.out.lt hb1.size)) (by have := hb1.size; omega) (show Hid _ from ⟨(hgf.out.below hb1 hgf.out.lt).below hb2 (Nat.lt_of_lt_of_le hgf.out.lt hb1.size), by have h1 := hb1.size; have h2 := hgf.out.lt; omega⟩)
  have HB2 : Hid (Below W.heap.size W w2) := hb1.trans (hb2.mono hb1.size)
  have HS : Hid (W.heap.size ≤ w1.heap.size) := hb1.size
  have HW2 : Hid _ := hw2
  clear hb1 hb2 hw2 QC GM GL hgl P2
  go_upto_region 4 with fail
  rw [← HW2.out]
  clear HW2
  go_wp2_with fail
  refine Calls.mono QF.out ?_
  rintro e w3 ⟨rfl, hk3, hp3⟩
  have hb3 : Below W.heap.size w2 w3 := ⟨hk3.os, hk3.tape, hk3.output, hk3.size, fun k hk => hk3.block k (by have := HB2.out.size; omega) (by have := HS.out; omega) (by have := HS.out; omega)⟩
  have HB3 : Hid (Below W.heap.size W w3) := HB2.out.trans hb3
  have P3 : Hid (Fx w3 w2.heap.size (w1.heap.size + 1 + 1) w1.heap.size (w1.heap.size + 1) A K) := hp3
  clear hk3 hp3 hb3 QF
  go_wp2
  go_ret3
  exact ⟨_, _, _, rfl, HB3.out, P3.out.from HB2.out.size⟩

theorem pool_ret {fn : Func} {R : Ending → World → Prop} {a : Act} {w : World} {p : Tmp} (h : fn.results = #[.cell p 143]) (gb : Nat) (cs : Array Value) (hs : cs.size = 3) (hp : a.tmps.getD p undef = .pointer (some ⟨gb, 0, none⟩)) (hg : Ob w gb cs 143) (hd : a.defers = []) (hR : R (.returned (.agg cs)) w) : bodyPost Tryz.prog fn R .ret a w := by
  refine bodyPost_ret (v := .agg cs) ?_ hd hR
  have hp' : a.tmps[p]?.getD undef = .pointer (some ⟨gb, 0, none⟩) := by simpa using hp
  have hsz : (Tryz.prog.info? 143).map (·.size) = some 3 := by kernel_rfl
  have hl := run_loadVar_row (P := Tryz.prog) w gb 143 143 cs (0, 0) _ hg.eq Tryz.underlying143 rfl (hsz.trans (by rw [hs]))
  simp [results, h, hp', asAddr, hl]

set_option maxRecDepth 20000 in
set_option maxHeartbeats 4000000 in
theorem pthere (bp : Nat) (xa : Option Addr) (xn xc : Nat) (ym zm : Option Nat) (W : World) (hb : Ob W bp #[.slice xa xn xc, .map ym, .map zm] 143) :
    Calls Tryz.prog 70 #[.pointer (some ⟨bp, 0, none⟩)] W fun e W' => e = .returned (.agg #[.slice xa xn xc, .map ym, .map zm]) ∧ Below W.heap.size W W' := by
  obtain ⟨⟨c0, c1, c2⟩, _, cl⟩ := ob3 hb
  have hcl : bp < W.heap.size := cl
  have n1 : Ob (W.alloc (.cells #[.slice none 0 0, .map none, .map none] 143)) W.heap.size #[.slice none 0 0, .map none, .map none] 143 := Ob.new _ _ _
  have n2 : Ob (W.alloc (.cells #[.slice xa xn xc, .map ym, .map zm] 143)) W.heap.size #[.slice xa xn xc, .map ym, .map zm] 143 := Ob.new _ _ _
  have HN : Hid _ := n2
  have HB : Hid (Below W.heap.size W (W.alloc (.cells #[.slice xa xn xc, .map ym, .map zm] 143))) := (Below.refl _ _).alloc (Nat.le_refl _) _
  clear n1 n2 hb
  go_enter Tryz.func70, Tryz.ntmps70
  go_wp2
  refine pool_ret (p := 2) ?_ W.heap.size #[.slice xa xn xc, .map ym, .map zm] rfl ?_ HN.out ?_ ?_
  · rfl
  · rfl
  · rfl
  · exact ⟨rfl, HB.out⟩

theorem infoUnitV : (Tryz.prog.info? 104).map (fun i => (i.zero, i.size, i.bytes)) = some (some (.agg #[.string ⟨#[]⟩, .slice none 0 0, .slice none 0 0]), 3, ((Tryz.prog.info? 104).map (fun i => i.bytes)).getD 0) := by kernel_rfl

theorem infoUnitB : ((Tryz.prog.info? 104).map (fun i => i.bytes)).getD 0 ≤ 1000 := of_decide_eq_true (by kernel_rfl)

theorem run_append_unitX (W : World) (a : Nat) (c : Nat) (A : ByteArray) (h : Ob W a #[.string A, .slice none 0 0, .slice none 0 0] 104) (ty : TypeId) :
    ∃ w' gx cp, (Builtin.append_ #[62, 62] ty #[.slice none 0 0, .slice (some ⟨a, 0, none⟩) 1 c]).run Tryz.prog W = .ok (.slice (some ⟨gx, 0, none⟩) 1 cp) w' ∧ W.grownBy w' none ∧ (W.heap.size ≤ gx ∧ gx < w'.heap.size ∧ 1 ≤ cp) ∧ ∀ (j : Nat) (v : Value), [.string A, .slice none 0 0, .slice none 0 0][j]? = some v → w'.cell? ⟨gx, j, none⟩ = some v := by
  obtain ⟨i0, hi, h2⟩ : ∃ i, Tryz.prog.info? 104 = some i ∧ (i.zero, i.size, i.bytes) = (some (.agg #[.string ⟨#[]⟩, .slice none 0 0, .slice none 0 0]), 3, ((Tryz.prog.info? 104).map (fun i => i.bytes)).getD 0) := by
    have := infoUnitV
    cases hq : Tryz.prog.info? 104 with
    | none => rw [hq] at this; cases this
    | some i => rw [hq] at this; exact ⟨i, rfl, Option.some.inj this⟩
  simp only [Prod.mk.injEq] at h2
  obtain ⟨z1, z2, z3⟩ := h2
  have hB := infoUnitB
  obtain ⟨v, w', hr, ho, hg, _, _⟩ := run_append_own_at (P := Tryz.prog) W W.heap.size 62 ty 104 i0 _ 3 i0.bytes Tryz.underlying62 hi z1 z2 rfl rfl (by omega) (.slice none 0 0) 0 [] (World.ownsRow_nil W W.heap.size 104 3) ⟨a, 0, none⟩ 1 c [.string A, .slice none 0 0, .slice none 0 0] rfl (fun j u hj => by
    have := h.cell j (v := u) (by simpa using hj)
    simp only [Addr.add]
    split
    · rename_i h0; rw [h0] at this; exact this
    · simpa using this) (by intro u hu; simp only [List.mem_cons, List.not_mem_nil, or_false] at hu; rcases hu with rfl | rfl | rfl <;> rfl) (by unfold maxLen; omega) (by rw [z3]; omega) (Nat.le_refl _)
  rcases ho.2 with ⟨e, h0⟩ | ⟨g, cp, cur, e, hcp, _⟩
  · omega
  · subst e
    have hlt := ho.lt g rfl
    refine ⟨w', g, cp, hr, hg, ⟨hlt.1, hlt.2, ?_⟩, fun j v hj => ?_⟩
    · have := ho.2
      rcases this with ⟨e, h0⟩ | ⟨g2, cp2, cur2, e2, h5, h6, h7, h8, h9, h10⟩
      · omega
      · cases e2
        omega
    have hjl : j < 3 := (List.getElem?_eq_some_iff.1 hj).1
    rw [ho.cellAt j (by simpa using hjl)]
    simpa using hj

set_option maxRecDepth 100000 in
set_option maxHeartbeats 4000000 in
theorem cunits (A K : ByteArray) (hA : A.size ≤ 1000000) {lo bp bs be : Nat} (W : World) (hF : Hid (Fx W lo bp bs be A K)) :
    Calls Tryz.prog 38 #[.pointer (some ⟨bp, 0, none⟩)] W fun e W' => ∃ gu cu, e = .returned (.slice (some ⟨gu, 0, none⟩) 1 cu) ∧ Below W.heap.size W W' ∧ gu < W'.heap.size ∧ 1 ≤ cu ∧ ∀ (j : Nat) (v : Value), [.string A, .slice none 0 0, .slice none 0 0][j]? = some v → W'.cell? ⟨gu, j, none⟩ = some v := by
  obtain ⟨gx, cx, ga, gb, gc, n, g, hp, hx1, hx2, hx3⟩ := hF.out
  have QT : Hid _ := pthere bp (some ⟨gx, 0, none⟩) 1 cx (some bs) (some be) W hp.blk
  have hf1 : ∀ w, (Instr.field 143 (.agg #[.slice (some ⟨gx, 0, none⟩) 1 cx, .map (some bs), .map (some be)]) 0).run Tryz.prog w = .ok (.slice (some ⟨gx, 0, none⟩) 1 cx) w := fun w => by kernel_rfl
  have HX : Hid (gx < W.heap.size ∧ ∀ j v, (#[.string A, .string K, .slice none 0 0, .slice none 0 0, .slice ga gb gc, .slice none 0 0, .slice none 0 0, .slice none 0 0, .string K, .slice none 0 0, .slice none 0 0] : Array Value)[j]? = some v → W.cell? ⟨gx, j, none⟩ = some v) := ⟨hx1, hx3⟩
  have QC : Hid _ := fun V => pnclone_any A V hA
  clear hp hx1 hx2 hx3 hF
  go_enter Tryz.func38, Tryz.ntmps38
  go_wp2_with fail
  refine Calls.mono QT.out ?_
  rintro e w1 ⟨rfl, hb1⟩
  have HB1 : Hid _ := hb1
  clear hb1 QT
  go_wp2
  go_loopw [3, 10] (fun l v wr => (l = .slice none 0 0 ∧ v = .int .i64 0 ∧ w1 = wr) ∨ (v = .int .i64 1 ∧ ∃ gu cu, l = .slice (some ⟨gu, 0, none⟩) 1 cu ∧ Hid (Below W.heap.size W wr ∧ gu < wr.heap.size ∧ 1 ≤ cu ∧ ∀ (j : Nat) (v : Value), [.string A, .slice none 0 0, .slice none 0 0][j]? = some v → wr.cell? ⟨gu, j, none⟩ = some v))) (fun _ v _ => 2 - (intOf v).toNat)
  case atStart => exact .inl ⟨rfl, rfl, rfl⟩
  case round =>
    rcases hrel with ⟨rfl, rfl, rfl⟩ | ⟨rfl, gu, cu, rfl, HU⟩
    · have hl1 : gx < w1.heap.size := Nat.lt_of_lt_of_le HX.out.1 HB1.out.size
      have hc1 := fun j v hj => (HB1.out.cell (p := ⟨gx, j, none⟩) HX.out.1).trans (HX.out.2 j v hj)
      have d0 := hc1 0 _ rfl
      have d1 := hc1 1 _ rfl
      have d2 := hc1 2 _ rfl
      have d3 := hc1 3 _ rfl
      have d4 := hc1 4 _ rfl
      have d5 := hc1 5 _ rfl
      have d6 := hc1 6 _ rfl
      have d7 := hc1 7 _ rfl
      have d8 := hc1 8 _ rfl
      have d9 := hc1 9 _ rfl
      have d10 := hc1 10 _ rfl
      clear hc1
      obtain ⟨w2, hw2⟩ : ∃ w2, w1.alloc (.cells #[.string A, .string K, .slice none 0 0, .slice none 0 0, .slice ga gb gc, .slice none 0 0, .slice none 0 0, .slice none 0 0, .string K, .slice none 0 0, .slice none 0 0] 46) = w2 := ⟨_, rfl⟩
      have hb2 : Below w1.heap.size w1 w2 := by rw [← hw2]; exact (Below.refl _ _).alloc (Nat.le_refl _) _
      have o2 : Ob w2 w1.heap.size #[.string A, .string K, .slice none 0 0, .slice none 0 0, .slice ga gb gc, .slice none 0 0, .slice none 0 0, .slice none 0 0, .string K, .slice none 0 0, .slice none 0 0] 46 := by rw [← hw2]; exact Ob.new _ _ _
      obtain ⟨wd, hwd⟩ : ∃ wd, w2.drew = wd := ⟨_, rfl⟩
      have od := o2.drew
      have hbd : Below w2.heap.size w2 wd := by rw [← hwd]; exact (Below.refl _ _).drew
      rw [hwd] at od
      have h0 := fun x : Ext wd => x.cell (p := ⟨w1.heap.size, 0, none⟩) od.lt (od.cell 0 rfl)
      have h2 := fun x : Ext wd => x.cell (p := ⟨w1.heap.size, 2, none⟩) od.lt (od.cell 2 rfl)
      have h3 := fun x : Ext wd => x.cell (p := ⟨w1.heap.size, 3, none⟩) od.lt (od.cell 3 rfl)
      have HBD : Hid (Below W.heap.size W wd) := (HB1.out.trans (hb2.mono HB1.out.size)).trans (hbd.mono (Nat.le_trans HB1.out.size hb2.size))
      have HW2 : Hid _ := hw2
      have HWD : Hid _ := hwd
      clear hw2 hwd hb2 hbd o2 od
      go_upto_region 5 with fail
      rw [HW2.out]
      clear HW2 d0 d1 d2 d3 d4 d5 d6 d7 d8 d9 d10 hl1
      refine wp_region_anyD (by kernel_rfl) ?_
      rw [HWD.out]
      clear HWD
      refine wpAny_takeT 12 (i := 0) (v := ?_) rfl (by kernel_rfl) (by kernel_rfl) (by kernel_rfl) (by kernel_rfl) (fun _ _ _ h => h) (Or.inl ⟨by rfl, ?_⟩) rfl ?_
      rotate_left
      · rintro V HV
        go_simp
        try with_reducible rfl
      change wpAny _ _ _ _ 13 (preL 14 1) _ _
      refine wpAny_thenF wd 11 1 3 13 (by decide) rfl rfl ⟨⟨wd, Below.refl _ _⟩, rfl⟩ (by kernel_rfl) (by kernel_rfl) (by kernel_rfl) (dc_first (ops := _) rfl rfl (by decide)) ?_
      simp only [List.take, List.drop, List.setIfInBounds_toArray, List.set_cons_zero, List.set_cons_succ]
      repeat (go_big_quiet_step (first | (go_at_call 16; exact Ext.call (fun V hV => QC.out V) _) | (go_at_call 71; exact Ext.call_same (fun V => ptexts0 _ _ V) _) | (go_at_call 72; exact Ext.call_same (fun V => pplaces0 _ _ V) _)))
      refine wpQuiet_nil ?_
      rintro w3 ⟨⟨_, hb3⟩, rfl⟩
      clear h0 h2 h3
      obtain ⟨w4, hw4⟩ : ∃ w4, w3.alloc (.cells #[.string A, .slice none 0 0, .slice none 0 0] 104) = w4 := ⟨_, rfl⟩
      have hb4 : Below w3.heap.size w3 w4 := by rw [← hw4]; exact (Below.refl _ _).alloc (Nat.le_refl _) _
      have n4 : Ob w4 w3.heap.size #[.string A, .slice none 0 0, .slice none 0 0] 104 := by rw [← hw4]; exact Ob.new _ _ _
      obtain ⟨w5, gu, cu, hr5, hg5, hgl, hgc⟩ := run_append_unitX w4 w3.heap.size 1 A n4 62
      have hb5 : Below w4.heap.size w4 w5 := ⟨hg5.os, hg5.tape, hg5.output, hg5.size, fun k hk => hg5.block k hk (by simp)⟩
      have HW4 : Hid _ := hw4
      have HR5 : Hid _ := hr5
      have hb04 : Below W.heap.size W w4 := (HBD.out.trans (hb3.mono HBD.out.size)).trans (hb4.mono (Nat.le_trans HBD.out.size hb3.size))
      have HB5 : Hid (Below W.heap.size W w5 ∧ gu < w5.heap.size ∧ 1 ≤ cu ∧ ∀ (j : Nat) (v : Value), [.string A, .slice none 0 0, .slice none 0 0][j]? = some v → w5.cell? ⟨gu, j, none⟩ = some v) := ⟨hb04.trans (hb5.mono hb04.size), hgl.2.1, hgl.2.2, hgc⟩
      clear hw4 hb4 n4 hr5 hg5 hgl hgc hb5 hb04 hb3 HBD
      refine wpAny_force (i := 11) (by kernel_rfl) rfl ?_
      intro Q' hQ' hPn
      have HQ : Hid _ := hQ'
      clear hQ' hPn
      go_wp2
      rw [HW4.out]
      refine HQ.out _ _ ?_
      clear HQ HW4
      refine wpAny_force (i := 12) (by kernel_rfl) rfl ?_
      intro Q' hQ' hPn
      have HQ : Hid _ := hQ'
      clear hQ' hPn
      refine wpList_append_eqV rfl _ _ 62 rfl rfl rfl HR5.out ?_
      refine HQ.out _ _ ?_
      clear HQ HR5
      refine wpAny_force (i := 13) (by kernel_rfl) rfl ?_
      intro Q' hQ' hPn
      have HQ : Hid _ := hQ'
      clear hQ' hPn
      go_wp2
      refine HQ.out _ _ ?_
      clear HQ
      refine wpAny_end (by kernel_rfl) ?_
      go_wp2
      go_roundw
      case rel => first | exact .inr ⟨by go_num, gu, cu, rfl, HB5⟩ | ((repeat apply Exists.intro); exact ⟨.inr ⟨by go_num, gu, cu, rfl, HB5⟩, rfl⟩)
      case measure => simp [intOf]
    · go_wp2
      go_ret
      exact ⟨gu, cu, rfl, HU.out.1, HU.out.2.1, HU.out.2.2.1, HU.out.2.2.2⟩

theorem cvisible (A : ByteArray) (hA : A.size ≤ 1000000) (gu cu : Nat) (W : World) (hl : gu < W.heap.size) (hcu : 1 ≤ cu) (hc : ∀ (j : Nat) (v : Value), [.string A, .slice none 0 0, .slice none 0 0][j]? = some v → W.cell? ⟨gu, j, none⟩ = some v) :
    Calls Tryz.prog 39 #[.slice (some ⟨gu, 0, none⟩) 1 cu, .string A] W fun e W' => (∃ a n c, e = .returned (.slice a n c)) ∧ Below W.heap.size W W' := by
  have hU : Ul W (some ⟨gu, 0, none⟩) 1 cu [⟨A, none, 0, [], none, 0, []⟩] := by
    refine ⟨rfl, by decide, hcu, (fun e => by cases e), fun _ => ⟨gu, 0, rfl, hl, fun i u hi j v hj => ?_⟩, fun i u hi => ?_⟩
    · match i, hi with
      | 0, hi =>
        cases hi
        have := hc j v hj
        simpa using this
      | _ + 1, hi => cases hi
    · match i, hi with
      | 0, hi =>
        cases hi
        exact ⟨⟨rfl, (by simp), Nat.le_refl _, fun _ => rfl, fun h => absurd h (by simp)⟩, ⟨rfl, (by simp), Nat.le_refl _, fun _ => rfl, (fun z hz => by cases hz), fun h => absurd h (by simp)⟩⟩
      | _ + 1, hi => cases hi
  refine (pgvis_any A (show Hid _ from hU) (show Hid _ from (show _ = _ by rfl)) (show Hid _ from (by show Usm _; intro u hu; cases hu with | head => exact ⟨by show Tsm A; unfold Tsm; omega, fun d hd => by cases hd⟩ | tail _ h => cases h)) (show Hid (A.size ≤ maxLen) from by show _ ≤ _; unfold maxLen; omega)).mono ?_
  rintro e W' ⟨v, rfl, hv, hb⟩
  obtain ⟨a, c, rfl⟩ := hv.slice
  exact ⟨⟨_, _, _, rfl⟩, hb⟩

theorem zeroBrk (w : World) : (zeroValue 50).run Tryz.prog w = .ok (.agg #[.string ⟨#[]⟩, .int .i64 0]) w := by kernel_rfl

set_option maxRecDepth 10000 in
set_option maxHeartbeats 1000000 in
theorem fb_idle {g : Nat} {x y : Value} (w : World) (hb : Ob w g #[x, y] 50) :
    CallsD Tryz.prog 34 #[.pointer (some ⟨g, 0, none⟩)] .returning w fun e u' w' => e = .returned (.tuple #[]) ∧ u' = .returning ∧ Ob w' g #[.string ⟨#[]⟩, .int .i64 0] 50 ∧ ∀ B, B ≤ g → Below B w w' := by
  have hta : ∀ W, (Instr.typeAssert .nilIface 20 50 true).run Tryz.prog W = .ok (.tuple #[.agg #[.string ⟨#[]⟩, .int .i64 0], .bool false]) W := fun W => by kernel_rfl
  obtain ⟨⟨c1, c2⟩, ⟨f1, f2⟩, hgl⟩ := ob2 hb
  have HB : Hid (Ob w g #[x, y] 50) := hb
  clear hb
  refine callsD_of_wpS Tryz.func34 rfl fun c₀ cs hu => ?_
  have hr : recoverD (c₀ :: cs) = none := by simp [recoverD, hu]
  refine wpS_recover_none rfl rfl hr ?_ ?_
  · rintro ⟨a, w, h⟩
    simp [bodyPostS] at h
  · simp only [Tryz.ntmps34]
    go_wp2
    refine ⟨rfl, .returning, by cases c₀; simp_all, .tuple #[], ?_, rfl, rfl, ?_, ?_⟩
    · simp [results, Tryz.results34]
    · have := (HB.out.set 0 (.string ⟨#[]⟩)).set 1 (.int .i64 0)
      simpa using this
    · intro B hB
      exact ((Below.refl B w).setCell (p := ⟨g, 0, none⟩) hB _).setCell (p := ⟨g, 1, none⟩) hB _

set_option maxRecDepth 10000 in
set_option maxHeartbeats 1000000 in
theorem fb_panicking {g : Nat} {x y : Value} (p : ByteArray) (r : Int) (w : World) (hb : Ob w g #[x, y] 50) :
    CallsD Tryz.prog 34 #[.pointer (some ⟨g, 0, none⟩)] (.panicking [brk p r]) w fun e u' w' => e = .returned (.tuple #[]) ∧ u' = .panicking [{ brk p r with recovered := true }] ∧ Ob w' g #[.string p, .int .i64 r] 50 ∧ ∀ B, B ≤ g → Below B w w' := by
  have hta : ∀ W, (Instr.typeAssert (.iface 50 (.agg #[.string p, .int .i64 r])) 20 50 true).run Tryz.prog W = .ok (.tuple #[.agg #[.string p, .int .i64 r], .bool true]) W := fun W => by kernel_rfl
  obtain ⟨⟨c1, c2⟩, ⟨f1, f2⟩, hgl⟩ := ob2 hb
  have HB : Hid (Ob w g #[x, y] 50) := hb
  clear hb
  refine callsD_of_wpS Tryz.func34 rfl fun c₀ cs hu => ?_
  have hr : recoverD (c₀ :: cs) = some (.iface 50 (.agg #[.string p, .int .i64 r]), { c₀ with mode := .panicking [{ brk p r with recovered := true }] } :: cs) := by simp [recoverD, hu, brk]
  refine wpS_recover rfl rfl hr ?_ ?_
  · rintro ⟨a, w, h⟩
    simp [bodyPostS] at h
  · simp only [Tryz.ntmps34]
    go_wp2
    refine ⟨rfl, _, rfl, .tuple #[], ?_, rfl, rfl, ?_, ?_⟩
    · simp [results, Tryz.results34]
    · have := (HB.out.set 0 (.string p)).set 1 (.int .i64 r)
      simpa using this
    · intro B hB
      exact ((Below.refl B w).setCell (p := ⟨g, 0, none⟩) hB _).setCell (p := ⟨g, 1, none⟩) hB _

theorem fb_res {tmps : Array Value} {V : World} {g : Nat} {x y : Value} (h : tmps[2]?.getD undef = .pointer (some ⟨g, 0, none⟩)) (b : Ob V g #[x, y] 50) :
    (results Tryz.f15 tmps).run Tryz.prog V = .ok (.agg #[x, y]) V := by
  have hsz : (Tryz.prog.info? 50).map (·.size) = some 2 := by kernel_rfl
  have hl := run_loadVar_row (P := Tryz.prog) V g 50 50 #[x, y] (0, 0) _ b.eq Tryz.underlying50 rfl (hsz.trans rfl)
  simp [results, Tryz.results15, h, asAddr, hl]

end Go.Proofs.YtcnjjhdmnagkgaaGreatDoor
