/- Put together by a program out of these texts of mine: GTyped, GMath2, GMath3, GMath4, GMath5, SBas. -/
import Derived.Deep.RegionWith
import Derived.Test.YtlekfcehmlepkaaGreatDoorBunD6
import Derived.Test.YtlekfcehmlepkaaGreatDoorBunD22

namespace Go.Proofs.YtlekfcehmlepkaaGreatDoor
open Go.RowKit
set_option linter.unusedVariables false
set_option linter.unusedSimpArgs false

set_option maxHeartbeats 4000000 in
theorem rgtyped_any {w : World} {g : Nat} {a : Option Addr} {len cap : Nat} {ts : List Tq} {s : Gs} (H : Hid (Gm w g a len cap ts s)) (plain name : Bool) :
  Calls Tryz.prog 63 #[.pointer (some ⟨g,0,none⟩),.bool plain,.bool name] w fun e w' => e = .returned (.agg #[.int .i64 18,.string (strOfNums (gfull ts true (gmade ts 18 s)).1),.int .i64 0,.int .i64 0,.int .i64 0,.int .i64 (gnow ts s).pos,.string (strOfNums []),.slice none 0 0]) ∧ w.grownBy w' (some g) ∧ Gm w' g a len cap ts (gtyped ts plain name s).2 ∧ (gfull ts true (gmade ts 18 s)).1.length ≤ 96001 ∧ byts (gfull ts true (gmade ts 18 s)).1 := by
 have hg := H.out.blk.size
 have hgne : g ≠ w.heap.size := by omega
 have HA : Hid (Gm (w.alloc (.cells #[.int .i64 0,.string { data := #[] },.int .i64 0,.int .i64 0,.int .i64 0,.int .i64 0,.string { data := #[] },.slice none 0 0] 28)) g a len cap ts s) := H.out.below ((Below.refl _ _).alloc (Nat.le_refl _) _)
 have Q0 : Hid _ := rgmade_any HA 18 (by unfold i64b; omega)
 rw [show tdocd 18 = false by decide,if_neg (by decide)] at Q0
 have HR0 : Hid ((w.alloc (.cells #[.int .i64 0,.string { data := #[] },.int .i64 0,.int .i64 0,.int .i64 0,.int .i64 0,.string { data := #[] },.slice none 0 0] 28)).heap[w.heap.size]? = some (.cells #[.int .i64 0,.string { data := #[] },.int .i64 0,.int .i64 0,.int .i64 0,.int .i64 0,.string { data := #[] },.slice none 0 0] 28)) := heap_alloc_new w _
 have HG0 : Hid (w.grownBy (w.alloc (.cells #[.int .i64 0,.string { data := #[] },.int .i64 0,.int .i64 0,.int .i64 0,.int .i64 0,.string { data := #[] },.slice none 0 0] 28)) (some g)) := grown_alloc (grown_of (Below.refl _ _)) _
 obtain ⟨s0,hs0⟩ : ∃ s0,s0 = gmade ts 18 s := ⟨_,rfl⟩
 obtain ⟨⟨r1,r2⟩,hr⟩ : ∃ r,r = gfull ts true s0 := ⟨_,rfl⟩
 have HT : Hid ((gtyped ts plain name s).2 = if r2.e = 0 ∧ ((ttype r1).1 = false ∨ ((ttype r1).2 = true ∧ name = false) ∨ ((ttype r1).2 = false ∧ plain = false)) then gfail ts 80 { r2 with i := s0.i } else r2) := by show _ = _; unfold gtyped; simp only; rw [← hs0,← hr]
 have Q1 : Hid (∀ V,Gm V g a len cap ts s0 → Calls Tryz.prog 65 #[.pointer (some ⟨g,0,none⟩),.bool true] V fun e w' => e = .returned (.string (strOfNums r1)) ∧ V.grownBy w' (some g) ∧ Gm w' g a len cap ts r2 ∧ r1.length ≤ 96001 ∧ byts r1) := fun V hV => by have := rgfull_any (show Hid (Gm V g a len cap ts s0) from hV) true; rw [← hr] at this; exact this
 rw [← hs0] at Q0 ⊢
 rw [← hr]
 simp only
 clear hs0 hr
 generalize (gnow ts s).pos = pos at *
 obtain ⟨D,hD⟩ : ∃ D,D = strOfNums [] := ⟨_,rfl⟩
 rw [← hD] at Q0 ⊢
 clear hD
 go_enter Tryz.func63,Tryz.ntmps63
 go_wp2_with fail
 refine Calls.mono Q0.out ?_
 rintro e w1 ⟨rfl,hg1,H1⟩
 have HM1 : Hid (Gm w1 g a len cap ts s0) := H1
 have HR1 : Hid (w1.heap[w.heap.size]? = some (.cells #[.int .i64 0,.string { data := #[] },.int .i64 0,.int .i64 0,.int .i64 0,.int .i64 0,.string { data := #[] },.slice none 0 0] 28)) := (hg1.block _ (by simp) (by simp; omega)).trans HR0.out
 have HG1 : Hid (w.grownBy w1 (some g)) := grown_trans HG0.out hg1
 have hs1 : w.heap.size < w1.heap.size := (Array.getElem?_eq_some_iff.1 HR1.out).1
 have HM2 : Hid (Gm (w1.alloc (.cells #[.int .i64 18,.string { data := #[] },.int .i64 0,.int .i64 0,.int .i64 0,.int .i64 pos,.string D,.slice none 0 0] 28)) g a len cap ts s0) := H1.below ((Below.refl _ _).alloc (Nat.le_refl _) _)
 have HN2 : Hid ((w1.alloc (.cells #[.int .i64 18,.string { data := #[] },.int .i64 0,.int .i64 0,.int .i64 0,.int .i64 pos,.string D,.slice none 0 0] 28)).heap[w1.heap.size]? = some (.cells #[.int .i64 18,.string { data := #[] },.int .i64 0,.int .i64 0,.int .i64 0,.int .i64 pos,.string D,.slice none 0 0] 28)) := heap_alloc_new w1 _
 have Q2 : Hid _ := Q1.out _ HM2.out
 obtain ⟨c0,c1,c2,c3,c4,c5⟩ := H1.blk.cells
 have hg1s := H1.blk.size
 have hi0 := H1.lt
 clear hg1 H1
 go_wp2_with fail
 refine Calls.mono Q2.out ?_
 rintro e w3 ⟨rfl,hg3,H3,hL,hB⟩
 have HL : Hid (r1.length ≤ 96001 ∧ byts r1) := ⟨hL,hB⟩
 have HR3 : Hid (w3.heap[w.heap.size]? = some (.cells #[.int .i64 0,.string { data := #[] },.int .i64 0,.int .i64 0,.int .i64 0,.int .i64 0,.string { data := #[] },.slice none 0 0] 28)) := (hg3.block _ (by simp; omega) (by simp; omega)).trans (blk_alloc HR1.out _)
 have HN3 : Hid (w3.heap[w1.heap.size]? = some (.cells #[.int .i64 18,.string { data := #[] },.int .i64 0,.int .i64 0,.int .i64 0,.int .i64 pos,.string D,.slice none 0 0] 28)) := (hg3.block _ (by simp) (by simp; omega)).trans HN2.out
 have HG3 : Hid (w.grownBy w3 (some g)) := grown_trans (grown_alloc HG1.out _) hg3
 have hs3 : w1.heap.size < w3.heap.size := (Array.getElem?_eq_some_iff.1 HN3.out).1
 have hs4 : w.heap.size < w3.heap.size := by omega
 have hne2 : w1.heap.size ≠ g := by omega
 have hne3 : w1.heap.size ≠ w.heap.size := by omega
 have HR5 : Hid (((w3.setCell ⟨w1.heap.size,1,none⟩ (.string (strOfNums r1)))).heap[w.heap.size]? = some (.cells #[.int .i64 0,.string { data := #[] },.int .i64 0,.int .i64 0,.int .i64 0,.int .i64 0,.string { data := #[] },.slice none 0 0] 28)) := blk_other HR3.out hne3 1 _
 have HN5 : Hid (((w3.setCell ⟨w1.heap.size,1,none⟩ (.string (strOfNums r1)))).heap[w1.heap.size]? = some (.cells #[.int .i64 18,.string (strOfNums r1),.int .i64 0,.int .i64 0,.int .i64 0,.int .i64 pos,.string D,.slice none 0 0] 28)) := set_heap' HN3.out 1 _
 have HG5 : Hid (w.grownBy ((w3.setCell ⟨w1.heap.size,1,none⟩ (.string (strOfNums r1)))) (some g)) := grown_new HG3.out (by omega) 1 _
 have H5 : Hid (Gm ((w3.setCell ⟨w1.heap.size,1,none⟩ (.string (strOfNums r1)))) g a len cap ts r2) := H.out.turn HG5.out (blk_other H3.blk hne2 1 _) H3.lt H3.op0 H3.op1 H3.pa H3.e0 H3.e1 H3.n
 have qt := fun W => rtype_any r1 W (getD_bd hB) (by omega)
 generalize hK : ttype r1 = K at qt HT
 obtain ⟨k1,k2⟩ := K
 simp only at qt HT
 have QT : Hid _ := qt
 obtain ⟨X,hX⟩ : ∃ X,X = strOfNums r1 := ⟨_,rfl⟩
 rw [← hX] at HR5 HN5 HG5 H5 QT ⊢
 have HXX : Hid (X = strOfNums r1) := hX
 clear hg3 H3 qt hK hL hB hX
 obtain ⟨⟨n0,n1,n2,n3,n4,n5,n6,n7⟩,y0,y1,y2,y3,y4,y5,y6,y7⟩ := eight_cells HN3.out
 go_wp2_with fail
 refine Calls.mono (QT.out _) ?_
 rintro e w4 ⟨rfl,hb4⟩
 have HR4 : Hid (w4.heap[w.heap.size]? = some (.cells #[.int .i64 0,.string { data := #[] },.int .i64 0,.int .i64 0,.int .i64 0,.int .i64 0,.string { data := #[] },.slice none 0 0] 28)) := (hb4.block _ (by rw [set_size]; omega)).trans HR5.out
 have HN4 : Hid (w4.heap[w1.heap.size]? = some (.cells #[.int .i64 18,.string X,.int .i64 0,.int .i64 0,.int .i64 0,.int .i64 pos,.string D,.slice none 0 0] 28)) := (hb4.block _ (by rw [set_size]; omega)).trans HN5.out
 have HG4 : Hid (w.grownBy w4 (some g)) := grown_trans HG5.out (grown_of hb4)
 have H4 : Hid (Gm w4 g a len cap ts r2) := H5.out.below hb4
 have hs8 : w1.heap.size < w4.heap.size := (Array.getElem?_eq_some_iff.1 HN4.out).1
 have hs9 : w.heap.size < w4.heap.size := by omega
 have hg4s := H4.out.blk.size
 have hgw : g < w1.heap.size := hg1s
 obtain ⟨d0,d1,d2,d3,d4,d5⟩ := H4.out.blk.cells
 have f1 := H4.out.blk.free 1
 clear hb4 n0 n1 n2 n3 n4 n5 n6 n7 y0 y1 y2 y3 y4 y5 y6 y7 c0 c1 c2 c3 c4 c5
 obtain ⟨⟨q0,q1,q2,q3,q4,q5,q6,q7⟩,z0,z1,z2,z3,z4,z5,z6,z7⟩ := eight_cells HR4.out
 obtain ⟨⟨m0,m1,m2,m3,m4,m5,m6,m7⟩,x0,x1,x2,x3,x4,x5,x6,x7⟩ := eight_cells HN4.out
 by_cases he : r2.e = 0
 ·rw [he] at d4
  cases k1 with
  | false =>
   have HF : Hid (_ = gfail ts 80 { r2 with i := s0.i }) := HT.out.trans (if_pos ⟨he,Or.inl rfl⟩)
   have HB : Hid (Gm (w4.setCell ⟨g,1,none⟩ (.int .i64 (s0.i : Int))) g a len cap ts { r2 with i := s0.i }) := H4.out.back s0.i hi0
   have QF : Hid _ := rgfail_any HB 80 (by omega) (by omega)
   have HRb : Hid ((w4.setCell ⟨g,1,none⟩ (.int .i64 (s0.i : Int))).heap[w.heap.size]? = some (.cells #[.int .i64 0,.string { data := #[] },.int .i64 0,.int .i64 0,.int .i64 0,.int .i64 0,.string { data := #[] },.slice none 0 0] 28)) := blk_other HR4.out hgne 1 _
   have HNb : Hid ((w4.setCell ⟨g,1,none⟩ (.int .i64 (s0.i : Int))).heap[w1.heap.size]? = some (.cells #[.int .i64 18,.string X,.int .i64 0,.int .i64 0,.int .i64 0,.int .i64 pos,.string D,.slice none 0 0] 28)) := blk_other HN4.out (Ne.symm hne2) 1 _
   go_wp2_with fail
   refine Calls.mono QF.out ?_
   rintro e w6 ⟨rfl,hg6,H6⟩
   have HR6 : Hid (w6.heap[w.heap.size]? = some (.cells #[.int .i64 0,.string { data := #[] },.int .i64 0,.int .i64 0,.int .i64 0,.int .i64 0,.string { data := #[] },.slice none 0 0] 28)) := (hg6.block _ (by rw [set_size]; omega) (by simp; omega)).trans HRb.out
   have HN6 : Hid (w6.heap[w1.heap.size]? = some (.cells #[.int .i64 18,.string X,.int .i64 0,.int .i64 0,.int .i64 0,.int .i64 pos,.string D,.slice none 0 0] 28)) := (hg6.block _ (by rw [set_size]; omega) (by simp; omega)).trans HNb.out
   have HG6 : Hid (w.grownBy w6 (some g)) := grown_trans (grown_own HG4.out 1 _) hg6
   have hs6 : w1.heap.size < w6.heap.size := (Array.getElem?_eq_some_iff.1 HN6.out).1
   have hs7 : w.heap.size < w6.heap.size := by omega
   clear hg6 q0 q1 q2 q3 q4 q5 q6 q7 z0 z1 z2 z3 z4 z5 z6 z7 m0 m1 m2 m3 m4 m5 m6 m7 x0 x1 x2 x3 x4 x5 x6 x7
   obtain ⟨⟨q0,q1,q2,q3,q4,q5,q6,q7⟩,z0,z1,z2,z3,z4,z5,z6,z7⟩ := eight_cells HR6.out
   obtain ⟨⟨m0,m1,m2,m3,m4,m5,m6,m7⟩,x0,x1,x2,x3,x4,x5,x6,x7⟩ := eight_cells HN6.out
   go_wp2
   have hgr := eight_grown HG6.out (Nat.le_refl w.heap.size) (.int .i64 18) (.string X) (.int .i64 0) (.int .i64 0) (.int .i64 0) (.int .i64 pos) (.string D) (.slice none 0 0)
   refine nd_ret rfl w.heap.size _ _ _ _ _ _ _ _ rfl (eight_put HR6.out _ _ _ _ _ _ _ _) rfl ⟨by rw [HXX.out],hgr,?_,HL.out⟩
   rw [HF.out]
   have hb := eight_other H6.blk (Ne.symm hgne) (.int .i64 18) (.string X) (.int .i64 0) (.int .i64 0) (.int .i64 0) (.int .i64 pos) (.string D) (.slice none 0 0)
   exact H.out.turn hgr hb H6.lt H6.op0 H6.op1 H6.pa H6.e0 H6.e1 H6.n
  | true =>
   cases k2 with
   | true =>
    cases name with
    | false =>
     have HF : Hid (_ = gfail ts 80 { r2 with i := s0.i }) := HT.out.trans (if_pos ⟨he,Or.inr (Or.inl ⟨rfl,rfl⟩)⟩)
     have HB : Hid (Gm (w4.setCell ⟨g,1,none⟩ (.int .i64 (s0.i : Int))) g a len cap ts { r2 with i := s0.i }) := H4.out.back s0.i hi0
     have QF : Hid _ := rgfail_any HB 80 (by omega) (by omega)
     have HRb : Hid ((w4.setCell ⟨g,1,none⟩ (.int .i64 (s0.i : Int))).heap[w.heap.size]? = some (.cells #[.int .i64 0,.string { data := #[] },.int .i64 0,.int .i64 0,.int .i64 0,.int .i64 0,.string { data := #[] },.slice none 0 0] 28)) := blk_other HR4.out hgne 1 _
     have HNb : Hid ((w4.setCell ⟨g,1,none⟩ (.int .i64 (s0.i : Int))).heap[w1.heap.size]? = some (.cells #[.int .i64 18,.string X,.int .i64 0,.int .i64 0,.int .i64 0,.int .i64 pos,.string D,.slice none 0 0] 28)) := blk_other HN4.out (Ne.symm hne2) 1 _
     go_wp2_with fail
     refine Calls.mono QF.out ?_
     rintro e w6 ⟨rfl,hg6,H6⟩
     have HR6 : Hid (w6.heap[w.heap.size]? = some (.cells #[.int .i64 0,.string { data := #[] },.int .i64 0,.int .i64 0,.int .i64 0,.int .i64 0,.string { data := #[] },.slice none 0 0] 28)) := (hg6.block _ (by rw [set_size]; omega) (by simp; omega)).trans HRb.out
     have HN6 : Hid (w6.heap[w1.heap.size]? = some (.cells #[.int .i64 18,.string X,.int .i64 0,.int .i64 0,.int .i64 0,.int .i64 pos,.string D,.slice none 0 0] 28)) := (hg6.block _ (by rw [set_size]; omega) (by simp; omega)).trans HNb.out
     have HG6 : Hid (w.grownBy w6 (some g)) := grown_trans (grown_own HG4.out 1 _) hg6
     have hs6 : w1.heap.size < w6.heap.size := (Array.getElem?_eq_some_iff.1 HN6.out).1
     have hs7 : w.heap.size < w6.heap.size := by omega
     clear hg6 q0 q1 q2 q3 q4 q5 q6 q7 z0 z1 z2 z3 z4 z5 z6 z7 m0 m1 m2 m3 m4 m5 m6 m7 x0 x1 x2 x3 x4 x5 x6 x7
     obtain ⟨⟨q0,q1,q2,q3,q4,q5,q6,q7⟩,z0,z1,z2,z3,z4,z5,z6,z7⟩ := eight_cells HR6.out
     obtain ⟨⟨m0,m1,m2,m3,m4,m5,m6,m7⟩,x0,x1,x2,x3,x4,x5,x6,x7⟩ := eight_cells HN6.out
     go_wp2
     have hgr := eight_grown HG6.out (Nat.le_refl w.heap.size) (.int .i64 18) (.string X) (.int .i64 0) (.int .i64 0) (.int .i64 0) (.int .i64 pos) (.string D) (.slice none 0 0)
     refine nd_ret rfl w.heap.size _ _ _ _ _ _ _ _ rfl (eight_put HR6.out _ _ _ _ _ _ _ _) rfl ⟨by rw [HXX.out],hgr,?_,HL.out⟩
     rw [HF.out]
     have hb := eight_other H6.blk (Ne.symm hgne) (.int .i64 18) (.string X) (.int .i64 0) (.int .i64 0) (.int .i64 0) (.int .i64 pos) (.string D) (.slice none 0 0)
     exact H.out.turn hgr hb H6.lt H6.op0 H6.op1 H6.pa H6.e0 H6.e1 H6.n
    | true =>
     have HF : Hid (_ = r2) := HT.out.trans (if_neg (fun h => by simp at h))
     go_wp2
     have hgr := eight_grown HG4.out (Nat.le_refl w.heap.size) (.int .i64 18) (.string X) (.int .i64 0) (.int .i64 0) (.int .i64 0) (.int .i64 pos) (.string D) (.slice none 0 0)
     refine nd_ret rfl w.heap.size _ _ _ _ _ _ _ _ rfl (eight_put HR4.out _ _ _ _ _ _ _ _) rfl ⟨by rw [HXX.out],hgr,?_,HL.out⟩
     rw [HF.out]
     have hb := eight_other H4.out.blk (Ne.symm hgne) (.int .i64 18) (.string X) (.int .i64 0) (.int .i64 0) (.int .i64 0) (.int .i64 pos) (.string D) (.slice none 0 0)
     exact H.out.turn hgr hb H4.out.lt H4.out.op0 H4.out.op1 H4.out.pa H4.out.e0 H4.out.e1 H4.out.n
   | false =>
    cases plain with
    | false =>
     have HF : Hid (_ = gfail ts 80 { r2 with i := s0.i }) := HT.out.trans (if_pos ⟨he,Or.inr (Or.inr ⟨rfl,rfl⟩)⟩)
     have HB : Hid (Gm (w4.setCell ⟨g,1,none⟩ (.int .i64 (s0.i : Int))) g a len cap ts { r2 with i := s0.i }) := H4.out.back s0.i hi0
     have QF : Hid _ := rgfail_any HB 80 (by omega) (by omega)
     have HRb : Hid ((w4.setCell ⟨g,1,none⟩ (.int .i64 (s0.i : Int))).heap[w.heap.size]? = some (.cells #[.int .i64 0,.string { data := #[] },.int .i64 0,.int .i64 0,.int .i64 0,.int .i64 0,.string { data := #[] },.slice none 0 0] 28)) := blk_other HR4.out hgne 1 _
     have HNb : Hid ((w4.setCell ⟨g,1,none⟩ (.int .i64 (s0.i : Int))).heap[w1.heap.size]? = some (.cells #[.int .i64 18,.string X,.int .i64 0,.int .i64 0,.int .i64 0,.int .i64 pos,.string D,.slice none 0 0] 28)) := blk_other HN4.out (Ne.symm hne2) 1 _
     go_wp2_with fail
     refine Calls.mono QF.out ?_
     rintro e w6 ⟨rfl,hg6,H6⟩
     have HR6 : Hid (w6.heap[w.heap.size]? = some (.cells #[.int .i64 0,.string { data := #[] },.int .i64 0,.int .i64 0,.int .i64 0,.int .i64 0,.string { data := #[] },.slice none 0 0] 28)) := (hg6.block _ (by rw [set_size]; omega) (by simp; omega)).trans HRb.out
     have HN6 : Hid (w6.heap[w1.heap.size]? = some (.cells #[.int .i64 18,.string X,.int .i64 0,.int .i64 0,.int .i64 0,.int .i64 pos,.string D,.slice none 0 0] 28)) := (hg6.block _ (by rw [set_size]; omega) (by simp; omega)).trans HNb.out
     have HG6 : Hid (w.grownBy w6 (some g)) := grown_trans (grown_own HG4.out 1 _) hg6
     have hs6 : w1.heap.size < w6.heap.size := (Array.getElem?_eq_some_iff.1 HN6.out).1
     have hs7 : w.heap.size < w6.heap.size := by omega
     clear hg6 q0 q1 q2 q3 q4 q5 q6 q7 z0 z1 z2 z3 z4 z5 z6 z7 m0 m1 m2 m3 m4 m5 m6 m7 x0 x1 x2 x3 x4 x5 x6 x7
     obtain ⟨⟨q0,q1,q2,q3,q4,q5,q6,q7⟩,z0,z1,z2,z3,z4,z5,z6,z7⟩ := eight_cells HR6.out
     obtain ⟨⟨m0,m1,m2,m3,m4,m5,m6,m7⟩,x0,x1,x2,x3,x4,x5,x6,x7⟩ := eight_cells HN6.out
     go_wp2
     have hgr := eight_grown HG6.out (Nat.le_refl w.heap.size) (.int .i64 18) (.string X) (.int .i64 0) (.int .i64 0) (.int .i64 0) (.int .i64 pos) (.string D) (.slice none 0 0)
     refine nd_ret rfl w.heap.size _ _ _ _ _ _ _ _ rfl (eight_put HR6.out _ _ _ _ _ _ _ _) rfl ⟨by rw [HXX.out],hgr,?_,HL.out⟩
     rw [HF.out]
     have hb := eight_other H6.blk (Ne.symm hgne) (.int .i64 18) (.string X) (.int .i64 0) (.int .i64 0) (.int .i64 0) (.int .i64 pos) (.string D) (.slice none 0 0)
     exact H.out.turn hgr hb H6.lt H6.op0 H6.op1 H6.pa H6.e0 H6.e1 H6.n
    | true =>
     have HF : Hid (_ = r2) := HT.out.trans (if_neg (fun h => by simp at h))
     go_wp2
     have hgr := eight_grown HG4.out (Nat.le_refl w.heap.size) (.int .i64 18) (.string X) (.int .i64 0) (.int .i64 0) (.int .i64 0) (.int .i64 pos) (.string D) (.slice none 0 0)
     refine nd_ret rfl w.heap.size _ _ _ _ _ _ _ _ rfl (eight_put HR4.out _ _ _ _ _ _ _ _) rfl ⟨by rw [HXX.out],hgr,?_,HL.out⟩
     rw [HF.out]
     have hb := eight_other H4.out.blk (Ne.symm hgne) (.int .i64 18) (.string X) (.int .i64 0) (.int .i64 0) (.int .i64 0) (.int .i64 pos) (.string D) (.slice none 0 0)
     exact H.out.turn hgr hb H4.out.lt H4.out.op0 H4.out.op1 H4.out.pa H4.out.e0 H4.out.e1 H4.out.n
 ·have e1 : (r2.e == 0) = false := by simpa using he
  have HF : Hid (_ = r2) := HT.out.trans (if_neg (fun h => he h.1))
  go_wp2
  have hgr := eight_grown HG4.out (Nat.le_refl w.heap.size) (.int .i64 18) (.string X) (.int .i64 0) (.int .i64 0) (.int .i64 0) (.int .i64 pos) (.string D) (.slice none 0 0)
  refine nd_ret rfl w.heap.size _ _ _ _ _ _ _ _ rfl (eight_put HR4.out _ _ _ _ _ _ _ _) rfl ⟨by rw [HXX.out],hgr,?_,HL.out⟩
  rw [HF.out]
  have hb := eight_other H4.out.blk (Ne.symm hgne) (.int .i64 18) (.string X) (.int .i64 0) (.int .i64 0) (.int .i64 0) (.int .i64 pos) (.string D) (.slice none 0 0)
  exact H.out.turn hgr hb H4.out.lt H4.out.op0 H4.out.op1 H4.out.pa H4.out.e0 H4.out.e1 H4.out.n

end Go.Proofs.YtlekfcehmlepkaaGreatDoor

namespace Go.Proofs.YtlekfcehmlepkaaGreatDoor
set_option linter.unusedSimpArgs false
set_option linter.unusedVariables false

def gworth0 (ts : List Tq) (ag : Gs → Pn × Gs) (s : Gs) : Pn × Gs :=
 let t := gnow ts s
 if t.kind = 4 ∧ t.text = [123] then ag s
 else if t.kind = 1 then (.mk 21 t.text 0 0 0 t.pos [] [],gnameS ts (gmade ts 21 s))
 else if t.kind = 3 then (.mk 22 t.text 0 0 0 t.pos [] [],gtextS ts 10000 (gmade ts 22 s))
 else
  let s1 := gmade ts 20 s
  let minus := gis ts [45] s1
  let s2 := gsign ts [45] s1
  let u := gnow ts s2
  let sg : List Int := if minus = true then [45] else []
  if u.kind = 2 then
   let tx := sg ++ qdg 20 u.n
   (.mk 20 tx 0 0 0 t.pos [] [],gnext ts (if (tint tx).2.2 = false then gfail ts 80 s2 else s2))
  else (.mk 20 sg 0 0 0 t.pos [] [],gfail ts 80 s2)

def gentryN (ts : List Tq) (s : Gs) : (List Int × Int) × Gs :=
 if gis ts [91] s = true then
  let r := gfull ts true (gnext ts s)
  ((r.1,1),gwant ts [93] r.2)
 else (((gnow ts s).text,0),gnameS ts s)

def gentryW (ts : List Tq) (ag : Gs → Pn × Gs) (s : Gs) : Pn × Gs :=
 let s1 := gsign ts [58] s
 if gis ts [58] s = true ∨ ¬ ((gnow ts s1).kind = 4 ∧ (gnow ts s1).text = [123]) then
  gworth0 ts ag (if 0 < s1.i ∧ ¬ ((ts.getD (s1.i - 1) Tq.none).kind = 4 ∧ (ts.getD (s1.i - 1) Tq.none).text = [58]) then gfail ts 80 s1 else s1)
 else ag s1

def gentry (ts : List Tq) (ag : Gs → Pn × Gs) (s : Gs) : Pn × Gs :=
 let n := gentryN ts (gmade ts 24 s)
 let x := gentryW ts ag n.2
 (.mk 24 n.1.1 0 0 n.1.2 (gnow ts s).pos [] [x.1],if gis ts [44] x.2 = true then gnext ts x.2 else gsign ts [59] x.2)

def gagl (ts : List Tq) (ag : Gs → Pn × Gs) : Nat → Gs → List Pn → List Pn × Gs
 | 0,s,k => (k,s)
 | f + 1,s,k => if s.e = 0 ∧ gis ts [125] s = false then gagl ts ag f (gentry ts ag s).2 (k ++ [(gentry ts ag s).1]) else (k,gsign ts [125] s)

def gaggr (ts : List Tq) : Nat → Gs → Pn × Gs
 | 0,s => (.mk 23 [] 0 0 0 (gnow ts s).pos [] [],s)
 | d + 1,s =>
  let r := gagl ts (gaggr ts d) (2 * ts.length + 2) (gbrace ts (gmade ts 23 s)) []
  (.mk 23 [] 0 0 0 (gnow ts s).pos [] r.1,{ r.2 with op := r.2.op - 1 })

def gworth (ts : List Tq) (d : Nat) (s : Gs) : Pn × Gs := gworth0 ts (gaggr ts d) s

def gpart (ts : List Tq) (s : Gs) : Pn × Gs :=
 let s1 := gmade ts 19 s
 if gis ts [40] s1 = true then
  let r := gfull ts true (gnext ts s1)
  (.mk 19 r.1 0 0 1 (gnow ts s).pos [] [],gwant ts [41] r.2)
 else (.mk 19 (gnow ts s1).text 0 0 0 (gnow ts s).pos [] [],gnameS ts s1)

def gparts (ts : List Tq) : Nat → Gs → List Pn → List Pn × Gs
 | 0,s,k => (k,s)
 | f + 1,s,k =>
  let x := gpart ts s
  if gis ts [46] x.2 = true then gparts ts f (gnext ts x.2) (k ++ [x.1]) else (k ++ [x.1],x.2)

def gopt (ts : List Tq) (d : Nat) (s : Gs) : List Pn × Gs :=
 let r := gparts ts (ts.length + 1) s []
 let x := gworth ts d (gwant ts [61] r.2)
 (r.1 ++ [x.1],x.2)

def goption (ts : List Tq) (d : Nat) (s : Gs) : Pn × Gs :=
 let r := gopt ts d (gnext ts (gmade ts 4 s))
 (.mk 4 [] 0 0 0 (gnow ts s).pos [] r.1,gwant ts [59] r.2)

def goptl (ts : List Tq) (d : Nat) : Nat → Gs → List Pn → List Pn × Gs
 | 0,s,k => (k,s)
 | f + 1,s,k =>
  let r := gopt ts d (gmade ts 4 s)
  let x : Pn := .mk 4 [] 0 0 0 (gnow ts s).pos [] r.1
  if gis ts [44] r.2 = true then goptl ts d f (gnext ts r.2) (k ++ [x]) else (k ++ [x],r.2)

def gopts (ts : List Tq) (d : Nat) (s : Gs) : List Pn × Gs :=
 if gis ts [91] s = true then
  let r := goptl ts d (ts.length + 1) (gnext ts s) []
  (r.1,gwant ts [59] (gwant ts [93] r.2))
 else ([],gwant ts [59] s)

end Go.Proofs.YtlekfcehmlepkaaGreatDoor

namespace Go.Proofs.YtlekfcehmlepkaaGreatDoor
set_option linter.unusedSimpArgs false
set_option linter.unusedVariables false

def grange (ts : List Tq) (s : Gs) : Pn × Gs :=
 let s1 := gmade ts 14 s
 let n := w64 (gnow ts s1).n
 let s2 := gintS ts 2147483647 s1
 if gisw ts [116,111] s2 = true then
  let s3 := gnext ts s2
  if gisw ts [109,97,120] s3 = true then (.mk 14 [] n 536870911 0 (gnow ts s).pos [] [],gnext ts s3)
  else (.mk 14 [] n (w64 (gnow ts s3).n) 0 (gnow ts s).pos [] [],gintS ts 2147483647 s3)
 else (.mk 14 [] n n 0 (gnow ts s).pos [] [],s2)

def grangel (ts : List Tq) : Nat → Gs → List Pn → List Pn × Gs
 | 0,s,k => (k,s)
 | f + 1,s,k =>
  let x := grange ts s
  if gis ts [44] x.2 = true then grangel ts f (gnext ts x.2) (k ++ [x.1]) else (k ++ [x.1],x.2)

def granges (ts : List Tq) (s : Gs) : List Pn × Gs :=
 let r := grangel ts (ts.length + 1) s []
 (r.1,gwant ts [59] r.2)

end Go.Proofs.YtlekfcehmlepkaaGreatDoor

namespace Go.Proofs.YtlekfcehmlepkaaGreatDoor
set_option linter.unusedSimpArgs false
set_option linter.unusedVariables false

def gword1 (ts : List Tq) (s : Gs) : Pn × Gs :=
 let s1 := gmade ts 15 s
 (.mk 15 (gnow ts s).text 0 0 0 (gnow ts s).pos [] [],gtextS ts 1000 (if nident (gnow ts s).text = false then gfail ts 80 s1 else s1))

def gwordl (ts : List Tq) : Nat → Gs → List Pn → List Pn × Gs
 | 0,s,k => (k,s)
 | f + 1,s,k =>
  let x := gword1 ts s
  if gis ts [44] x.2 = true then gwordl ts f (gnext ts x.2) (k ++ [x.1]) else (k ++ [x.1],x.2)

def greserved (ts : List Tq) (s : Gs) : Pn × Gs :=
 let s0 := gnext ts (gmade ts 13 s)
 if (gnow ts s0).kind ≠ 3 then (.mk 13 [] 0 0 0 (gnow ts s).pos [] (granges ts s0).1,(granges ts s0).2)
 else
  let r := gwordl ts (ts.length + 1) s0 []
  (.mk 13 [] 0 0 0 (gnow ts s).pos [] r.1,gwant ts [59] r.2)

end Go.Proofs.YtlekfcehmlepkaaGreatDoor

namespace Go.Proofs.YtlekfcehmlepkaaGreatDoor
set_option linter.unusedSimpArgs false
set_option linter.unusedVariables false

def gtail (ts : List Tq) (d : Nat) (s : Gs) : (List Int × Int × List Pn) × Gs :=
 let s2 := gwant ts [61] (gnameS ts s)
 let r := gopts ts d (gintS ts 2147483647 s2)
 (((gnow ts s).text,w64 (gnow ts s2).n,r.1),r.2)

def glabel (ts : List Tq) (labels : Bool) (s : Gs) : Int × Gs :=
 if labels = true then
  if gisw ts [111,112,116,105,111,110,97,108] s = true then (1,gnext ts s)
  else if gisw ts [114,101,113,117,105,114,101,100] s = true then (2,gnext ts s)
  else if gisw ts [114,101,112,101,97,116,101,100] s = true then (3,gnext ts s)
  else (0,s)
 else (0,s)

def gdoc (ts : List Tq) (kind : Int) (s : Gs) : List Int := if tdocd kind = true then (gnow ts s).doc else []

def gfield (ts : List Tq) (d : Nat) (labels : Bool) (s : Gs) : Pn × Gs :=
 let l := glabel ts labels (gmade ts 9 s)
 let ty := gtyped ts true true l.2
 let t := gtail ts d ty.2
 (.mk 9 t.1.1 t.1.2.1 0 l.1 (gnow ts s).pos (gdoc ts 9 s) (ty.1 :: t.1.2.2),t.2)

def gmapped (ts : List Tq) (d : Nat) (s : Gs) : Pn × Gs :=
 let a := gtyped ts true false (gwant ts [60] (gnext ts (gmade ts 10 s)))
 let b := gtyped ts true true (gwant ts [44] a.2)
 let t := gtail ts d (gwant ts [62] b.2)
 (.mk 10 t.1.1 t.1.2.1 0 0 (gnow ts s).pos (gdoc ts 10 s) (a.1 :: b.1 :: t.1.2.2),t.2)

def gvalue (ts : List Tq) (d : Nat) (s : Gs) : Pn × Gs :=
 let s1 := gmade ts 16 s
 let nm := (gnow ts s1).text
 let s2 := gnameS ts s1
 let s3 := gwant ts [61] (if nm = [114,101,115,101,114,118,101,100] ∧ s2.e = 0 then gfail ts 80 { s2 with i := s1.i } else s2)
 let minus := gis ts [45] s3
 let s4 := gsign ts [45] s3
 let r := gopts ts d (gintS ts (if minus = true then 2147483648 else 2147483647) s4)
 let v := w64 (gnow ts s4).n
 (.mk 16 nm (if minus = true then w64 (-v) else v) 0 0 (gnow ts s).pos (gdoc ts 16 s) r.1,r.2)

def gbl (ts : List Tq) (wi : Gs → Pn × Gs) : Nat → Gs → List Pn → List Pn × Gs
 | 0,s,k => (k,s)
 | f + 1,s,k =>
  if s.e ≠ 0 then (k,s)
  else if gis ts [125] s = true then (k,gnext ts s)
  else if gis ts [59] s = true then gbl ts wi f (gnext ts s) k
  else gbl ts wi f (wi s).2 (k ++ [(wi s).1])

def pnil : Pn := .mk 0 [] 0 0 0 0 [] []

def gstream (ts : List Tq) (i : Int) (s : Gs) : (Int × Pn) × Gs :=
 let s1 := gwant ts [40] (if i = 2 ∧ gisw ts [114,101,116,117,114,110,115] s = false then gfail ts 80 s else if i = 2 then gnext ts s else s)
 let st := gisw ts [115,116,114,101,97,109] s1
 let ty := gtyped ts true true (gword ts [115,116,114,101,97,109] s1)
 ((if st = true then i else 0,ty.1),gwant ts [41] ty.2)

def grpc (ts : List Tq) (bd : Int → Gs → List Pn × Gs) (s : Gs) : Pn × Gs :=
 let s1 := gnext ts (gmade ts 17 s)
 let a := gstream ts 1 (gnameS ts s1)
 let b := gstream ts 2 a.2
 let nm := (gnow ts s1).text
 if (gnow ts b.2).kind = 4 ∧ (gnow ts b.2).text = [123] then
  (.mk 17 nm 0 0 (a.1.1 + b.1.1) (gnow ts s).pos (gdoc ts 17 s) (a.1.2 :: b.1.2 :: (bd 17 b.2).1),(bd 17 b.2).2)
 else (.mk 17 nm 0 0 (a.1.1 + b.1.1) (gnow ts s).pos (gdoc ts 17 s) [a.1.2,b.1.2],gwant ts [59] b.2)

def gnamed (ts : List Tq) (bd : Int → Gs → List Pn × Gs) (kind : Int) (s : Gs) : Pn × Gs :=
 let s1 := gnext ts (gmade ts kind s)
 let r := bd kind (gnameS ts s1)
 (.mk kind (gnow ts s1).text 0 0 0 (gnow ts s).pos (gdoc ts kind s) r.1,r.2)

def gitem (ts : List Tq) (bd : Int → Gs → List Pn × Gs) (d : Nat) (s : Gs) : Pn × Gs :=
 if gisw ts [109,101,115,115,97,103,101] s = true then gnamed ts bd 5 s
 else if gisw ts [101,110,117,109] s = true then gnamed ts bd 6 s
 else if gisw ts [115,101,114,118,105,99,101] s = true then gnamed ts bd 8 s
 else if gisw ts [101,120,116,101,110,100] s = true then
  let ty := gtyped ts false true (gnext ts (gmade ts 7 s))
  let r := bd 7 { ty.2 with n := w64 (ty.2.n - 1) }
  (.mk 7 (match ty.1 with | .mk _ t _ _ _ _ _ _ => t) 0 0 0 (gnow ts s).pos [] r.1,r.2)
 else if gisw ts [111,112,116,105,111,110] s = true then goption ts d s
 else if gisw ts [105,109,112,111,114,116] s = true then
  let s1 := gnext ts (gmade ts 2 s)
  let pu := gisw ts [112,117,98,108,105,99] s1
  let s2 := gword ts [112,117,98,108,105,99] s1
  (.mk 2 (gnow ts s2).text 0 0 (if pu = true then 1 else 0) (gnow ts s).pos [] [],gwant ts [59] (gtextS ts 1000 s2))
 else if gisw ts [112,97,99,107,97,103,101] s = true then
  let r := gfull ts false (gnext ts (gmade ts 3 s))
  (.mk 3 r.1 0 0 0 (gnow ts s).pos [] [],gwant ts [59] r.2)
 else (pnil,gfail ts 80 s)

def gisMap (ts : List Tq) (s : Gs) : Bool := gisw ts [109,97,112] s && decide (s.i + 1 < ts.length ∧ (ts.getD (s.i + 1) Tq.none).kind = 4 ∧ (ts.getD (s.i + 1) Tq.none).text = [60])

def gwithin (ts : List Tq) (bd : Int → Gs → List Pn × Gs) (d : Nat) (kind : Int) (s : Gs) : Pn × Gs :=
 if gisw ts [111,112,116,105,111,110] s = true ∧ kind ≠ 7 then goption ts d s
 else if kind = 6 then gvalue ts d s
 else if kind = 11 then gfield ts d false s
 else if kind = 7 then gfield ts d true s
 else if kind = 8 ∧ gisw ts [114,112,99] s = true then grpc ts bd s
 else if kind = 8 ∨ kind = 17 then (pnil,gfail ts 80 s)
 else if gisw ts [109,101,115,115,97,103,101] s = true ∨ gisw ts [101,110,117,109] s = true ∨ gisw ts [101,120,116,101,110,100] s = true then gitem ts bd d s
 else if gisw ts [111,110,101,111,102] s = true then gnamed ts bd 11 s
 else if gisMap ts s = true then gmapped ts d s
 else if gisw ts [101,120,116,101,110,115,105,111,110,115] s = true then
  let r := granges ts (gnext ts (gmade ts 12 s))
  (.mk 12 [] 0 0 0 (gnow ts s).pos [] r.1,r.2)
 else if gisw ts [114,101,115,101,114,118,101,100] s = true then greserved ts s
 else gfield ts d true s

def gbody (ts : List Tq) : Nat → Int → Gs → List Pn × Gs
 | 0,kind,s => ([],s)
 | d + 1,kind,s =>
  let r := gbl ts (gwithin ts (gbody ts d) d kind) (2 * ts.length + 2) (gbrace ts s) []
  (r.1,{ r.2 with op := r.2.op - 1 })

def gfilel (ts : List Tq) : Nat → Gs → Nat → List Pn → List Pn × Gs
 | 0,s,_,k => (k,s)
 | f + 1,s,pk,k =>
  if s.e ≠ 0 ∨ (gnow ts s).kind = 0 then (k,s)
  else if gis ts [59] s = true then gfilel ts f (gnext ts s) pk k
  else
   let isp := gisw ts [112,97,99,107,97,103,101] s
   let pk' := if isp = true then pk + 1 else pk
   let s1 := if isp = true ∧ 1 < pk' then gfail ts 80 s else s
   let x := gitem ts (gbody ts 31) 31 s1
   gfilel ts f x.2 pk' (k ++ [x.1])

def gtokens (ts : List Tq) : Pn × Int × Int :=
 if ts.length = 0 ∨ (ts.getD (ts.length - 1) Tq.none).kind ≠ 0 then (pnil,0,80)
 else
  let s0 : Gs := ⟨0,0,0,0,1⟩
  let sy := gisw ts [115,121,110,116,97,120] s0
  let s1 := if sy = true then gwant ts [61] (gnext ts s0) else s0
  let tx := (gnow ts s1).text
  let s2 := if sy = true then gwant ts [59] (gtextS ts 6 (if tx ≠ [112,114,111,116,111,50] ∧ tx ≠ [112,114,111,116,111,51] then gfail ts 80 s1 else s1)) else s0
  let r := gfilel ts (2 * ts.length + 2) s2 0 []
  if r.2.e ≠ 0 then (pnil,r.2.pa,r.2.e)
  else if 20000 < r.2.n then (pnil,0,2)
  else (.mk 1 (if sy = true then tx else []) 0 0 0 (ts.getD 0 Tq.none).pos [] r.1,0,0)

end Go.Proofs.YtlekfcehmlepkaaGreatDoor

namespace Go.Proofs.YtlekfcehmlepkaaGreatDoor
open Go.RowKit
set_option linter.unusedVariables false
set_option linter.unusedSimpArgs false

theorem blk_app {W w' : World} {row : Option Nat} (k : W.grownBy w' row) {j : Nat} {o : Obj} (h : W.heap[j]? = some o) (hr : row ≠ some j) : w'.heap[j]? = some o :=
 (k.block j (Array.getElem?_eq_some_iff.1 h).1 (fun e => hr e.symm)).trans h

theorem flat8t : ∀ (ts : List Tn) (i : Nat) (t : Tn),ts[i]? = some t → ∀ (j : Nat) (u : Value),t.cells[j]? = some u → (ts.flatMap Tn.cells)[i * 8 + j]? = some u
 | [],i,t,h,_,_,_ => by simp at h
 | x :: ts,0,t,h,j,u,hj => by
  simp at h
  subst h
  rw [List.flatMap_cons,List.getElem?_append_left (by simpa using (List.getElem?_eq_some_iff.1 hj).1)]
  simpa using hj
 | x :: ts,i + 1,t,h,j,u,hj => by
  have ih := flat8t ts i t (by simpa using h) j u hj
  rw [List.flatMap_cons,List.getElem?_append_right (by rw [cells8]; omega),cells8,show (i + 1) * 8 + j - 8 = i * 8 + j by omega]
  exact ih

theorem Ns.node {w : World} {base : Nat} {ad : Option Addr} {n c : Nat} {ks : List Tn} (h : Ns w base (.slice ad n c) ks) {nk nn nm na np : Int} {ntx ndc : List Int} (hnk : i64b nk) (hnn : i64b nn) (hnm : i64b nm) (hna : i64b na) (hnp : i64b np) (hnt : byts ntx ∧ ntx.length ≤ 100000) (hnd : byts ndc ∧ ndc.length ≤ 1000000) :
  TnOk w (.mk nk ntx nn nm na np ndc ad c ks) ∧ n = ks.length ∧ ∀ b ∈ (Tn.mk nk ntx nn nm na np ndc ad c ks).blocks,base ≤ b ∧ b < w.heap.size := by
 have hbl : ∀ b ∈ blocksL ks,base ≤ b ∧ b < w.heap.size := blocksL_all (fun t ht b hb => ⟨((h.2 t ht).2 b hb).1,((h.2 t ht).2 b hb).2.1⟩)
 have hkids : ∀ (i : Nat) (t : Tn),ks[i]? = some t → TnOk w t := fun i t hi => (h.2 t (List.mem_of_getElem? hi)).1
 rcases h.1.2 with ⟨he,hn⟩ | ⟨g,c',cur,he,hg,hh,h1,h2,h3,h4⟩
 ·simp only [Value.slice.injEq] at he
  obtain ⟨rfl,rfl,rfl⟩ := he
  have : ks = [] := List.eq_nil_of_length_eq_zero hn
  subst this
  exact ⟨.mk hnk hnt.1 (by have := hnt.2; omega) hnn hnm hna hnp hnd.1 (by have := hnd.2; omega) (by simp) (by simp) (fun _ => rfl) (fun h => absurd h (by simp)) hkids,rfl,fun b hb => by simp [Tn.blocks,blocksL] at hb⟩
 ·simp only [Value.slice.injEq] at he
  obtain ⟨rfl,rfl,rfl⟩ := he
  have hlt := (h.1.lt g rfl).2
  refine ⟨.mk hnk hnt.1 (by have := hnt.2; omega) hnn hnm hna hnp hnd.1 (by have := hnd.2; omega) (by unfold maxLen at h2; omega) h1 (fun e => by simp at e) (fun hp => ⟨g,0,rfl,hlt,fun i t hi j u hj => ?_⟩) hkids,rfl,fun b hb => ?_⟩
  ·have hf := flat8t ks i t hi j u hj
   have hl := (List.getElem?_eq_some_iff.1 hf).1
   have hlen := h.1.1
   have := h.1.cellAt (i * 8 + j) (by omega)
   rw [Nat.zero_add,this]
   exact hf
  ·simp only [Tn.blocks,List.mem_append,List.mem_cons,List.not_mem_nil,or_false] at hb
   rcases hb with rfl | hb
   ·exact ⟨hg,hlt⟩
   ·exact hbl b hb

theorem step_append_nd {w : World} {ops : Array Oper} {o : Oper} {f : Act} {K : Act → World → Prop} {Q : Exit → Act → World → Prop} {E : Prop} (hgd : o.guard = none) (s x : Operand)
  (ho : o.op = .call { callee := .builtin .append,args := #[s,x],argTypes := #[26,26] }) (base : Nat) (v : Value) (ts : List Tn) (t : Tn) (b cap : Nat)
  (hs : f.eval s = v) (hx : f.eval x = .slice (some ⟨b,0,none⟩) 1 cap) (hown : Ns w base v ts) (ht : TnOk w t) (hb : ∀ bb ∈ t.blocks,base ≤ bb ∧ bb < w.heap.size ∧ v.ownBlock ≠ some bb)
  (hc : ∀ (j : Nat) (u : Value),t.cells[j]? = some u → w.cell? ⟨b,j,none⟩ = some u) (hn : ts.length + 1 ≤ 2000000) (hbase : base ≤ w.heap.size)
  (h : ∀ v' w',Ns w' base v' (ts ++ [t]) → w.grownBy w' v.ownBlock → (v'.ownBlock = v.ownBlock ∨ v'.ownBlock = some w.heap.size) → K (f.put o.dst v') w') : if Region.wanted o (yielded ops f.tmps) = true then Oper.wp Tryz.prog o f w K Q else E := by
 have hw : Region.wanted o (yielded ops f.tmps) = true := by simp [Region.wanted,hgd]
 rw [if_pos hw]
 obtain ⟨i0,hi,hz0,hz1,hz2⟩ := info_parts Tryz.infoNode
 obtain ⟨v',w',hrun,h1,h2,_,h3⟩ := run_append_own_at (P := Tryz.prog) w base 26 o.type 28 i0 _ 8 96 Tryz.underlying26 hi hz0 hz1 hz2 rfl (by decide) v ts.length _ hown.1 ⟨b,0,none⟩ 1 cap t.cells (by simp [cells8])
  (fun j u hj => by
   have hp : (⟨b,0,none⟩ : Addr).add j = ⟨b,j,none⟩ := by unfold Addr.add; split <;> simp_all
   rw [hp]; exact hc j u hj)
  (fun u hu => by
   obtain ⟨_,_,_,_,_,_,_,_,_,_⟩ := t
   simp [Tn.cells] at hu
   rcases hu with rfl | rfl | rfl | rfl | rfl | rfl | rfl | rfl <;> rfl) (by unfold maxLen; omega) (by omega) hbase
 unfold Oper.wp
 simp [execOp,ho,resolve,invoke,builtin,hs,hx,hrun,Result.andThen]
 exact h v' w' (hown.push ht hb (by simpa using h1) h2 h3) h2 h3

def NodeRet (w : World) (g : Nat) (a : Option Addr) (len cap : Nat) (ts : List Tq) (m : Pn × Gs) (e : Ending) (w' : World) : Prop :=
 ∃ t : Tn,e = .returned t.val ∧ t.plain = m.1 ∧ TnOk w' t ∧ (∀ b ∈ t.blocks,w.heap.size ≤ b ∧ b < w'.heap.size) ∧ w.grownBy w' (some g) ∧ Gm w' g a len cap ts m.2

end Go.Proofs.YtlekfcehmlepkaaGreatDoor
