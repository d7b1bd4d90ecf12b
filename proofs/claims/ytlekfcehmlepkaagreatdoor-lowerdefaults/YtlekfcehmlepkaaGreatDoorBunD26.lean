/- Put together by a program out of these texts of mine: SField. -/
import Derived.Test.YtlekfcehmlepkaaGreatDoorBunD25

namespace Go.Proofs.YtlekfcehmlepkaaGreatDoor
open Go.RowKit
set_option linter.unusedVariables false
set_option linter.unusedSimpArgs false

theorem gfield_eq (ts : List Tq) (d : Nat) (b : Bool) (s : Gs) : gfield ts d b s = (.mk 9 (gtail ts d (gtyped ts true true (glabel ts b (gmade ts 9 s)).2).2).1.1 (gtail ts d (gtyped ts true true (glabel ts b (gmade ts 9 s)).2).2).1.2.1 0 (glabel ts b (gmade ts 9 s)).1 (gnow ts s).pos (gnow ts s).doc ((gtyped ts true true (glabel ts b (gmade ts 9 s)).2).1 :: (gtail ts d (gtyped ts true true (glabel ts b (gmade ts 9 s)).2).2).1.2.2),(gtail ts d (gtyped ts true true (glabel ts b (gmade ts 9 s)).2).2).2) := rfl

set_option maxHeartbeats 8000000 in
theorem rgfield20 {w : World} {g : Nat} {a : Option Addr} {len cap : Nat} {ts : List Tq} {s : Gs} (H : Hid (Gm w g a len cap ts s)) (d : Nat) (hod : s.op + d = 31) (HW : Hid (Sim ts)) (labels : Bool) :
  Calls Tryz.prog 145 #[.pointer (some ⟨g,0,none⟩),.bool labels] w (NodeRet2 w g a len cap ts (.slice none 0 0) [] (gfield ts d labels s)) := by
 have hg := H.out.blk.size
 have hL : ts.length = len := H.out.tok.1
 have HE : Hid (Ends ts) := by show (ts.getD (ts.length - 1) Tq.none).kind = 0; rw [hL]; exact H.out.last
 obtain ⟨D,hD⟩ : ∃ D,D = strOfNums [] := ⟨_,rfl⟩
 have HDD : Hid (D = strOfNums []) := hD
 clear hD
 have S0 : Hid (Sx w g a len cap ts w.heap.size (.slice none 0 0) [] w (s) [] (.slice none 0 0) [] []) := Sx.begin H.out
 have S1 : Hid (Sx w g a len cap ts w.heap.size (.slice none 0 0) [] (w.alloc (.cells #[.int .i64 0,.string { data := #[] },.int .i64 0,.int .i64 0,.int .i64 0,.int .i64 0,.string { data := #[] },.slice none 0 0] 28)) (s) [(w.heap.size,#[.int .i64 0,.string { data := #[] },.int .i64 0,.int .i64 0,.int .i64 0,.int .i64 0,.string { data := #[] },.slice none 0 0])] (.slice none 0 0) [] []) := S0.out.alloc _
 have hn_g : w.heap.size ≠ g := by omega
 have Q1 : Hid _ := rgmade_any (show Hid (Gm (w.alloc (.cells #[.int .i64 0,.string { data := #[] },.int .i64 0,.int .i64 0,.int .i64 0,.int .i64 0,.string { data := #[] },.slice none 0 0] 28)) g a len cap ts (s)) from S1.out.gm) 9 (by unfold i64b; omega)
 rw [show tdocd 9 = true by decide,if_pos rfl] at Q1
 obtain ⟨ND,hND⟩ : ∃ ND,ND = strOfNums (gnow ts (s)).doc := ⟨_,rfl⟩
 rw [← hND] at Q1
 have HND : Hid (ND = strOfNums (gnow ts (s)).doc) := hND
 clear hND
 have HNDb : Hid (byts (gnow ts (s)).doc ∧ (gnow ts (s)).doc.length ≤ 1000000) := ⟨S1.out.gm.now_ok.2.2.2.2.1,S1.out.gm.now_ok.2.2.2.2.2.2⟩
 have Hkpb : Hid (i64b (gnow ts (s)).pos) := S1.out.gm.now_ok.2.2.2.1
 obtain ⟨kp,hkp⟩ : ∃ kp,kp = (gnow ts (s)).pos := ⟨_,rfl⟩
 rw [← hkp] at Q1 Hkpb
 have Hkp : Hid (kp = (gnow ts (s)).pos) := hkp
 clear hkp
 go_enter Tryz.func145,Tryz.ntmps145
 go_wp2_with fail
 refine Calls.mono Q1.out ?_
 rintro e w1 ⟨rfl,hgw1,Hw1⟩
 have S2 : Hid (Sx w g a len cap ts w.heap.size (.slice none 0 0) [] w1 (gmade ts 9 (s)) [(w.heap.size,#[.int .i64 0,.string { data := #[] },.int .i64 0,.int .i64 0,.int .i64 0,.int .i64 0,.string { data := #[] },.slice none 0 0])] (.slice none 0 0) [] []) := S1.out.call hgw1 Hw1
 clear hgw1 Hw1 Q1
 have hz_w1_0 : w.heap.size < w1.heap.size := S2.out.ltAt 0 w.heap.size rfl
 have S3 : Hid (Sx w g a len cap ts w.heap.size (.slice none 0 0) [] (w1.alloc (.cells #[.int .i64 9,.string { data := #[] },.int .i64 0,.int .i64 0,.int .i64 0,.int .i64 kp,.string ND,.slice none 0 0] 28)) (gmade ts 9 (s)) [(w1.heap.size,#[.int .i64 9,.string { data := #[] },.int .i64 0,.int .i64 0,.int .i64 0,.int .i64 kp,.string ND,.slice none 0 0]),(w.heap.size,#[.int .i64 0,.string { data := #[] },.int .i64 0,.int .i64 0,.int .i64 0,.int .i64 0,.string { data := #[] },.slice none 0 0])] (.slice none 0 0) [] []) := S2.out.alloc _
 have hn_22 : w1.heap.size ≠ w.heap.size := by omega
 have hn_23 : w1.heap.size ≠ g := by omega
 cases labels with
 | false =>
  have HLab : Hid (glabel ts false (gmade ts 9 s) = (0,gmade ts 9 s)) := rfl
  have HOl : Hid ((gmade ts 9 s).op + d = 31) := by show _ = _; have h1 := (mmade ts 9 s).op; omega
  have Q3 : Hid _ := rgtyped_any (show Hid (Gm (w1.alloc (.cells #[.int .i64 9,.string { data := #[] },.int .i64 0,.int .i64 0,.int .i64 0,.int .i64 kp,.string ND,.slice none 0 0] 28)) g a len cap ts (gmade ts 9 (s))) from S3.out.gm) true true
  have Hkqb : Hid (i64b (gnow ts (gmade ts 9 (s))).pos) := S3.out.gm.now_ok.2.2.2.1
  obtain ⟨r4,hr4⟩ : ∃ r4,r4 = (gfull ts true (gmade ts 18 (gmade ts 9 (s)))).1 := ⟨_,rfl⟩
  rw [← hr4] at Q3
  have Hr4 : Hid (r4 = (gfull ts true (gmade ts 18 (gmade ts 9 (s)))).1) := hr4
  obtain ⟨kq,hkq⟩ : ∃ kq,kq = (gnow ts (gmade ts 9 (s))).pos := ⟨_,rfl⟩
  rw [← hkq] at Q3 Hkqb
  have Hkq : Hid (kq = (gnow ts (gmade ts 9 (s))).pos) := hkq
  obtain ⟨X4,hX4⟩ : ∃ X4,X4 = strOfNums r4 := ⟨_,rfl⟩
  rw [← hX4] at Q3
  have HX4 : Hid (X4 = strOfNums r4) := hX4
  clear hX4
  rw [← HDD.out] at Q3
  clear hkq hr4
  go_wp2_with fail
  refine Calls.mono Q3.out ?_
  rintro e w5 ⟨rfl,hgw5,Hw5,hlw5,hbw5⟩
  have S4 : Hid (Sx w g a len cap ts w.heap.size (.slice none 0 0) [] w5 ((gtyped ts true true (gmade ts 9 (s))).2) [(w1.heap.size,#[.int .i64 9,.string { data := #[] },.int .i64 0,.int .i64 0,.int .i64 0,.int .i64 kp,.string ND,.slice none 0 0]),(w.heap.size,#[.int .i64 0,.string { data := #[] },.int .i64 0,.int .i64 0,.int .i64 0,.int .i64 0,.string { data := #[] },.slice none 0 0])] (.slice none 0 0) [] [Tn.mk 18 r4 0 0 0 kq [] none 0 []]) := (S3.out.call hgw5 Hw5).tree _ (leaf_ok _ (by unfold i64b; omega) hbw5 (by omega) Hkqb.out) (fun b hb => by simp [Tn.blocks,blocksL] at hb)
  have HLf4 : Hid ((Tn.mk 18 r4 0 0 0 kq [] none 0 []).plain = (gtyped ts true true (gmade ts 9 (s))).1) := by show _ = _; rw [Tn.plain,plains,Hr4.out,Hkq.out]; rfl
  clear hgw5 Hw5 hlw5 hbw5 Q3
  obtain ⟨⟨ca00,ca01,ca02,ca03,ca04,ca05,ca06,ca07⟩,cb00,cb01,cb02,cb03,cb04,cb05,cb06,cb07⟩ := eight_cells (S4.out.eight 0 w1.heap.size rfl)
  have hz_w5_0 : w1.heap.size < w5.heap.size := S4.out.ltAt 0 w1.heap.size rfl
  have hz_w5_1 : w.heap.size < w5.heap.size := S4.out.ltAt 1 w.heap.size rfl
  have S5 : Hid (Sx w g a len cap ts w.heap.size (.slice none 0 0) [] (w5.setCell ⟨w1.heap.size,7,none⟩ (.slice (some ⟨w5.heap.size,0,none⟩) 1 1)) ((gtyped ts true true (gmade ts 9 (s))).2) [(w1.heap.size,#[.int .i64 9,.string { data := #[] },.int .i64 0,.int .i64 0,.int .i64 0,.int .i64 kp,.string ND,.slice (some ⟨w5.heap.size,0,none⟩) 1 1]),(w.heap.size,#[.int .i64 0,.string { data := #[] },.int .i64 0,.int .i64 0,.int .i64 0,.int .i64 0,.string { data := #[] },.slice none 0 0])] (.slice none 0 0) [] [Tn.mk 18 r4 0 0 0 kq [] none 0 []]) := S4.out.set 0 w1.heap.size _ rfl 7 _
  have S6 : Hid (Sx w g a len cap ts w.heap.size (.slice none 0 0) [] ((w5.setCell ⟨w1.heap.size,7,none⟩ (.slice (some ⟨w5.heap.size,0,none⟩) 1 1)).alloc (.cells #[.int .i64 18,.string X4,.int .i64 0,.int .i64 0,.int .i64 0,.int .i64 kq,.string D,.slice none 0 0] 28)) ((gtyped ts true true (gmade ts 9 (s))).2) [(w5.heap.size,#[.int .i64 18,.string X4,.int .i64 0,.int .i64 0,.int .i64 0,.int .i64 kq,.string D,.slice none 0 0]),(w1.heap.size,#[.int .i64 9,.string { data := #[] },.int .i64 0,.int .i64 0,.int .i64 0,.int .i64 kp,.string ND,.slice (some ⟨w5.heap.size,0,none⟩) 1 1]),(w.heap.size,#[.int .i64 0,.string { data := #[] },.int .i64 0,.int .i64 0,.int .i64 0,.int .i64 0,.string { data := #[] },.slice none 0 0])] (.slice none 0 0) [] [Tn.mk 18 r4 0 0 0 kq [] none 0 []]) := S5.out.allocAt _ w5.heap.size (by simp only [set_size])
  have S7 : Hid (Sx w g a len cap ts w.heap.size (.slice none 0 0) [] ((w5.setCell ⟨w1.heap.size,7,none⟩ (.slice (some ⟨w5.heap.size,0,none⟩) 1 1)).alloc (.cells #[.int .i64 18,.string X4,.int .i64 0,.int .i64 0,.int .i64 0,.int .i64 kq,.string D,.slice none 0 0] 28)) ((gtyped ts true true (gmade ts 9 (s))).2) [(w1.heap.size,#[.int .i64 9,.string { data := #[] },.int .i64 0,.int .i64 0,.int .i64 0,.int .i64 kp,.string ND,.slice (some ⟨w5.heap.size,0,none⟩) 1 1]),(w.heap.size,#[.int .i64 0,.string { data := #[] },.int .i64 0,.int .i64 0,.int .i64 0,.int .i64 0,.string { data := #[] },.slice none 0 0])] (.slice (some ⟨w5.heap.size,0,none⟩) 1 1) [Tn.mk 18 r4 0 0 0 kq [] none 0 []] []) := S6.out.kids1 (by rw [HX4.out,HDD.out]; rfl)
  have HO5 : Hid (((gtyped ts true true (gmade ts 9 (s))).2).op + d = 31) := by show _ = _; have h1 := (mtyped HE.out true true (gmade ts 9 (s))).op; have h2 := HOl.out; omega
  have Q7 : Hid _ := rgtail_any0 (show Hid (Gm ((w5.setCell ⟨w1.heap.size,7,none⟩ (.slice (some ⟨w5.heap.size,0,none⟩) 1 1)).alloc (.cells #[.int .i64 18,.string X4,.int .i64 0,.int .i64 0,.int .i64 0,.int .i64 kq,.string D,.slice none 0 0] 28)) g a len cap ts ((gtyped ts true true (gmade ts 9 (s))).2)) from S7.out.gm) d HO5.out HW (base := w.heap.size) hg S7.out.fr.size (show Hid (Ns ((w5.setCell ⟨w1.heap.size,7,none⟩ (.slice (some ⟨w5.heap.size,0,none⟩) 1 1)).alloc (.cells #[.int .i64 18,.string X4,.int .i64 0,.int .i64 0,.int .i64 0,.int .i64 kq,.string D,.slice none 0 0] 28)) w.heap.size (.slice (some ⟨w5.heap.size,0,none⟩) 1 1) [Tn.mk 18 r4 0 0 0 kq [] none 0 []]) from S7.out.ns) (by simp) (nk := 9) (nn := 0) (nm := 0) (na := 0) (np := kp) (ntx := []) (ndc := (gnow ts s).doc) (by unfold i64b; omega) (by unfold i64b; omega) (by unfold i64b; omega) (by unfold i64b; omega) Hkpb.out ⟨fun c hc => by simp at hc,by simp⟩ HNDb.out
  rw [← HND.out,show strOfNums [] = { data := #[] } from rfl] at Q7
  go_wp2_with fail
  refine Calls.mono Q7.out ?_
  rintro e w6 hNw6
  obtain ⟨t,rfl,htp,hw6⟩ := S7.out.got2 hNw6
  obtain ⟨k2,tx2,n2,m2,a2,p2,dc2,ad2,cap2,ks2⟩ := t
  have S8 : Hid (Sx w g a len cap ts w.heap.size (.slice none 0 0) [] w6 ((gtail ts d ((gtyped ts true true (gmade ts 9 (s))).2)).2) [(w1.heap.size,#[.int .i64 9,.string { data := #[] },.int .i64 0,.int .i64 0,.int .i64 0,.int .i64 kp,.string ND,.slice (some ⟨w5.heap.size,0,none⟩) 1 1]),(w.heap.size,#[.int .i64 0,.string { data := #[] },.int .i64 0,.int .i64 0,.int .i64 0,.int .i64 0,.string { data := #[] },.slice none 0 0])] (.slice none 0 0) [] [Tn.mk k2 tx2 n2 m2 a2 p2 dc2 ad2 cap2 ks2]) := hw6
  have HTP2 : Hid ((Tn.mk k2 tx2 n2 m2 a2 p2 dc2 ad2 cap2 ks2).plain = Pn.mk 9 (gtail ts d ((gtyped ts true true (gmade ts 9 (s))).2)).1.1 (gtail ts d ((gtyped ts true true (gmade ts 9 (s))).2)).1.2.1 0 (0) kp (gnow ts s).doc (plains [Tn.mk 18 r4 0 0 0 kq [] none 0 []] ++ (gtail ts d ((gtyped ts true true (gmade ts 9 (s))).2)).1.2.2)) := htp
  clear hNw6 hw6 htp Q7
  simp only [Tn.val,Tn.cells]
  obtain ⟨X2,hX2⟩ : ∃ X2,X2 = strOfNums tx2 := ⟨_,rfl⟩
  rw [← hX2]
  have HX2 : Hid (X2 = strOfNums tx2) := hX2
  clear hX2
  obtain ⟨D2,hD2⟩ : ∃ D2,D2 = strOfNums dc2 := ⟨_,rfl⟩
  rw [← hD2]
  have HD2 : Hid (D2 = strOfNums dc2) := hD2
  clear hD2
  obtain ⟨⟨ca10,ca11,ca12,ca13,ca14,ca15,ca16,ca17⟩,cb10,cb11,cb12,cb13,cb14,cb15,cb16,cb17⟩ := eight_cells (S8.out.eight 1 w.heap.size rfl)
  have hz_w6_0 : w1.heap.size < w6.heap.size := S8.out.ltAt 0 w1.heap.size rfl
  have hz_w6_1 : w.heap.size < w6.heap.size := S8.out.ltAt 1 w.heap.size rfl
  go_wp2
  rw [gfield_eq ts d _ s,show glabel ts false (gmade ts 9 s) = (0,gmade ts 9 (s)) from HLab.out]
  refine S8.out.fin rfl 1 w.heap.size (.int .i64 0) (.string { data := #[] }) (.int .i64 0) (.int .i64 0) (.int .i64 0) (.int .i64 0) (.string { data := #[] }) (.slice none 0 0) (.int .i64 k2) (.string X2) (.int .i64 n2) (.int .i64 m2) (.int .i64 a2) (.int .i64 p2) (.string D2) (.slice ad2 ks2.length cap2) rfl rfl rfl ?_ ?_
  ·rw [Tn.cells,HX2.out,HD2.out]
  ·exact by rw [HTP2.out,plains,plains,HLf4.out,Hkp.out]; rfl
 | true =>
  have Q3 : Hid _ := rgword_any (show Hid (Gm (w1.alloc (.cells #[.int .i64 9,.string { data := #[] },.int .i64 0,.int .i64 0,.int .i64 0,.int .i64 kp,.string ND,.slice none 0 0] 28)) g a len cap ts (gmade ts 9 (s))) from S3.out.gm) [111,112,116,105,111,110,97,108] (show byts _ by unfold byts; decide)
  cases hd0 : gisw ts [111,112,116,105,111,110,97,108] (gmade ts 9 s) with
  | true =>
   rw [hd0,gword_on _ _ _ hd0] at Q3
   go_wp2_with fail
   refine Calls.mono Q3.out ?_
   rintro e wl0 ⟨rfl,hgwl0,Hwl0⟩
   have S4 : Hid (Sx w g a len cap ts w.heap.size (.slice none 0 0) [] wl0 (gnext ts (gmade ts 9 s)) [(w1.heap.size,#[.int .i64 9,.string { data := #[] },.int .i64 0,.int .i64 0,.int .i64 0,.int .i64 kp,.string ND,.slice none 0 0]),(w.heap.size,#[.int .i64 0,.string { data := #[] },.int .i64 0,.int .i64 0,.int .i64 0,.int .i64 0,.string { data := #[] },.slice none 0 0])] (.slice none 0 0) [] []) := S3.out.call hgwl0 Hwl0
   clear hgwl0 Hwl0 Q3
   obtain ⟨⟨ca00,ca01,ca02,ca03,ca04,ca05,ca06,ca07⟩,cb00,cb01,cb02,cb03,cb04,cb05,cb06,cb07⟩ := eight_cells (S4.out.eight 0 w1.heap.size rfl)
   have hz_wl0_0 : w1.heap.size < wl0.heap.size := S4.out.ltAt 0 w1.heap.size rfl
   have hz_wl0_1 : w.heap.size < wl0.heap.size := S4.out.ltAt 1 w.heap.size rfl
   have S5 : Hid (Sx w g a len cap ts w.heap.size (.slice none 0 0) [] (wl0.setCell ⟨w1.heap.size,4,none⟩ (.int .i64 1)) (gnext ts (gmade ts 9 s)) [(w1.heap.size,#[.int .i64 9,.string { data := #[] },.int .i64 0,.int .i64 0,.int .i64 1,.int .i64 kp,.string ND,.slice none 0 0]),(w.heap.size,#[.int .i64 0,.string { data := #[] },.int .i64 0,.int .i64 0,.int .i64 0,.int .i64 0,.string { data := #[] },.slice none 0 0])] (.slice none 0 0) [] []) := S4.out.set 0 w1.heap.size _ rfl 4 _
   have HLab : Hid (glabel ts true (gmade ts 9 s) = (1,gnext ts (gmade ts 9 s))) := by show _ = _; unfold glabel; rw [if_pos rfl,if_pos hd0]
   have HOl : Hid ((gnext ts (gmade ts 9 s)).op + d = 31) := by show _ = _; have h1 := (mmade ts 9 s).op; have h2 := (mnext0 ts (gmade ts 9 s)).op; omega
   have Q5 : Hid _ := rgtyped_any (show Hid (Gm (wl0.setCell ⟨w1.heap.size,4,none⟩ (.int .i64 1)) g a len cap ts (gnext ts (gmade ts 9 s))) from S5.out.gm) true true
   have Hkqb : Hid (i64b (gnow ts (gnext ts (gmade ts 9 s))).pos) := S5.out.gm.now_ok.2.2.2.1
   obtain ⟨r4,hr4⟩ : ∃ r4,r4 = (gfull ts true (gmade ts 18 (gnext ts (gmade ts 9 s)))).1 := ⟨_,rfl⟩
   rw [← hr4] at Q5
   have Hr4 : Hid (r4 = (gfull ts true (gmade ts 18 (gnext ts (gmade ts 9 s)))).1) := hr4
   obtain ⟨kq,hkq⟩ : ∃ kq,kq = (gnow ts (gnext ts (gmade ts 9 s))).pos := ⟨_,rfl⟩
   rw [← hkq] at Q5 Hkqb
   have Hkq : Hid (kq = (gnow ts (gnext ts (gmade ts 9 s))).pos) := hkq
   obtain ⟨X4,hX4⟩ : ∃ X4,X4 = strOfNums r4 := ⟨_,rfl⟩
   rw [← hX4] at Q5
   have HX4 : Hid (X4 = strOfNums r4) := hX4
   clear hX4
   rw [← HDD.out] at Q5
   clear hkq hr4
   go_wp2_with fail
   refine Calls.mono Q5.out ?_
   rintro e w5 ⟨rfl,hgw5,Hw5,hlw5,hbw5⟩
   have S6 : Hid (Sx w g a len cap ts w.heap.size (.slice none 0 0) [] w5 ((gtyped ts true true (gnext ts (gmade ts 9 s))).2) [(w1.heap.size,#[.int .i64 9,.string { data := #[] },.int .i64 0,.int .i64 0,.int .i64 1,.int .i64 kp,.string ND,.slice none 0 0]),(w.heap.size,#[.int .i64 0,.string { data := #[] },.int .i64 0,.int .i64 0,.int .i64 0,.int .i64 0,.string { data := #[] },.slice none 0 0])] (.slice none 0 0) [] [Tn.mk 18 r4 0 0 0 kq [] none 0 []]) := (S5.out.call hgw5 Hw5).tree _ (leaf_ok _ (by unfold i64b; omega) hbw5 (by omega) Hkqb.out) (fun b hb => by simp [Tn.blocks,blocksL] at hb)
   have HLf4 : Hid ((Tn.mk 18 r4 0 0 0 kq [] none 0 []).plain = (gtyped ts true true (gnext ts (gmade ts 9 s))).1) := by show _ = _; rw [Tn.plain,plains,Hr4.out,Hkq.out]; rfl
   clear hgw5 Hw5 hlw5 hbw5 Q5
   clear ca00 ca01 ca02 ca03 ca04 ca05 ca06 ca07 cb00 cb01 cb02 cb03 cb04 cb05 cb06 cb07
   obtain ⟨⟨ca00,ca01,ca02,ca03,ca04,ca05,ca06,ca07⟩,cb00,cb01,cb02,cb03,cb04,cb05,cb06,cb07⟩ := eight_cells (S6.out.eight 0 w1.heap.size rfl)
   have hz_w5_0 : w1.heap.size < w5.heap.size := S6.out.ltAt 0 w1.heap.size rfl
   have hz_w5_1 : w.heap.size < w5.heap.size := S6.out.ltAt 1 w.heap.size rfl
   have S7 : Hid (Sx w g a len cap ts w.heap.size (.slice none 0 0) [] (w5.setCell ⟨w1.heap.size,7,none⟩ (.slice (some ⟨w5.heap.size,0,none⟩) 1 1)) ((gtyped ts true true (gnext ts (gmade ts 9 s))).2) [(w1.heap.size,#[.int .i64 9,.string { data := #[] },.int .i64 0,.int .i64 0,.int .i64 1,.int .i64 kp,.string ND,.slice (some ⟨w5.heap.size,0,none⟩) 1 1]),(w.heap.size,#[.int .i64 0,.string { data := #[] },.int .i64 0,.int .i64 0,.int .i64 0,.int .i64 0,.string { data := #[] },.slice none 0 0])] (.slice none 0 0) [] [Tn.mk 18 r4 0 0 0 kq [] none 0 []]) := S6.out.set 0 w1.heap.size _ rfl 7 _
   have S8 : Hid (Sx w g a len cap ts w.heap.size (.slice none 0 0) [] ((w5.setCell ⟨w1.heap.size,7,none⟩ (.slice (some ⟨w5.heap.size,0,none⟩) 1 1)).alloc (.cells #[.int .i64 18,.string X4,.int .i64 0,.int .i64 0,.int .i64 0,.int .i64 kq,.string D,.slice none 0 0] 28)) ((gtyped ts true true (gnext ts (gmade ts 9 s))).2) [(w5.heap.size,#[.int .i64 18,.string X4,.int .i64 0,.int .i64 0,.int .i64 0,.int .i64 kq,.string D,.slice none 0 0]),(w1.heap.size,#[.int .i64 9,.string { data := #[] },.int .i64 0,.int .i64 0,.int .i64 1,.int .i64 kp,.string ND,.slice (some ⟨w5.heap.size,0,none⟩) 1 1]),(w.heap.size,#[.int .i64 0,.string { data := #[] },.int .i64 0,.int .i64 0,.int .i64 0,.int .i64 0,.string { data := #[] },.slice none 0 0])] (.slice none 0 0) [] [Tn.mk 18 r4 0 0 0 kq [] none 0 []]) := S7.out.allocAt _ w5.heap.size (by simp only [set_size])
   have S9 : Hid (Sx w g a len cap ts w.heap.size (.slice none 0 0) [] ((w5.setCell ⟨w1.heap.size,7,none⟩ (.slice (some ⟨w5.heap.size,0,none⟩) 1 1)).alloc (.cells #[.int .i64 18,.string X4,.int .i64 0,.int .i64 0,.int .i64 0,.int .i64 kq,.string D,.slice none 0 0] 28)) ((gtyped ts true true (gnext ts (gmade ts 9 s))).2) [(w1.heap.size,#[.int .i64 9,.string { data := #[] },.int .i64 0,.int .i64 0,.int .i64 1,.int .i64 kp,.string ND,.slice (some ⟨w5.heap.size,0,none⟩) 1 1]),(w.heap.size,#[.int .i64 0,.string { data := #[] },.int .i64 0,.int .i64 0,.int .i64 0,.int .i64 0,.string { data := #[] },.slice none 0 0])] (.slice (some ⟨w5.heap.size,0,none⟩) 1 1) [Tn.mk 18 r4 0 0 0 kq [] none 0 []] []) := S8.out.kids1 (by rw [HX4.out,HDD.out]; rfl)
   have HO5 : Hid (((gtyped ts true true (gnext ts (gmade ts 9 s))).2).op + d = 31) := by show _ = _; have h1 := (mtyped HE.out true true (gnext ts (gmade ts 9 s))).op; have h2 := HOl.out; omega
   have Q9 : Hid _ := rgtail_any0 (show Hid (Gm ((w5.setCell ⟨w1.heap.size,7,none⟩ (.slice (some ⟨w5.heap.size,0,none⟩) 1 1)).alloc (.cells #[.int .i64 18,.string X4,.int .i64 0,.int .i64 0,.int .i64 0,.int .i64 kq,.string D,.slice none 0 0] 28)) g a len cap ts ((gtyped ts true true (gnext ts (gmade ts 9 s))).2)) from S9.out.gm) d HO5.out HW (base := w.heap.size) hg S9.out.fr.size (show Hid (Ns ((w5.setCell ⟨w1.heap.size,7,none⟩ (.slice (some ⟨w5.heap.size,0,none⟩) 1 1)).alloc (.cells #[.int .i64 18,.string X4,.int .i64 0,.int .i64 0,.int .i64 0,.int .i64 kq,.string D,.slice none 0 0] 28)) w.heap.size (.slice (some ⟨w5.heap.size,0,none⟩) 1 1) [Tn.mk 18 r4 0 0 0 kq [] none 0 []]) from S9.out.ns) (by simp) (nk := 9) (nn := 0) (nm := 0) (na := 1) (np := kp) (ntx := []) (ndc := (gnow ts s).doc) (by unfold i64b; omega) (by unfold i64b; omega) (by unfold i64b; omega) (by unfold i64b; omega) Hkpb.out ⟨fun c hc => by simp at hc,by simp⟩ HNDb.out
   rw [← HND.out,show strOfNums [] = { data := #[] } from rfl] at Q9
   go_wp2_with fail
   refine Calls.mono Q9.out ?_
   rintro e w6 hNw6
   obtain ⟨t,rfl,htp,hw6⟩ := S9.out.got2 hNw6
   obtain ⟨k2,tx2,n2,m2,a2,p2,dc2,ad2,cap2,ks2⟩ := t
   have S10 : Hid (Sx w g a len cap ts w.heap.size (.slice none 0 0) [] w6 ((gtail ts d ((gtyped ts true true (gnext ts (gmade ts 9 s))).2)).2) [(w1.heap.size,#[.int .i64 9,.string { data := #[] },.int .i64 0,.int .i64 0,.int .i64 1,.int .i64 kp,.string ND,.slice (some ⟨w5.heap.size,0,none⟩) 1 1]),(w.heap.size,#[.int .i64 0,.string { data := #[] },.int .i64 0,.int .i64 0,.int .i64 0,.int .i64 0,.string { data := #[] },.slice none 0 0])] (.slice none 0 0) [] [Tn.mk k2 tx2 n2 m2 a2 p2 dc2 ad2 cap2 ks2]) := hw6
   have HTP2 : Hid ((Tn.mk k2 tx2 n2 m2 a2 p2 dc2 ad2 cap2 ks2).plain = Pn.mk 9 (gtail ts d ((gtyped ts true true (gnext ts (gmade ts 9 s))).2)).1.1 (gtail ts d ((gtyped ts true true (gnext ts (gmade ts 9 s))).2)).1.2.1 0 (1) kp (gnow ts s).doc (plains [Tn.mk 18 r4 0 0 0 kq [] none 0 []] ++ (gtail ts d ((gtyped ts true true (gnext ts (gmade ts 9 s))).2)).1.2.2)) := htp
   clear hNw6 hw6 htp Q9
   simp only [Tn.val,Tn.cells]
   obtain ⟨X2,hX2⟩ : ∃ X2,X2 = strOfNums tx2 := ⟨_,rfl⟩
   rw [← hX2]
   have HX2 : Hid (X2 = strOfNums tx2) := hX2
   clear hX2
   obtain ⟨D2,hD2⟩ : ∃ D2,D2 = strOfNums dc2 := ⟨_,rfl⟩
   rw [← hD2]
   have HD2 : Hid (D2 = strOfNums dc2) := hD2
   clear hD2
   obtain ⟨⟨ca10,ca11,ca12,ca13,ca14,ca15,ca16,ca17⟩,cb10,cb11,cb12,cb13,cb14,cb15,cb16,cb17⟩ := eight_cells (S10.out.eight 1 w.heap.size rfl)
   have hz_w6_0 : w1.heap.size < w6.heap.size := S10.out.ltAt 0 w1.heap.size rfl
   have hz_w6_1 : w.heap.size < w6.heap.size := S10.out.ltAt 1 w.heap.size rfl
   go_wp2
   rw [gfield_eq ts d _ s,show glabel ts true (gmade ts 9 s) = (1,gnext ts (gmade ts 9 s)) from HLab.out]
   refine S10.out.fin rfl 1 w.heap.size (.int .i64 0) (.string { data := #[] }) (.int .i64 0) (.int .i64 0) (.int .i64 0) (.int .i64 0) (.string { data := #[] }) (.slice none 0 0) (.int .i64 k2) (.string X2) (.int .i64 n2) (.int .i64 m2) (.int .i64 a2) (.int .i64 p2) (.string D2) (.slice ad2 ks2.length cap2) rfl rfl rfl ?_ ?_
   ·rw [Tn.cells,HX2.out,HD2.out]
   ·exact by rw [HTP2.out,plains,plains,HLf4.out,Hkp.out]; rfl
  | false =>
   rw [hd0,gword_off _ _ _ hd0] at Q3
   go_wp2_with fail
   refine Calls.mono Q3.out ?_
   rintro e wl0 ⟨rfl,hgwl0,Hwl0⟩
   have S4 : Hid (Sx w g a len cap ts w.heap.size (.slice none 0 0) [] wl0 (gmade ts 9 s) [(w1.heap.size,#[.int .i64 9,.string { data := #[] },.int .i64 0,.int .i64 0,.int .i64 0,.int .i64 kp,.string ND,.slice none 0 0]),(w.heap.size,#[.int .i64 0,.string { data := #[] },.int .i64 0,.int .i64 0,.int .i64 0,.int .i64 0,.string { data := #[] },.slice none 0 0])] (.slice none 0 0) [] []) := S3.out.call hgwl0 Hwl0
   clear hgwl0 Hwl0 Q3
   obtain ⟨⟨ca00,ca01,ca02,ca03,ca04,ca05,ca06,ca07⟩,cb00,cb01,cb02,cb03,cb04,cb05,cb06,cb07⟩ := eight_cells (S4.out.eight 0 w1.heap.size rfl)
   have hz_wl0_0 : w1.heap.size < wl0.heap.size := S4.out.ltAt 0 w1.heap.size rfl
   have hz_wl0_1 : w.heap.size < wl0.heap.size := S4.out.ltAt 1 w.heap.size rfl
   have Q4 : Hid _ := rgword_any (show Hid (Gm wl0 g a len cap ts (gmade ts 9 s)) from S4.out.gm) [114,101,113,117,105,114,101,100] (show byts _ by unfold byts; decide)
   cases hd1 : gisw ts [114,101,113,117,105,114,101,100] (gmade ts 9 s) with
   | true =>
    rw [hd1,gword_on _ _ _ hd1] at Q4
    go_wp2_with fail
    refine Calls.mono Q4.out ?_
    rintro e wl1 ⟨rfl,hgwl1,Hwl1⟩
    have S5 : Hid (Sx w g a len cap ts w.heap.size (.slice none 0 0) [] wl1 (gnext ts (gmade ts 9 s)) [(w1.heap.size,#[.int .i64 9,.string { data := #[] },.int .i64 0,.int .i64 0,.int .i64 0,.int .i64 kp,.string ND,.slice none 0 0]),(w.heap.size,#[.int .i64 0,.string { data := #[] },.int .i64 0,.int .i64 0,.int .i64 0,.int .i64 0,.string { data := #[] },.slice none 0 0])] (.slice none 0 0) [] []) := S4.out.call hgwl1 Hwl1
    clear hgwl1 Hwl1 Q4
    clear ca00 ca01 ca02 ca03 ca04 ca05 ca06 ca07 cb00 cb01 cb02 cb03 cb04 cb05 cb06 cb07
    obtain ⟨⟨ca00,ca01,ca02,ca03,ca04,ca05,ca06,ca07⟩,cb00,cb01,cb02,cb03,cb04,cb05,cb06,cb07⟩ := eight_cells (S5.out.eight 0 w1.heap.size rfl)
    have hz_wl1_0 : w1.heap.size < wl1.heap.size := S5.out.ltAt 0 w1.heap.size rfl
    have hz_wl1_1 : w.heap.size < wl1.heap.size := S5.out.ltAt 1 w.heap.size rfl
    have S6 : Hid (Sx w g a len cap ts w.heap.size (.slice none 0 0) [] (wl1.setCell ⟨w1.heap.size,4,none⟩ (.int .i64 2)) (gnext ts (gmade ts 9 s)) [(w1.heap.size,#[.int .i64 9,.string { data := #[] },.int .i64 0,.int .i64 0,.int .i64 2,.int .i64 kp,.string ND,.slice none 0 0]),(w.heap.size,#[.int .i64 0,.string { data := #[] },.int .i64 0,.int .i64 0,.int .i64 0,.int .i64 0,.string { data := #[] },.slice none 0 0])] (.slice none 0 0) [] []) := S5.out.set 0 w1.heap.size _ rfl 4 _
    have HLab : Hid (glabel ts true (gmade ts 9 s) = (2,gnext ts (gmade ts 9 s))) := by show _ = _; unfold glabel; rw [if_pos rfl,if_neg (by rw [hd0]; decide),if_pos hd1]
    have HOl : Hid ((gnext ts (gmade ts 9 s)).op + d = 31) := by show _ = _; have h1 := (mmade ts 9 s).op; have h2 := (mnext0 ts (gmade ts 9 s)).op; omega
    have Q6 : Hid _ := rgtyped_any (show Hid (Gm (wl1.setCell ⟨w1.heap.size,4,none⟩ (.int .i64 2)) g a len cap ts (gnext ts (gmade ts 9 s))) from S6.out.gm) true true
    have Hkqb : Hid (i64b (gnow ts (gnext ts (gmade ts 9 s))).pos) := S6.out.gm.now_ok.2.2.2.1
    obtain ⟨r4,hr4⟩ : ∃ r4,r4 = (gfull ts true (gmade ts 18 (gnext ts (gmade ts 9 s)))).1 := ⟨_,rfl⟩
    rw [← hr4] at Q6
    have Hr4 : Hid (r4 = (gfull ts true (gmade ts 18 (gnext ts (gmade ts 9 s)))).1) := hr4
    obtain ⟨kq,hkq⟩ : ∃ kq,kq = (gnow ts (gnext ts (gmade ts 9 s))).pos := ⟨_,rfl⟩
    rw [← hkq] at Q6 Hkqb
    have Hkq : Hid (kq = (gnow ts (gnext ts (gmade ts 9 s))).pos) := hkq
    obtain ⟨X4,hX4⟩ : ∃ X4,X4 = strOfNums r4 := ⟨_,rfl⟩
    rw [← hX4] at Q6
    have HX4 : Hid (X4 = strOfNums r4) := hX4
    clear hX4
    rw [← HDD.out] at Q6
    clear hkq hr4
    go_wp2_with fail
    refine Calls.mono Q6.out ?_
    rintro e w5 ⟨rfl,hgw5,Hw5,hlw5,hbw5⟩
    have S7 : Hid (Sx w g a len cap ts w.heap.size (.slice none 0 0) [] w5 ((gtyped ts true true (gnext ts (gmade ts 9 s))).2) [(w1.heap.size,#[.int .i64 9,.string { data := #[] },.int .i64 0,.int .i64 0,.int .i64 2,.int .i64 kp,.string ND,.slice none 0 0]),(w.heap.size,#[.int .i64 0,.string { data := #[] },.int .i64 0,.int .i64 0,.int .i64 0,.int .i64 0,.string { data := #[] },.slice none 0 0])] (.slice none 0 0) [] [Tn.mk 18 r4 0 0 0 kq [] none 0 []]) := (S6.out.call hgw5 Hw5).tree _ (leaf_ok _ (by unfold i64b; omega) hbw5 (by omega) Hkqb.out) (fun b hb => by simp [Tn.blocks,blocksL] at hb)
    have HLf4 : Hid ((Tn.mk 18 r4 0 0 0 kq [] none 0 []).plain = (gtyped ts true true (gnext ts (gmade ts 9 s))).1) := by show _ = _; rw [Tn.plain,plains,Hr4.out,Hkq.out]; rfl
    clear hgw5 Hw5 hlw5 hbw5 Q6
    clear ca00 ca01 ca02 ca03 ca04 ca05 ca06 ca07 cb00 cb01 cb02 cb03 cb04 cb05 cb06 cb07
    obtain ⟨⟨ca00,ca01,ca02,ca03,ca04,ca05,ca06,ca07⟩,cb00,cb01,cb02,cb03,cb04,cb05,cb06,cb07⟩ := eight_cells (S7.out.eight 0 w1.heap.size rfl)
    have hz_w5_0 : w1.heap.size < w5.heap.size := S7.out.ltAt 0 w1.heap.size rfl
    have hz_w5_1 : w.heap.size < w5.heap.size := S7.out.ltAt 1 w.heap.size rfl
    have S8 : Hid (Sx w g a len cap ts w.heap.size (.slice none 0 0) [] (w5.setCell ⟨w1.heap.size,7,none⟩ (.slice (some ⟨w5.heap.size,0,none⟩) 1 1)) ((gtyped ts true true (gnext ts (gmade ts 9 s))).2) [(w1.heap.size,#[.int .i64 9,.string { data := #[] },.int .i64 0,.int .i64 0,.int .i64 2,.int .i64 kp,.string ND,.slice (some ⟨w5.heap.size,0,none⟩) 1 1]),(w.heap.size,#[.int .i64 0,.string { data := #[] },.int .i64 0,.int .i64 0,.int .i64 0,.int .i64 0,.string { data := #[] },.slice none 0 0])] (.slice none 0 0) [] [Tn.mk 18 r4 0 0 0 kq [] none 0 []]) := S7.out.set 0 w1.heap.size _ rfl 7 _
    have S9 : Hid (Sx w g a len cap ts w.heap.size (.slice none 0 0) [] ((w5.setCell ⟨w1.heap.size,7,none⟩ (.slice (some ⟨w5.heap.size,0,none⟩) 1 1)).alloc (.cells #[.int .i64 18,.string X4,.int .i64 0,.int .i64 0,.int .i64 0,.int .i64 kq,.string D,.slice none 0 0] 28)) ((gtyped ts true true (gnext ts (gmade ts 9 s))).2) [(w5.heap.size,#[.int .i64 18,.string X4,.int .i64 0,.int .i64 0,.int .i64 0,.int .i64 kq,.string D,.slice none 0 0]),(w1.heap.size,#[.int .i64 9,.string { data := #[] },.int .i64 0,.int .i64 0,.int .i64 2,.int .i64 kp,.string ND,.slice (some ⟨w5.heap.size,0,none⟩) 1 1]),(w.heap.size,#[.int .i64 0,.string { data := #[] },.int .i64 0,.int .i64 0,.int .i64 0,.int .i64 0,.string { data := #[] },.slice none 0 0])] (.slice none 0 0) [] [Tn.mk 18 r4 0 0 0 kq [] none 0 []]) := S8.out.allocAt _ w5.heap.size (by simp only [set_size])
    have S10 : Hid (Sx w g a len cap ts w.heap.size (.slice none 0 0) [] ((w5.setCell ⟨w1.heap.size,7,none⟩ (.slice (some ⟨w5.heap.size,0,none⟩) 1 1)).alloc (.cells #[.int .i64 18,.string X4,.int .i64 0,.int .i64 0,.int .i64 0,.int .i64 kq,.string D,.slice none 0 0] 28)) ((gtyped ts true true (gnext ts (gmade ts 9 s))).2) [(w1.heap.size,#[.int .i64 9,.string { data := #[] },.int .i64 0,.int .i64 0,.int .i64 2,.int .i64 kp,.string ND,.slice (some ⟨w5.heap.size,0,none⟩) 1 1]),(w.heap.size,#[.int .i64 0,.string { data := #[] },.int .i64 0,.int .i64 0,.int .i64 0,.int .i64 0,.string { data := #[] },.slice none 0 0])] (.slice (some ⟨w5.heap.size,0,none⟩) 1 1) [Tn.mk 18 r4 0 0 0 kq [] none 0 []] []) := S9.out.kids1 (by rw [HX4.out,HDD.out]; rfl)
    have HO5 : Hid (((gtyped ts true true (gnext ts (gmade ts 9 s))).2).op + d = 31) := by show _ = _; have h1 := (mtyped HE.out true true (gnext ts (gmade ts 9 s))).op; have h2 := HOl.out; omega
    have Q10 : Hid _ := rgtail_any0 (show Hid (Gm ((w5.setCell ⟨w1.heap.size,7,none⟩ (.slice (some ⟨w5.heap.size,0,none⟩) 1 1)).alloc (.cells #[.int .i64 18,.string X4,.int .i64 0,.int .i64 0,.int .i64 0,.int .i64 kq,.string D,.slice none 0 0] 28)) g a len cap ts ((gtyped ts true true (gnext ts (gmade ts 9 s))).2)) from S10.out.gm) d HO5.out HW (base := w.heap.size) hg S10.out.fr.size (show Hid (Ns ((w5.setCell ⟨w1.heap.size,7,none⟩ (.slice (some ⟨w5.heap.size,0,none⟩) 1 1)).alloc (.cells #[.int .i64 18,.string X4,.int .i64 0,.int .i64 0,.int .i64 0,.int .i64 kq,.string D,.slice none 0 0] 28)) w.heap.size (.slice (some ⟨w5.heap.size,0,none⟩) 1 1) [Tn.mk 18 r4 0 0 0 kq [] none 0 []]) from S10.out.ns) (by simp) (nk := 9) (nn := 0) (nm := 0) (na := 2) (np := kp) (ntx := []) (ndc := (gnow ts s).doc) (by unfold i64b; omega) (by unfold i64b; omega) (by unfold i64b; omega) (by unfold i64b; omega) Hkpb.out ⟨fun c hc => by simp at hc,by simp⟩ HNDb.out
    rw [← HND.out,show strOfNums [] = { data := #[] } from rfl] at Q10
    go_wp2_with fail
    refine Calls.mono Q10.out ?_
    rintro e w6 hNw6
    obtain ⟨t,rfl,htp,hw6⟩ := S10.out.got2 hNw6
    obtain ⟨k2,tx2,n2,m2,a2,p2,dc2,ad2,cap2,ks2⟩ := t
    have S11 : Hid (Sx w g a len cap ts w.heap.size (.slice none 0 0) [] w6 ((gtail ts d ((gtyped ts true true (gnext ts (gmade ts 9 s))).2)).2) [(w1.heap.size,#[.int .i64 9,.string { data := #[] },.int .i64 0,.int .i64 0,.int .i64 2,.int .i64 kp,.string ND,.slice (some ⟨w5.heap.size,0,none⟩) 1 1]),(w.heap.size,#[.int .i64 0,.string { data := #[] },.int .i64 0,.int .i64 0,.int .i64 0,.int .i64 0,.string { data := #[] },.slice none 0 0])] (.slice none 0 0) [] [Tn.mk k2 tx2 n2 m2 a2 p2 dc2 ad2 cap2 ks2]) := hw6
    have HTP2 : Hid ((Tn.mk k2 tx2 n2 m2 a2 p2 dc2 ad2 cap2 ks2).plain = Pn.mk 9 (gtail ts d ((gtyped ts true true (gnext ts (gmade ts 9 s))).2)).1.1 (gtail ts d ((gtyped ts true true (gnext ts (gmade ts 9 s))).2)).1.2.1 0 (2) kp (gnow ts s).doc (plains [Tn.mk 18 r4 0 0 0 kq [] none 0 []] ++ (gtail ts d ((gtyped ts true true (gnext ts (gmade ts 9 s))).2)).1.2.2)) := htp
    clear hNw6 hw6 htp Q10
    simp only [Tn.val,Tn.cells]
    obtain ⟨X2,hX2⟩ : ∃ X2,X2 = strOfNums tx2 := ⟨_,rfl⟩
    rw [← hX2]
    have HX2 : Hid (X2 = strOfNums tx2) := hX2
    clear hX2
    obtain ⟨D2,hD2⟩ : ∃ D2,D2 = strOfNums dc2 := ⟨_,rfl⟩
    rw [← hD2]
    have HD2 : Hid (D2 = strOfNums dc2) := hD2
    clear hD2
    obtain ⟨⟨ca10,ca11,ca12,ca13,ca14,ca15,ca16,ca17⟩,cb10,cb11,cb12,cb13,cb14,cb15,cb16,cb17⟩ := eight_cells (S11.out.eight 1 w.heap.size rfl)
    have hz_w6_0 : w1.heap.size < w6.heap.size := S11.out.ltAt 0 w1.heap.size rfl
    have hz_w6_1 : w.heap.size < w6.heap.size := S11.out.ltAt 1 w.heap.size rfl
    go_wp2
    rw [gfield_eq ts d _ s,show glabel ts true (gmade ts 9 s) = (2,gnext ts (gmade ts 9 s)) from HLab.out]
    refine S11.out.fin rfl 1 w.heap.size (.int .i64 0) (.string { data := #[] }) (.int .i64 0) (.int .i64 0) (.int .i64 0) (.int .i64 0) (.string { data := #[] }) (.slice none 0 0) (.int .i64 k2) (.string X2) (.int .i64 n2) (.int .i64 m2) (.int .i64 a2) (.int .i64 p2) (.string D2) (.slice ad2 ks2.length cap2) rfl rfl rfl ?_ ?_
    ·rw [Tn.cells,HX2.out,HD2.out]
    ·exact by rw [HTP2.out,plains,plains,HLf4.out,Hkp.out]; rfl
   | false =>
    rw [hd1,gword_off _ _ _ hd1] at Q4
    go_wp2_with fail
    refine Calls.mono Q4.out ?_
    rintro e wl1 ⟨rfl,hgwl1,Hwl1⟩
    have S5 : Hid (Sx w g a len cap ts w.heap.size (.slice none 0 0) [] wl1 (gmade ts 9 s) [(w1.heap.size,#[.int .i64 9,.string { data := #[] },.int .i64 0,.int .i64 0,.int .i64 0,.int .i64 kp,.string ND,.slice none 0 0]),(w.heap.size,#[.int .i64 0,.string { data := #[] },.int .i64 0,.int .i64 0,.int .i64 0,.int .i64 0,.string { data := #[] },.slice none 0 0])] (.slice none 0 0) [] []) := S4.out.call hgwl1 Hwl1
    clear hgwl1 Hwl1 Q4
    clear ca00 ca01 ca02 ca03 ca04 ca05 ca06 ca07 cb00 cb01 cb02 cb03 cb04 cb05 cb06 cb07
    obtain ⟨⟨ca00,ca01,ca02,ca03,ca04,ca05,ca06,ca07⟩,cb00,cb01,cb02,cb03,cb04,cb05,cb06,cb07⟩ := eight_cells (S5.out.eight 0 w1.heap.size rfl)
    have hz_wl1_0 : w1.heap.size < wl1.heap.size := S5.out.ltAt 0 w1.heap.size rfl
    have hz_wl1_1 : w.heap.size < wl1.heap.size := S5.out.ltAt 1 w.heap.size rfl
    have Q5 : Hid _ := rgword_any (show Hid (Gm wl1 g a len cap ts (gmade ts 9 s)) from S5.out.gm) [114,101,112,101,97,116,101,100] (show byts _ by unfold byts; decide)
    cases hd2 : gisw ts [114,101,112,101,97,116,101,100] (gmade ts 9 s) with
    | true =>
     rw [hd2,gword_on _ _ _ hd2] at Q5
     go_wp2_with fail
     refine Calls.mono Q5.out ?_
     rintro e wl2 ⟨rfl,hgwl2,Hwl2⟩
     have S6 : Hid (Sx w g a len cap ts w.heap.size (.slice none 0 0) [] wl2 (gnext ts (gmade ts 9 s)) [(w1.heap.size,#[.int .i64 9,.string { data := #[] },.int .i64 0,.int .i64 0,.int .i64 0,.int .i64 kp,.string ND,.slice none 0 0]),(w.heap.size,#[.int .i64 0,.string { data := #[] },.int .i64 0,.int .i64 0,.int .i64 0,.int .i64 0,.string { data := #[] },.slice none 0 0])] (.slice none 0 0) [] []) := S5.out.call hgwl2 Hwl2
     clear hgwl2 Hwl2 Q5
     clear ca00 ca01 ca02 ca03 ca04 ca05 ca06 ca07 cb00 cb01 cb02 cb03 cb04 cb05 cb06 cb07
     obtain ⟨⟨ca00,ca01,ca02,ca03,ca04,ca05,ca06,ca07⟩,cb00,cb01,cb02,cb03,cb04,cb05,cb06,cb07⟩ := eight_cells (S6.out.eight 0 w1.heap.size rfl)
     have hz_wl2_0 : w1.heap.size < wl2.heap.size := S6.out.ltAt 0 w1.heap.size rfl
     have hz_wl2_1 : w.heap.size < wl2.heap.size := S6.out.ltAt 1 w.heap.size rfl
     have S7 : Hid (Sx w g a len cap ts w.heap.size (.slice none 0 0) [] (wl2.setCell ⟨w1.heap.size,4,none⟩ (.int .i64 3)) (gnext ts (gmade ts 9 s)) [(w1.heap.size,#[.int .i64 9,.string { data := #[] },.int .i64 0,.int .i64 0,.int .i64 3,.int .i64 kp,.string ND,.slice none 0 0]),(w.heap.size,#[.int .i64 0,.string { data := #[] },.int .i64 0,.int .i64 0,.int .i64 0,.int .i64 0,.string { data := #[] },.slice none 0 0])] (.slice none 0 0) [] []) := S6.out.set 0 w1.heap.size _ rfl 4 _
     have HLab : Hid (glabel ts true (gmade ts 9 s) = (3,gnext ts (gmade ts 9 s))) := by show _ = _; unfold glabel; rw [if_pos rfl,if_neg (by rw [hd0]; decide),if_neg (by rw [hd1]; decide),if_pos hd2]
     have HOl : Hid ((gnext ts (gmade ts 9 s)).op + d = 31) := by show _ = _; have h1 := (mmade ts 9 s).op; have h2 := (mnext0 ts (gmade ts 9 s)).op; omega
     have Q7 : Hid _ := rgtyped_any (show Hid (Gm (wl2.setCell ⟨w1.heap.size,4,none⟩ (.int .i64 3)) g a len cap ts (gnext ts (gmade ts 9 s))) from S7.out.gm) true true
     have Hkqb : Hid (i64b (gnow ts (gnext ts (gmade ts 9 s))).pos) := S7.out.gm.now_ok.2.2.2.1
     obtain ⟨r4,hr4⟩ : ∃ r4,r4 = (gfull ts true (gmade ts 18 (gnext ts (gmade ts 9 s)))).1 := ⟨_,rfl⟩
     rw [← hr4] at Q7
     have Hr4 : Hid (r4 = (gfull ts true (gmade ts 18 (gnext ts (gmade ts 9 s)))).1) := hr4
     obtain ⟨kq,hkq⟩ : ∃ kq,kq = (gnow ts (gnext ts (gmade ts 9 s))).pos := ⟨_,rfl⟩
     rw [← hkq] at Q7 Hkqb
     have Hkq : Hid (kq = (gnow ts (gnext ts (gmade ts 9 s))).pos) := hkq
     obtain ⟨X4,hX4⟩ : ∃ X4,X4 = strOfNums r4 := ⟨_,rfl⟩
     rw [← hX4] at Q7
     have HX4 : Hid (X4 = strOfNums r4) := hX4
     clear hX4
     rw [← HDD.out] at Q7
     clear hkq hr4
     go_wp2_with fail
     refine Calls.mono Q7.out ?_
     rintro e w5 ⟨rfl,hgw5,Hw5,hlw5,hbw5⟩
     have S8 : Hid (Sx w g a len cap ts w.heap.size (.slice none 0 0) [] w5 ((gtyped ts true true (gnext ts (gmade ts 9 s))).2) [(w1.heap.size,#[.int .i64 9,.string { data := #[] },.int .i64 0,.int .i64 0,.int .i64 3,.int .i64 kp,.string ND,.slice none 0 0]),(w.heap.size,#[.int .i64 0,.string { data := #[] },.int .i64 0,.int .i64 0,.int .i64 0,.int .i64 0,.string { data := #[] },.slice none 0 0])] (.slice none 0 0) [] [Tn.mk 18 r4 0 0 0 kq [] none 0 []]) := (S7.out.call hgw5 Hw5).tree _ (leaf_ok _ (by unfold i64b; omega) hbw5 (by omega) Hkqb.out) (fun b hb => by simp [Tn.blocks,blocksL] at hb)
     have HLf4 : Hid ((Tn.mk 18 r4 0 0 0 kq [] none 0 []).plain = (gtyped ts true true (gnext ts (gmade ts 9 s))).1) := by show _ = _; rw [Tn.plain,plains,Hr4.out,Hkq.out]; rfl
     clear hgw5 Hw5 hlw5 hbw5 Q7
     clear ca00 ca01 ca02 ca03 ca04 ca05 ca06 ca07 cb00 cb01 cb02 cb03 cb04 cb05 cb06 cb07
     obtain ⟨⟨ca00,ca01,ca02,ca03,ca04,ca05,ca06,ca07⟩,cb00,cb01,cb02,cb03,cb04,cb05,cb06,cb07⟩ := eight_cells (S8.out.eight 0 w1.heap.size rfl)
     have hz_w5_0 : w1.heap.size < w5.heap.size := S8.out.ltAt 0 w1.heap.size rfl
     have hz_w5_1 : w.heap.size < w5.heap.size := S8.out.ltAt 1 w.heap.size rfl
     have S9 : Hid (Sx w g a len cap ts w.heap.size (.slice none 0 0) [] (w5.setCell ⟨w1.heap.size,7,none⟩ (.slice (some ⟨w5.heap.size,0,none⟩) 1 1)) ((gtyped ts true true (gnext ts (gmade ts 9 s))).2) [(w1.heap.size,#[.int .i64 9,.string { data := #[] },.int .i64 0,.int .i64 0,.int .i64 3,.int .i64 kp,.string ND,.slice (some ⟨w5.heap.size,0,none⟩) 1 1]),(w.heap.size,#[.int .i64 0,.string { data := #[] },.int .i64 0,.int .i64 0,.int .i64 0,.int .i64 0,.string { data := #[] },.slice none 0 0])] (.slice none 0 0) [] [Tn.mk 18 r4 0 0 0 kq [] none 0 []]) := S8.out.set 0 w1.heap.size _ rfl 7 _
     have S10 : Hid (Sx w g a len cap ts w.heap.size (.slice none 0 0) [] ((w5.setCell ⟨w1.heap.size,7,none⟩ (.slice (some ⟨w5.heap.size,0,none⟩) 1 1)).alloc (.cells #[.int .i64 18,.string X4,.int .i64 0,.int .i64 0,.int .i64 0,.int .i64 kq,.string D,.slice none 0 0] 28)) ((gtyped ts true true (gnext ts (gmade ts 9 s))).2) [(w5.heap.size,#[.int .i64 18,.string X4,.int .i64 0,.int .i64 0,.int .i64 0,.int .i64 kq,.string D,.slice none 0 0]),(w1.heap.size,#[.int .i64 9,.string { data := #[] },.int .i64 0,.int .i64 0,.int .i64 3,.int .i64 kp,.string ND,.slice (some ⟨w5.heap.size,0,none⟩) 1 1]),(w.heap.size,#[.int .i64 0,.string { data := #[] },.int .i64 0,.int .i64 0,.int .i64 0,.int .i64 0,.string { data := #[] },.slice none 0 0])] (.slice none 0 0) [] [Tn.mk 18 r4 0 0 0 kq [] none 0 []]) := S9.out.allocAt _ w5.heap.size (by simp only [set_size])
     have S11 : Hid (Sx w g a len cap ts w.heap.size (.slice none 0 0) [] ((w5.setCell ⟨w1.heap.size,7,none⟩ (.slice (some ⟨w5.heap.size,0,none⟩) 1 1)).alloc (.cells #[.int .i64 18,.string X4,.int .i64 0,.int .i64 0,.int .i64 0,.int .i64 kq,.string D,.slice none 0 0] 28)) ((gtyped ts true true (gnext ts (gmade ts 9 s))).2) [(w1.heap.size,#[.int .i64 9,.string { data := #[] },.int .i64 0,.int .i64 0,.int .i64 3,.int .i64 kp,.string ND,.slice (some ⟨w5.heap.size,0,none⟩) 1 1]),(w.heap.size,#[.int .i64 0,.string { data := #[] },.int .i64 0,.int .i64 0,.int .i64 0,.int .i64 0,.string { data := #[] },.slice none 0 0])] (.slice (some ⟨w5.heap.size,0,none⟩) 1 1) [Tn.mk 18 r4 0 0 0 kq [] none 0 []] []) := S10.out.kids1 (by rw [HX4.out,HDD.out]; rfl)
     have HO5 : Hid (((gtyped ts true true (gnext ts (gmade ts 9 s))).2).op + d = 31) := by show _ = _; have h1 := (mtyped HE.out true true (gnext ts (gmade ts 9 s))).op; have h2 := HOl.out; omega
     have Q11 : Hid _ := rgtail_any0 (show Hid (Gm ((w5.setCell ⟨w1.heap.size,7,none⟩ (.slice (some ⟨w5.heap.size,0,none⟩) 1 1)).alloc (.cells #[.int .i64 18,.string X4,.int .i64 0,.int .i64 0,.int .i64 0,.int .i64 kq,.string D,.slice none 0 0] 28)) g a len cap ts ((gtyped ts true true (gnext ts (gmade ts 9 s))).2)) from S11.out.gm) d HO5.out HW (base := w.heap.size) hg S11.out.fr.size (show Hid (Ns ((w5.setCell ⟨w1.heap.size,7,none⟩ (.slice (some ⟨w5.heap.size,0,none⟩) 1 1)).alloc (.cells #[.int .i64 18,.string X4,.int .i64 0,.int .i64 0,.int .i64 0,.int .i64 kq,.string D,.slice none 0 0] 28)) w.heap.size (.slice (some ⟨w5.heap.size,0,none⟩) 1 1) [Tn.mk 18 r4 0 0 0 kq [] none 0 []]) from S11.out.ns) (by simp) (nk := 9) (nn := 0) (nm := 0) (na := 3) (np := kp) (ntx := []) (ndc := (gnow ts s).doc) (by unfold i64b; omega) (by unfold i64b; omega) (by unfold i64b; omega) (by unfold i64b; omega) Hkpb.out ⟨fun c hc => by simp at hc,by simp⟩ HNDb.out
     rw [← HND.out,show strOfNums [] = { data := #[] } from rfl] at Q11
     go_wp2_with fail
     refine Calls.mono Q11.out ?_
     rintro e w6 hNw6
     obtain ⟨t,rfl,htp,hw6⟩ := S11.out.got2 hNw6
     obtain ⟨k2,tx2,n2,m2,a2,p2,dc2,ad2,cap2,ks2⟩ := t
     have S12 : Hid (Sx w g a len cap ts w.heap.size (.slice none 0 0) [] w6 ((gtail ts d ((gtyped ts true true (gnext ts (gmade ts 9 s))).2)).2) [(w1.heap.size,#[.int .i64 9,.string { data := #[] },.int .i64 0,.int .i64 0,.int .i64 3,.int .i64 kp,.string ND,.slice (some ⟨w5.heap.size,0,none⟩) 1 1]),(w.heap.size,#[.int .i64 0,.string { data := #[] },.int .i64 0,.int .i64 0,.int .i64 0,.int .i64 0,.string { data := #[] },.slice none 0 0])] (.slice none 0 0) [] [Tn.mk k2 tx2 n2 m2 a2 p2 dc2 ad2 cap2 ks2]) := hw6
     have HTP2 : Hid ((Tn.mk k2 tx2 n2 m2 a2 p2 dc2 ad2 cap2 ks2).plain = Pn.mk 9 (gtail ts d ((gtyped ts true true (gnext ts (gmade ts 9 s))).2)).1.1 (gtail ts d ((gtyped ts true true (gnext ts (gmade ts 9 s))).2)).1.2.1 0 (3) kp (gnow ts s).doc (plains [Tn.mk 18 r4 0 0 0 kq [] none 0 []] ++ (gtail ts d ((gtyped ts true true (gnext ts (gmade ts 9 s))).2)).1.2.2)) := htp
     clear hNw6 hw6 htp Q11
     simp only [Tn.val,Tn.cells]
     obtain ⟨X2,hX2⟩ : ∃ X2,X2 = strOfNums tx2 := ⟨_,rfl⟩
     rw [← hX2]
     have HX2 : Hid (X2 = strOfNums tx2) := hX2
     clear hX2
     obtain ⟨D2,hD2⟩ : ∃ D2,D2 = strOfNums dc2 := ⟨_,rfl⟩
     rw [← hD2]
     have HD2 : Hid (D2 = strOfNums dc2) := hD2
     clear hD2
     obtain ⟨⟨ca10,ca11,ca12,ca13,ca14,ca15,ca16,ca17⟩,cb10,cb11,cb12,cb13,cb14,cb15,cb16,cb17⟩ := eight_cells (S12.out.eight 1 w.heap.size rfl)
     have hz_w6_0 : w1.heap.size < w6.heap.size := S12.out.ltAt 0 w1.heap.size rfl
     have hz_w6_1 : w.heap.size < w6.heap.size := S12.out.ltAt 1 w.heap.size rfl
     go_wp2
     rw [gfield_eq ts d _ s,show glabel ts true (gmade ts 9 s) = (3,gnext ts (gmade ts 9 s)) from HLab.out]
     refine S12.out.fin rfl 1 w.heap.size (.int .i64 0) (.string { data := #[] }) (.int .i64 0) (.int .i64 0) (.int .i64 0) (.int .i64 0) (.string { data := #[] }) (.slice none 0 0) (.int .i64 k2) (.string X2) (.int .i64 n2) (.int .i64 m2) (.int .i64 a2) (.int .i64 p2) (.string D2) (.slice ad2 ks2.length cap2) rfl rfl rfl ?_ ?_
     ·rw [Tn.cells,HX2.out,HD2.out]
     ·exact by rw [HTP2.out,plains,plains,HLf4.out,Hkp.out]; rfl
    | false =>
     rw [hd2,gword_off _ _ _ hd2] at Q5
     go_wp2_with fail
     refine Calls.mono Q5.out ?_
     rintro e wl2 ⟨rfl,hgwl2,Hwl2⟩
     have S6 : Hid (Sx w g a len cap ts w.heap.size (.slice none 0 0) [] wl2 (gmade ts 9 s) [(w1.heap.size,#[.int .i64 9,.string { data := #[] },.int .i64 0,.int .i64 0,.int .i64 0,.int .i64 kp,.string ND,.slice none 0 0]),(w.heap.size,#[.int .i64 0,.string { data := #[] },.int .i64 0,.int .i64 0,.int .i64 0,.int .i64 0,.string { data := #[] },.slice none 0 0])] (.slice none 0 0) [] []) := S5.out.call hgwl2 Hwl2
     clear hgwl2 Hwl2 Q5
     have hz_wl2_0 : w1.heap.size < wl2.heap.size := S6.out.ltAt 0 w1.heap.size rfl
     have hz_wl2_1 : w.heap.size < wl2.heap.size := S6.out.ltAt 1 w.heap.size rfl
     have HLab : Hid (glabel ts true (gmade ts 9 s) = (0,gmade ts 9 s)) := by show _ = _; unfold glabel; rw [if_pos rfl,if_neg (by rw [hd0]; decide),if_neg (by rw [hd1]; decide),if_neg (by rw [hd2]; decide)]
     have HOl : Hid ((gmade ts 9 s).op + d = 31) := by show _ = _; have h1 := (mmade ts 9 s).op; omega
     have Q6 : Hid _ := rgtyped_any (show Hid (Gm wl2 g a len cap ts (gmade ts 9 s)) from S6.out.gm) true true
     have Hkqb : Hid (i64b (gnow ts (gmade ts 9 s)).pos) := S6.out.gm.now_ok.2.2.2.1
     obtain ⟨r4,hr4⟩ : ∃ r4,r4 = (gfull ts true (gmade ts 18 (gmade ts 9 s))).1 := ⟨_,rfl⟩
     rw [← hr4] at Q6
     have Hr4 : Hid (r4 = (gfull ts true (gmade ts 18 (gmade ts 9 s))).1) := hr4
     obtain ⟨kq,hkq⟩ : ∃ kq,kq = (gnow ts (gmade ts 9 s)).pos := ⟨_,rfl⟩
     rw [← hkq] at Q6 Hkqb
     have Hkq : Hid (kq = (gnow ts (gmade ts 9 s)).pos) := hkq
     obtain ⟨X4,hX4⟩ : ∃ X4,X4 = strOfNums r4 := ⟨_,rfl⟩
     rw [← hX4] at Q6
     have HX4 : Hid (X4 = strOfNums r4) := hX4
     clear hX4
     rw [← HDD.out] at Q6
     clear hkq hr4
     go_wp2_with fail
     refine Calls.mono Q6.out ?_
     rintro e w5 ⟨rfl,hgw5,Hw5,hlw5,hbw5⟩
     have S7 : Hid (Sx w g a len cap ts w.heap.size (.slice none 0 0) [] w5 ((gtyped ts true true (gmade ts 9 s)).2) [(w1.heap.size,#[.int .i64 9,.string { data := #[] },.int .i64 0,.int .i64 0,.int .i64 0,.int .i64 kp,.string ND,.slice none 0 0]),(w.heap.size,#[.int .i64 0,.string { data := #[] },.int .i64 0,.int .i64 0,.int .i64 0,.int .i64 0,.string { data := #[] },.slice none 0 0])] (.slice none 0 0) [] [Tn.mk 18 r4 0 0 0 kq [] none 0 []]) := (S6.out.call hgw5 Hw5).tree _ (leaf_ok _ (by unfold i64b; omega) hbw5 (by omega) Hkqb.out) (fun b hb => by simp [Tn.blocks,blocksL] at hb)
     have HLf4 : Hid ((Tn.mk 18 r4 0 0 0 kq [] none 0 []).plain = (gtyped ts true true (gmade ts 9 s)).1) := by show _ = _; rw [Tn.plain,plains,Hr4.out,Hkq.out]; rfl
     clear hgw5 Hw5 hlw5 hbw5 Q6
     clear ca00 ca01 ca02 ca03 ca04 ca05 ca06 ca07 cb00 cb01 cb02 cb03 cb04 cb05 cb06 cb07
     obtain ⟨⟨ca00,ca01,ca02,ca03,ca04,ca05,ca06,ca07⟩,cb00,cb01,cb02,cb03,cb04,cb05,cb06,cb07⟩ := eight_cells (S7.out.eight 0 w1.heap.size rfl)
     have hz_w5_0 : w1.heap.size < w5.heap.size := S7.out.ltAt 0 w1.heap.size rfl
     have hz_w5_1 : w.heap.size < w5.heap.size := S7.out.ltAt 1 w.heap.size rfl
     have S8 : Hid (Sx w g a len cap ts w.heap.size (.slice none 0 0) [] (w5.setCell ⟨w1.heap.size,7,none⟩ (.slice (some ⟨w5.heap.size,0,none⟩) 1 1)) ((gtyped ts true true (gmade ts 9 s)).2) [(w1.heap.size,#[.int .i64 9,.string { data := #[] },.int .i64 0,.int .i64 0,.int .i64 0,.int .i64 kp,.string ND,.slice (some ⟨w5.heap.size,0,none⟩) 1 1]),(w.heap.size,#[.int .i64 0,.string { data := #[] },.int .i64 0,.int .i64 0,.int .i64 0,.int .i64 0,.string { data := #[] },.slice none 0 0])] (.slice none 0 0) [] [Tn.mk 18 r4 0 0 0 kq [] none 0 []]) := S7.out.set 0 w1.heap.size _ rfl 7 _
     have S9 : Hid (Sx w g a len cap ts w.heap.size (.slice none 0 0) [] ((w5.setCell ⟨w1.heap.size,7,none⟩ (.slice (some ⟨w5.heap.size,0,none⟩) 1 1)).alloc (.cells #[.int .i64 18,.string X4,.int .i64 0,.int .i64 0,.int .i64 0,.int .i64 kq,.string D,.slice none 0 0] 28)) ((gtyped ts true true (gmade ts 9 s)).2) [(w5.heap.size,#[.int .i64 18,.string X4,.int .i64 0,.int .i64 0,.int .i64 0,.int .i64 kq,.string D,.slice none 0 0]),(w1.heap.size,#[.int .i64 9,.string { data := #[] },.int .i64 0,.int .i64 0,.int .i64 0,.int .i64 kp,.string ND,.slice (some ⟨w5.heap.size,0,none⟩) 1 1]),(w.heap.size,#[.int .i64 0,.string { data := #[] },.int .i64 0,.int .i64 0,.int .i64 0,.int .i64 0,.string { data := #[] },.slice none 0 0])] (.slice none 0 0) [] [Tn.mk 18 r4 0 0 0 kq [] none 0 []]) := S8.out.allocAt _ w5.heap.size (by simp only [set_size])
     have S10 : Hid (Sx w g a len cap ts w.heap.size (.slice none 0 0) [] ((w5.setCell ⟨w1.heap.size,7,none⟩ (.slice (some ⟨w5.heap.size,0,none⟩) 1 1)).alloc (.cells #[.int .i64 18,.string X4,.int .i64 0,.int .i64 0,.int .i64 0,.int .i64 kq,.string D,.slice none 0 0] 28)) ((gtyped ts true true (gmade ts 9 s)).2) [(w1.heap.size,#[.int .i64 9,.string { data := #[] },.int .i64 0,.int .i64 0,.int .i64 0,.int .i64 kp,.string ND,.slice (some ⟨w5.heap.size,0,none⟩) 1 1]),(w.heap.size,#[.int .i64 0,.string { data := #[] },.int .i64 0,.int .i64 0,.int .i64 0,.int .i64 0,.string { data := #[] },.slice none 0 0])] (.slice (some ⟨w5.heap.size,0,none⟩) 1 1) [Tn.mk 18 r4 0 0 0 kq [] none 0 []] []) := S9.out.kids1 (by rw [HX4.out,HDD.out]; rfl)
     have HO5 : Hid (((gtyped ts true true (gmade ts 9 s)).2).op + d = 31) := by show _ = _; have h1 := (mtyped HE.out true true (gmade ts 9 s)).op; have h2 := HOl.out; omega
     have Q10 : Hid _ := rgtail_any0 (show Hid (Gm ((w5.setCell ⟨w1.heap.size,7,none⟩ (.slice (some ⟨w5.heap.size,0,none⟩) 1 1)).alloc (.cells #[.int .i64 18,.string X4,.int .i64 0,.int .i64 0,.int .i64 0,.int .i64 kq,.string D,.slice none 0 0] 28)) g a len cap ts ((gtyped ts true true (gmade ts 9 s)).2)) from S10.out.gm) d HO5.out HW (base := w.heap.size) hg S10.out.fr.size (show Hid (Ns ((w5.setCell ⟨w1.heap.size,7,none⟩ (.slice (some ⟨w5.heap.size,0,none⟩) 1 1)).alloc (.cells #[.int .i64 18,.string X4,.int .i64 0,.int .i64 0,.int .i64 0,.int .i64 kq,.string D,.slice none 0 0] 28)) w.heap.size (.slice (some ⟨w5.heap.size,0,none⟩) 1 1) [Tn.mk 18 r4 0 0 0 kq [] none 0 []]) from S10.out.ns) (by simp) (nk := 9) (nn := 0) (nm := 0) (na := 0) (np := kp) (ntx := []) (ndc := (gnow ts s).doc) (by unfold i64b; omega) (by unfold i64b; omega) (by unfold i64b; omega) (by unfold i64b; omega) Hkpb.out ⟨fun c hc => by simp at hc,by simp⟩ HNDb.out
     rw [← HND.out,show strOfNums [] = { data := #[] } from rfl] at Q10
     go_wp2_with fail
     refine Calls.mono Q10.out ?_
     rintro e w6 hNw6
     obtain ⟨t,rfl,htp,hw6⟩ := S10.out.got2 hNw6
     obtain ⟨k2,tx2,n2,m2,a2,p2,dc2,ad2,cap2,ks2⟩ := t
     have S11 : Hid (Sx w g a len cap ts w.heap.size (.slice none 0 0) [] w6 ((gtail ts d ((gtyped ts true true (gmade ts 9 s)).2)).2) [(w1.heap.size,#[.int .i64 9,.string { data := #[] },.int .i64 0,.int .i64 0,.int .i64 0,.int .i64 kp,.string ND,.slice (some ⟨w5.heap.size,0,none⟩) 1 1]),(w.heap.size,#[.int .i64 0,.string { data := #[] },.int .i64 0,.int .i64 0,.int .i64 0,.int .i64 0,.string { data := #[] },.slice none 0 0])] (.slice none 0 0) [] [Tn.mk k2 tx2 n2 m2 a2 p2 dc2 ad2 cap2 ks2]) := hw6
     have HTP2 : Hid ((Tn.mk k2 tx2 n2 m2 a2 p2 dc2 ad2 cap2 ks2).plain = Pn.mk 9 (gtail ts d ((gtyped ts true true (gmade ts 9 s)).2)).1.1 (gtail ts d ((gtyped ts true true (gmade ts 9 s)).2)).1.2.1 0 (0) kp (gnow ts s).doc (plains [Tn.mk 18 r4 0 0 0 kq [] none 0 []] ++ (gtail ts d ((gtyped ts true true (gmade ts 9 s)).2)).1.2.2)) := htp
     clear hNw6 hw6 htp Q10
     simp only [Tn.val,Tn.cells]
     obtain ⟨X2,hX2⟩ : ∃ X2,X2 = strOfNums tx2 := ⟨_,rfl⟩
     rw [← hX2]
     have HX2 : Hid (X2 = strOfNums tx2) := hX2
     clear hX2
     obtain ⟨D2,hD2⟩ : ∃ D2,D2 = strOfNums dc2 := ⟨_,rfl⟩
     rw [← hD2]
     have HD2 : Hid (D2 = strOfNums dc2) := hD2
     clear hD2
     obtain ⟨⟨ca10,ca11,ca12,ca13,ca14,ca15,ca16,ca17⟩,cb10,cb11,cb12,cb13,cb14,cb15,cb16,cb17⟩ := eight_cells (S11.out.eight 1 w.heap.size rfl)
     have hz_w6_0 : w1.heap.size < w6.heap.size := S11.out.ltAt 0 w1.heap.size rfl
     have hz_w6_1 : w.heap.size < w6.heap.size := S11.out.ltAt 1 w.heap.size rfl
     go_wp2
     rw [gfield_eq ts d _ s,show glabel ts true (gmade ts 9 s) = (0,gmade ts 9 s) from HLab.out]
     refine S11.out.fin rfl 1 w.heap.size (.int .i64 0) (.string { data := #[] }) (.int .i64 0) (.int .i64 0) (.int .i64 0) (.int .i64 0) (.string { data := #[] }) (.slice none 0 0) (.int .i64 k2) (.string X2) (.int .i64 n2) (.int .i64 m2) (.int .i64 a2) (.int .i64 p2) (.string D2) (.slice ad2 ks2.length cap2) rfl rfl rfl ?_ ?_
     ·rw [Tn.cells,HX2.out,HD2.out]
     ·exact by rw [HTP2.out,plains,plains,HLf4.out,Hkp.out]; rfl

theorem rgfield_any0 {w : World} {g : Nat} {a : Option Addr} {len cap : Nat} {ts : List Tq} {s : Gs} (H : Hid (Gm w g a len cap ts s)) (d : Nat) (hod : s.op + d = 31) (HW : Hid (Sim ts)) (labels : Bool) :
  Calls Tryz.prog 145 #[.pointer (some ⟨g,0,none⟩),.bool labels] w (NodeRet w g a len cap ts (gfield ts d labels s)) := Calls.mono (rgfield20 H d hod HW labels) (fun _ _ h => h.nil)

end Go.Proofs.YtlekfcehmlepkaaGreatDoor
