/- Put together by a program out of these texts of mine: SItem, GIsMap, SWithin. -/
import Derived.Test.YtlekfcehmlepkaaGreatDoorBunD9
import Derived.Test.YtlekfcehmlepkaaGreatDoorBunD20
import Derived.Test.YtlekfcehmlepkaaGreatDoorBunD22
import Derived.Test.YtlekfcehmlepkaaGreatDoorBunD26

namespace Go.Proofs.YtlekfcehmlepkaaGreatDoor
open Go.RowKit
set_option linter.unusedVariables false
set_option linter.unusedSimpArgs false

def Bk0 (g : Nat) (a : Option Addr) (len cap : Nat) (ts : List Tq) (d : Nat) : Prop := ∀ (V : World) (s' : Gs),Gm V g a len cap ts s' → s'.op + d = 31 → ∀ (base : Nat) (ad0 : Option Addr) (n0 c0 : Nat) (ks0 : List Tn),g < base → base ≤ V.heap.size → Ns V base (.slice ad0 n0 c0) ks0 → ks0.length ≤ 2 →
 ∀ (nk nn nm na np : Int) (ntx ndc : List Int),nk = 5 → i64b nk → i64b nn → i64b nm → i64b na → i64b np → (byts ntx ∧ ntx.length ≤ 100000) → (byts ndc ∧ ndc.length ≤ 1000000) →
  Calls Tryz.prog 62 #[.pointer (some ⟨g,0,none⟩),.agg #[.int .i64 nk,.string (strOfNums ntx),.int .i64 nn,.int .i64 nm,.int .i64 na,.int .i64 np,.string (strOfNums ndc),.slice ad0 n0 c0]] V
   (NodeRet2 V g a len cap ts (.slice ad0 n0 c0) ks0 (.mk nk ntx nn nm na np ndc (plains ks0 ++ (gbody ts d nk s').1),(gbody ts d nk s').2))

set_option maxRecDepth 100000 in
set_option maxHeartbeats 4000000 in
theorem it_message0 {w : World} {g : Nat} {a : Option Addr} {len cap : Nat} {ts : List Tq} {s : Gs} (H : Hid (Gm w g a len cap ts s)) (d : Nat) (hod : s.op + d = 31) (HB : Hid (Bk0 g a len cap ts d)) (HW : Hid (Sim ts)) (hm : gisw ts [109,101,115,115,97,103,101] s = true) (hen : gisw ts [101,110,117,109] s = false) (hs : gisw ts [115,101,114,118,105,99,101] s = false) :
  Calls Tryz.prog 43 #[.pointer (some ⟨g,0,none⟩)] w (NodeRet2 w g a len cap ts (.slice none 0 0) [] (gnamed ts (gbody ts d) 5 s)) := by
 have hg := H.out.blk.size
 have hL : ts.length = len := H.out.tok.1
 have HE : Hid (Ends ts) := by show (ts.getD (ts.length - 1) Tq.none).kind = 0; rw [hL]; exact H.out.last
 obtain ⟨D,hD⟩ : ∃ D,D = strOfNums [] := ⟨_,rfl⟩
 have HDD : Hid (D = strOfNums []) := hD
 clear hD
 have S0 : Hid (Sx w g a len cap ts w.heap.size (.slice none 0 0) [] w (s) [] (.slice none 0 0) [] []) := Sx.begin H.out
 have S1 : Hid (Sx w g a len cap ts w.heap.size (.slice none 0 0) [] (w.alloc (.cells #[.int .i64 0,.string { data := #[] },.int .i64 0,.int .i64 0,.int .i64 0,.int .i64 0,.string { data := #[] },.slice none 0 0] 28)) (s) [(w.heap.size,#[.int .i64 0,.string { data := #[] },.int .i64 0,.int .i64 0,.int .i64 0,.int .i64 0,.string { data := #[] },.slice none 0 0])] (.slice none 0 0) [] []) := S0.out.alloc _
 have hn_g : w.heap.size ≠ g := by omega
 have Q1 : Hid _ := rgisWord_any (show Hid (Gm (w.alloc (.cells #[.int .i64 0,.string { data := #[] },.int .i64 0,.int .i64 0,.int .i64 0,.int .i64 0,.string { data := #[] },.slice none 0 0] 28)) g a len cap ts (s)) from S1.out.gm) [109,101,115,115,97,103,101] (show byts _ by unfold byts; decide)
 rw [hm] at Q1
 go_enter Tryz.func43,Tryz.ntmps43
 go_wp2_with fail
 refine Calls.mono Q1.out ?_
 rintro e wi0 ⟨rfl,hbwi0⟩
 have S2 : Hid (Sx w g a len cap ts w.heap.size (.slice none 0 0) [] wi0 (s) [(w.heap.size,#[.int .i64 0,.string { data := #[] },.int .i64 0,.int .i64 0,.int .i64 0,.int .i64 0,.string { data := #[] },.slice none 0 0])] (.slice none 0 0) [] []) := S1.out.below hbwi0
 clear hbwi0 Q1
 have hz_wi0_0 : w.heap.size < wi0.heap.size := S2.out.ltAt 0 w.heap.size rfl
 have Q2 : Hid _ := rgisWord_any (show Hid (Gm wi0 g a len cap ts (s)) from S2.out.gm) [101,110,117,109] (show byts _ by unfold byts; decide)
 rw [hen] at Q2
 go_wp2_with fail
 refine Calls.mono Q2.out ?_
 rintro e wi1 ⟨rfl,hbwi1⟩
 have S3 : Hid (Sx w g a len cap ts w.heap.size (.slice none 0 0) [] wi1 (s) [(w.heap.size,#[.int .i64 0,.string { data := #[] },.int .i64 0,.int .i64 0,.int .i64 0,.int .i64 0,.string { data := #[] },.slice none 0 0])] (.slice none 0 0) [] []) := S2.out.below hbwi1
 clear hbwi1 Q2
 have hz_wi1_0 : w.heap.size < wi1.heap.size := S3.out.ltAt 0 w.heap.size rfl
 have Q3 : Hid _ := rgisWord_any (show Hid (Gm wi1 g a len cap ts (s)) from S3.out.gm) [115,101,114,118,105,99,101] (show byts _ by unfold byts; decide)
 rw [hs] at Q3
 go_wp2_with fail
 refine Calls.mono Q3.out ?_
 rintro e wi2 ⟨rfl,hbwi2⟩
 have S4 : Hid (Sx w g a len cap ts w.heap.size (.slice none 0 0) [] wi2 (s) [(w.heap.size,#[.int .i64 0,.string { data := #[] },.int .i64 0,.int .i64 0,.int .i64 0,.int .i64 0,.string { data := #[] },.slice none 0 0])] (.slice none 0 0) [] []) := S3.out.below hbwi2
 clear hbwi2 Q3
 have hz_wi2_0 : w.heap.size < wi2.heap.size := S4.out.ltAt 0 w.heap.size rfl
 have Q4 : Hid _ := rgmade_any (show Hid (Gm wi2 g a len cap ts (s)) from S4.out.gm) 5 (by unfold i64b; omega)
 rw [show tdocd 5 = true by decide,if_pos rfl] at Q4
 obtain ⟨ND,hND⟩ : ∃ ND,ND = strOfNums (gnow ts (s)).doc := ⟨_,rfl⟩
 rw [← hND] at Q4
 have HND : Hid (ND = strOfNums (gnow ts (s)).doc) := hND
 clear hND
 have HNDb : Hid (byts (gnow ts (s)).doc ∧ (gnow ts (s)).doc.length ≤ 1000000) := ⟨S4.out.gm.now_ok.2.2.2.2.1,S4.out.gm.now_ok.2.2.2.2.2.2⟩
 have Hkpb : Hid (i64b (gnow ts (s)).pos) := S4.out.gm.now_ok.2.2.2.1
 obtain ⟨kp,hkp⟩ : ∃ kp,kp = (gnow ts (s)).pos := ⟨_,rfl⟩
 rw [← hkp] at Q4 Hkpb
 have Hkp : Hid (kp = (gnow ts (s)).pos) := hkp
 clear hkp
 go_wp2_with fail
 refine Calls.mono Q4.out ?_
 rintro e wn1 ⟨rfl,hgwn1,Hwn1⟩
 have S5 : Hid (Sx w g a len cap ts w.heap.size (.slice none 0 0) [] wn1 (gmade ts 5 (s)) [(w.heap.size,#[.int .i64 0,.string { data := #[] },.int .i64 0,.int .i64 0,.int .i64 0,.int .i64 0,.string { data := #[] },.slice none 0 0])] (.slice none 0 0) [] []) := S4.out.call hgwn1 Hwn1
 clear hgwn1 Hwn1 Q4
 have hz_wn1_0 : w.heap.size < wn1.heap.size := S5.out.ltAt 0 w.heap.size rfl
 have S6 : Hid (Sx w g a len cap ts w.heap.size (.slice none 0 0) [] (wn1.alloc (.cells #[.int .i64 5,.string { data := #[] },.int .i64 0,.int .i64 0,.int .i64 0,.int .i64 kp,.string ND,.slice none 0 0] 28)) (gmade ts 5 (s)) [(wn1.heap.size,#[.int .i64 5,.string { data := #[] },.int .i64 0,.int .i64 0,.int .i64 0,.int .i64 kp,.string ND,.slice none 0 0]),(w.heap.size,#[.int .i64 0,.string { data := #[] },.int .i64 0,.int .i64 0,.int .i64 0,.int .i64 0,.string { data := #[] },.slice none 0 0])] (.slice none 0 0) [] []) := S5.out.alloc _
 have hn_47 : wn1.heap.size ≠ w.heap.size := by omega
 have hn_48 : wn1.heap.size ≠ g := by omega
 have Q6 : Hid _ := rgnext_any (show Hid (Gm (wn1.alloc (.cells #[.int .i64 5,.string { data := #[] },.int .i64 0,.int .i64 0,.int .i64 0,.int .i64 kp,.string ND,.slice none 0 0] 28)) g a len cap ts (gmade ts 5 (s))) from S6.out.gm)
 go_wp2_with fail
 refine Calls.mono Q6.out ?_
 rintro e wn2 ⟨rfl,hgwn2,Hwn2⟩
 have S7 : Hid (Sx w g a len cap ts w.heap.size (.slice none 0 0) [] wn2 (gnext ts (gmade ts 5 s)) [(wn1.heap.size,#[.int .i64 5,.string { data := #[] },.int .i64 0,.int .i64 0,.int .i64 0,.int .i64 kp,.string ND,.slice none 0 0]),(w.heap.size,#[.int .i64 0,.string { data := #[] },.int .i64 0,.int .i64 0,.int .i64 0,.int .i64 0,.string { data := #[] },.slice none 0 0])] (.slice none 0 0) [] []) := S6.out.call hgwn2 Hwn2
 clear hgwn2 Hwn2 Q6
 have hz_wn2_0 : wn1.heap.size < wn2.heap.size := S7.out.ltAt 0 wn1.heap.size rfl
 have hz_wn2_1 : w.heap.size < wn2.heap.size := S7.out.ltAt 1 w.heap.size rfl
 have Q7 : Hid _ := rgname_any (show Hid (Gm wn2 g a len cap ts (gnext ts (gmade ts 5 s))) from S7.out.gm)
 obtain ⟨T1,hT1⟩ : ∃ T1,T1 = strOfNums (gnow ts (gnext ts (gmade ts 5 s))).text := ⟨_,rfl⟩
 rw [← hT1] at Q7
 have HT1 : Hid (T1 = strOfNums (gnow ts (gnext ts (gmade ts 5 s))).text) := hT1
 clear hT1
 have HTb : Hid (byts (gnow ts (gnext ts (gmade ts 5 s))).text ∧ (gnow ts (gnext ts (gmade ts 5 s))).text.length ≤ 100000) := ⟨S7.out.gm.now_ok.2.1,by have := S7.out.gm.now_ok.2.2.2.2.2.1; omega⟩
 go_wp2_with fail
 refine Calls.mono Q7.out ?_
 rintro e wn3 ⟨rfl,hgwn3,Hwn3⟩
 have S8 : Hid (Sx w g a len cap ts w.heap.size (.slice none 0 0) [] wn3 (gnameS ts (gnext ts (gmade ts 5 s))) [(wn1.heap.size,#[.int .i64 5,.string { data := #[] },.int .i64 0,.int .i64 0,.int .i64 0,.int .i64 kp,.string ND,.slice none 0 0]),(w.heap.size,#[.int .i64 0,.string { data := #[] },.int .i64 0,.int .i64 0,.int .i64 0,.int .i64 0,.string { data := #[] },.slice none 0 0])] (.slice none 0 0) [] []) := S7.out.call hgwn3 Hwn3
 clear hgwn3 Hwn3 Q7
 obtain ⟨⟨ca00,ca01,ca02,ca03,ca04,ca05,ca06,ca07⟩,cb00,cb01,cb02,cb03,cb04,cb05,cb06,cb07⟩ := eight_cells (S8.out.eight 0 wn1.heap.size rfl)
 have hz_wn3_0 : wn1.heap.size < wn3.heap.size := S8.out.ltAt 0 wn1.heap.size rfl
 have hz_wn3_1 : w.heap.size < wn3.heap.size := S8.out.ltAt 1 w.heap.size rfl
 have S9 : Hid (Sx w g a len cap ts w.heap.size (.slice none 0 0) [] (wn3.setCell ⟨wn1.heap.size,1,none⟩ (.string T1)) (gnameS ts (gnext ts (gmade ts 5 s))) [(wn1.heap.size,#[.int .i64 5,.string T1,.int .i64 0,.int .i64 0,.int .i64 0,.int .i64 kp,.string ND,.slice none 0 0]),(w.heap.size,#[.int .i64 0,.string { data := #[] },.int .i64 0,.int .i64 0,.int .i64 0,.int .i64 0,.string { data := #[] },.slice none 0 0])] (.slice none 0 0) [] []) := S8.out.set 0 wn1.heap.size _ rfl 1 _
 have HO3 : Hid ((gnameS ts (gnext ts (gmade ts 5 s))).op + d = 31) := by show _ = _; have h1 := (mmade ts 5 s).op; have h2 := (mnext0 ts (gmade ts 5 s)).op; have h3 := (mname HE.out (gnext ts (gmade ts 5 s))).op; omega
 have Q9 : Hid _ := HB.out _ _ S9.out.gm HO3.out w.heap.size none 0 0 [] hg S9.out.fr.size S9.out.ns (by simp) 5 0 0 0 kp (gnow ts (gnext ts (gmade ts 5 s))).text (gnow ts s).doc rfl (by unfold i64b; omega) (by unfold i64b; omega) (by unfold i64b; omega) (by unfold i64b; omega) Hkpb.out HTb.out HNDb.out
 rw [← HND.out,← HT1.out] at Q9
 go_wp2_with fail
 refine Calls.mono Q9.out ?_
 rintro e wn4 hNwn4
 obtain ⟨t,rfl,htp,hwn4⟩ := S9.out.got2 hNwn4
 obtain ⟨k2,tx2,n2,m2,a2,p2,dc2,ad2,cap2,ks2⟩ := t
 have S10 : Hid (Sx w g a len cap ts w.heap.size (.slice none 0 0) [] wn4 ((gbody ts d 5 (gnameS ts (gnext ts (gmade ts 5 s)))).2) [(wn1.heap.size,#[.int .i64 5,.string T1,.int .i64 0,.int .i64 0,.int .i64 0,.int .i64 kp,.string ND,.slice none 0 0]),(w.heap.size,#[.int .i64 0,.string { data := #[] },.int .i64 0,.int .i64 0,.int .i64 0,.int .i64 0,.string { data := #[] },.slice none 0 0])] (.slice none 0 0) [] [Tn.mk k2 tx2 n2 m2 a2 p2 dc2 ad2 cap2 ks2]) := hwn4
 have HTP2 : Hid ((Tn.mk k2 tx2 n2 m2 a2 p2 dc2 ad2 cap2 ks2).plain = Pn.mk 5 (gnow ts (gnext ts (gmade ts 5 s))).text 0 0 0 kp (gnow ts s).doc (plains [] ++ (gbody ts d 5 (gnameS ts (gnext ts (gmade ts 5 s)))).1)) := htp
 clear hNwn4 hwn4 htp Q9
 simp only [Tn.val,Tn.cells]
 obtain ⟨X2,hX2⟩ : ∃ X2,X2 = strOfNums tx2 := ⟨_,rfl⟩
 rw [← hX2]
 have HX2 : Hid (X2 = strOfNums tx2) := hX2
 clear hX2
 obtain ⟨D2,hD2⟩ : ∃ D2,D2 = strOfNums dc2 := ⟨_,rfl⟩
 rw [← hD2]
 have HD2 : Hid (D2 = strOfNums dc2) := hD2
 clear hD2
 obtain ⟨⟨ca10,ca11,ca12,ca13,ca14,ca15,ca16,ca17⟩,cb10,cb11,cb12,cb13,cb14,cb15,cb16,cb17⟩ := eight_cells (S10.out.eight 1 w.heap.size rfl)
 have hz_wn4_0 : wn1.heap.size < wn4.heap.size := S10.out.ltAt 0 wn1.heap.size rfl
 have hz_wn4_1 : w.heap.size < wn4.heap.size := S10.out.ltAt 1 w.heap.size rfl
 go_wp2
 refine S10.out.fin rfl 1 w.heap.size (.int .i64 0) (.string { data := #[] }) (.int .i64 0) (.int .i64 0) (.int .i64 0) (.int .i64 0) (.string { data := #[] }) (.slice none 0 0) (.int .i64 k2) (.string X2) (.int .i64 n2) (.int .i64 m2) (.int .i64 a2) (.int .i64 p2) (.string D2) (.slice ad2 ks2.length cap2) rfl rfl rfl ?_ ?_
 ·rw [Tn.cells,HX2.out,HD2.out]
 ·exact by rw [HTP2.out,plains,List.nil_append,Hkp.out]; rfl

set_option maxRecDepth 100000 in
set_option maxHeartbeats 4000000 in
theorem it_none0 {w : World} {g : Nat} {a : Option Addr} {len cap : Nat} {ts : List Tq} {s : Gs} (H : Hid (Gm w g a len cap ts s)) (d : Nat) (hod : s.op + d = 31) (HB : Hid (Bk0 g a len cap ts d)) (HW : Hid (Sim ts)) (hm : gisw ts [109,101,115,115,97,103,101] s = false) (hen : gisw ts [101,110,117,109] s = false) (hs : gisw ts [115,101,114,118,105,99,101] s = false) (hx : gisw ts [101,120,116,101,110,100] s = false) (ho : gisw ts [111,112,116,105,111,110] s = false) (hi : gisw ts [105,109,112,111,114,116] s = false) (hp : gisw ts [112,97,99,107,97,103,101] s = false) :
  Calls Tryz.prog 43 #[.pointer (some ⟨g,0,none⟩)] w (NodeRet2 w g a len cap ts (.slice none 0 0) [] ((pnil,gfail ts 80 s))) := by
 have hg := H.out.blk.size
 have hL : ts.length = len := H.out.tok.1
 have HE : Hid (Ends ts) := by show (ts.getD (ts.length - 1) Tq.none).kind = 0; rw [hL]; exact H.out.last
 obtain ⟨D,hD⟩ : ∃ D,D = strOfNums [] := ⟨_,rfl⟩
 have HDD : Hid (D = strOfNums []) := hD
 clear hD
 have S0 : Hid (Sx w g a len cap ts w.heap.size (.slice none 0 0) [] w (s) [] (.slice none 0 0) [] []) := Sx.begin H.out
 have S1 : Hid (Sx w g a len cap ts w.heap.size (.slice none 0 0) [] (w.alloc (.cells #[.int .i64 0,.string { data := #[] },.int .i64 0,.int .i64 0,.int .i64 0,.int .i64 0,.string { data := #[] },.slice none 0 0] 28)) (s) [(w.heap.size,#[.int .i64 0,.string { data := #[] },.int .i64 0,.int .i64 0,.int .i64 0,.int .i64 0,.string { data := #[] },.slice none 0 0])] (.slice none 0 0) [] []) := S0.out.alloc _
 have hn_g : w.heap.size ≠ g := by omega
 have Q1 : Hid _ := rgisWord_any (show Hid (Gm (w.alloc (.cells #[.int .i64 0,.string { data := #[] },.int .i64 0,.int .i64 0,.int .i64 0,.int .i64 0,.string { data := #[] },.slice none 0 0] 28)) g a len cap ts (s)) from S1.out.gm) [109,101,115,115,97,103,101] (show byts _ by unfold byts; decide)
 rw [hm] at Q1
 go_enter Tryz.func43,Tryz.ntmps43
 go_wp2_with fail
 refine Calls.mono Q1.out ?_
 rintro e wi0 ⟨rfl,hbwi0⟩
 have S2 : Hid (Sx w g a len cap ts w.heap.size (.slice none 0 0) [] wi0 (s) [(w.heap.size,#[.int .i64 0,.string { data := #[] },.int .i64 0,.int .i64 0,.int .i64 0,.int .i64 0,.string { data := #[] },.slice none 0 0])] (.slice none 0 0) [] []) := S1.out.below hbwi0
 clear hbwi0 Q1
 have hz_wi0_0 : w.heap.size < wi0.heap.size := S2.out.ltAt 0 w.heap.size rfl
 have Q2 : Hid _ := rgisWord_any (show Hid (Gm wi0 g a len cap ts (s)) from S2.out.gm) [101,110,117,109] (show byts _ by unfold byts; decide)
 rw [hen] at Q2
 go_wp2_with fail
 refine Calls.mono Q2.out ?_
 rintro e wi1 ⟨rfl,hbwi1⟩
 have S3 : Hid (Sx w g a len cap ts w.heap.size (.slice none 0 0) [] wi1 (s) [(w.heap.size,#[.int .i64 0,.string { data := #[] },.int .i64 0,.int .i64 0,.int .i64 0,.int .i64 0,.string { data := #[] },.slice none 0 0])] (.slice none 0 0) [] []) := S2.out.below hbwi1
 clear hbwi1 Q2
 have hz_wi1_0 : w.heap.size < wi1.heap.size := S3.out.ltAt 0 w.heap.size rfl
 have Q3 : Hid _ := rgisWord_any (show Hid (Gm wi1 g a len cap ts (s)) from S3.out.gm) [115,101,114,118,105,99,101] (show byts _ by unfold byts; decide)
 rw [hs] at Q3
 go_wp2_with fail
 refine Calls.mono Q3.out ?_
 rintro e wi2 ⟨rfl,hbwi2⟩
 have S4 : Hid (Sx w g a len cap ts w.heap.size (.slice none 0 0) [] wi2 (s) [(w.heap.size,#[.int .i64 0,.string { data := #[] },.int .i64 0,.int .i64 0,.int .i64 0,.int .i64 0,.string { data := #[] },.slice none 0 0])] (.slice none 0 0) [] []) := S3.out.below hbwi2
 clear hbwi2 Q3
 have hz_wi2_0 : w.heap.size < wi2.heap.size := S4.out.ltAt 0 w.heap.size rfl
 have Q4 : Hid _ := rgisWord_any (show Hid (Gm wi2 g a len cap ts (s)) from S4.out.gm) [101,120,116,101,110,100] (show byts _ by unfold byts; decide)
 rw [hx] at Q4
 go_wp2_with fail
 refine Calls.mono Q4.out ?_
 rintro e wi3 ⟨rfl,hbwi3⟩
 have S5 : Hid (Sx w g a len cap ts w.heap.size (.slice none 0 0) [] wi3 (s) [(w.heap.size,#[.int .i64 0,.string { data := #[] },.int .i64 0,.int .i64 0,.int .i64 0,.int .i64 0,.string { data := #[] },.slice none 0 0])] (.slice none 0 0) [] []) := S4.out.below hbwi3
 clear hbwi3 Q4
 have hz_wi3_0 : w.heap.size < wi3.heap.size := S5.out.ltAt 0 w.heap.size rfl
 have Q5 : Hid _ := rgisWord_any (show Hid (Gm wi3 g a len cap ts (s)) from S5.out.gm) [111,112,116,105,111,110] (show byts _ by unfold byts; decide)
 rw [ho] at Q5
 go_wp2_with fail
 refine Calls.mono Q5.out ?_
 rintro e wi4 ⟨rfl,hbwi4⟩
 have S6 : Hid (Sx w g a len cap ts w.heap.size (.slice none 0 0) [] wi4 (s) [(w.heap.size,#[.int .i64 0,.string { data := #[] },.int .i64 0,.int .i64 0,.int .i64 0,.int .i64 0,.string { data := #[] },.slice none 0 0])] (.slice none 0 0) [] []) := S5.out.below hbwi4
 clear hbwi4 Q5
 have hz_wi4_0 : w.heap.size < wi4.heap.size := S6.out.ltAt 0 w.heap.size rfl
 have Q6 : Hid _ := rgisWord_any (show Hid (Gm wi4 g a len cap ts (s)) from S6.out.gm) [105,109,112,111,114,116] (show byts _ by unfold byts; decide)
 rw [hi] at Q6
 go_wp2_with fail
 refine Calls.mono Q6.out ?_
 rintro e wi5 ⟨rfl,hbwi5⟩
 have S7 : Hid (Sx w g a len cap ts w.heap.size (.slice none 0 0) [] wi5 (s) [(w.heap.size,#[.int .i64 0,.string { data := #[] },.int .i64 0,.int .i64 0,.int .i64 0,.int .i64 0,.string { data := #[] },.slice none 0 0])] (.slice none 0 0) [] []) := S6.out.below hbwi5
 clear hbwi5 Q6
 have hz_wi5_0 : w.heap.size < wi5.heap.size := S7.out.ltAt 0 w.heap.size rfl
 have Q7 : Hid _ := rgisWord_any (show Hid (Gm wi5 g a len cap ts (s)) from S7.out.gm) [112,97,99,107,97,103,101] (show byts _ by unfold byts; decide)
 rw [hp] at Q7
 go_wp2_with fail
 refine Calls.mono Q7.out ?_
 rintro e wi6 ⟨rfl,hbwi6⟩
 have S8 : Hid (Sx w g a len cap ts w.heap.size (.slice none 0 0) [] wi6 (s) [(w.heap.size,#[.int .i64 0,.string { data := #[] },.int .i64 0,.int .i64 0,.int .i64 0,.int .i64 0,.string { data := #[] },.slice none 0 0])] (.slice none 0 0) [] []) := S7.out.below hbwi6
 clear hbwi6 Q7
 have hz_wi6_0 : w.heap.size < wi6.heap.size := S8.out.ltAt 0 w.heap.size rfl
 have Q8 : Hid _ := rgfail_any (show Hid (Gm wi6 g a len cap ts (s)) from S8.out.gm) 80 (by decide) (by decide)
 go_wp2_with fail
 refine Calls.mono Q8.out ?_
 rintro e wf ⟨rfl,hgwf,Hwf⟩
 have S9 : Hid (Sx w g a len cap ts w.heap.size (.slice none 0 0) [] wf (gfail ts 80 s) [(w.heap.size,#[.int .i64 0,.string { data := #[] },.int .i64 0,.int .i64 0,.int .i64 0,.int .i64 0,.string { data := #[] },.slice none 0 0])] (.slice none 0 0) [] []) := S8.out.call hgwf Hwf
 clear hgwf Hwf Q8
 have S10 : Hid (Sx w g a len cap ts w.heap.size (.slice none 0 0) [] wf (gfail ts 80 s) [(w.heap.size,#[.int .i64 0,.string { data := #[] },.int .i64 0,.int .i64 0,.int .i64 0,.int .i64 0,.string { data := #[] },.slice none 0 0])] (.slice none 0 0) [] [Tn.mk 0 [] 0 0 0 0 [] none 0 []]) := S9.out.tree _ (leaf_ok _ (by unfold i64b; omega) (fun c hc => by simp at hc) (by simp) (by unfold i64b; omega)) (fun b hb => by simp [Tn.blocks,blocksL] at hb)
 obtain ⟨⟨ca00,ca01,ca02,ca03,ca04,ca05,ca06,ca07⟩,cb00,cb01,cb02,cb03,cb04,cb05,cb06,cb07⟩ := eight_cells (S10.out.eight 0 w.heap.size rfl)
 have hz_wf_0 : w.heap.size < wf.heap.size := S10.out.ltAt 0 w.heap.size rfl
 go_wp2
 refine S10.out.fin rfl 0 w.heap.size (.int .i64 0) (.string { data := #[] }) (.int .i64 0) (.int .i64 0) (.int .i64 0) (.int .i64 0) (.string { data := #[] }) (.slice none 0 0) (.int .i64 0) (.string { data := #[] }) (.int .i64 0) (.int .i64 0) (.int .i64 0) (.int .i64 0) (.string { data := #[] }) (.slice none 0 0) rfl rfl rfl ?_ ?_
 ·rfl
 ·rfl

theorem rgitem_any0 {w : World} {g : Nat} {a : Option Addr} {len cap : Nat} {ts : List Tq} {s : Gs} (H : Hid (Gm w g a len cap ts s)) (d : Nat) (hod : s.op + d = 31) (HB : Hid (Bk0 g a len cap ts d)) (HW : Hid (Sim ts)) : Calls Tryz.prog 43 #[.pointer (some ⟨g,0,none⟩)] w (NodeRet w g a len cap ts (gitem ts (gbody ts d) d s)) := by
 refine Calls.mono (R := NodeRet2 w g a len cap ts (.slice none 0 0) [] (gitem ts (gbody ts d) d s)) ?_ (fun _ _ h => h.nil)
 have h1 := HW.out.w_enum s
 have h2 := HW.out.w_service s
 have h3 := HW.out.w_extend s
 have h4 := HW.out.w_option s
 have h5 := HW.out.w_import s
 have h6 := HW.out.w_package s
 unfold gitem
 by_cases hm : gisw ts [109,101,115,115,97,103,101] s = true
 ·rw [if_pos hm]; exact it_message0 H d hod HB HW hm h1 h2
 ·rw [if_neg hm,if_neg (by rw [h1]; decide),if_neg (by rw [h2]; decide),if_neg (by rw [h3]; decide),if_neg (by rw [h4]; decide),if_neg (by rw [h5]; decide),if_neg (by rw [h6]; decide)]
  exact it_none0 H d hod HB HW (by simpa using hm) h1 h2 h3 h4 h5 h6

def gismap (ts : List Tq) (s : Gs) : Bool := gisw ts [109,97,112] s && (decide ((ts.getD (s.i + 1) Tq.none).kind = 4) && decide ((ts.getD (s.i + 1) Tq.none).text = [60]))

theorem b60 : byts [60] := by unfold byts; decide

theorem bmapw : byts [109,97,112] := by unfold byts; decide

set_option maxHeartbeats 2000000 in
theorem rgisMap_any {w : World} {g : Nat} {a : Option Addr} {len cap : Nat} {ts : List Tq} {s : Gs} (H : Hid (Gm w g a len cap ts s)) :
  Calls Tryz.prog 147 #[.pointer (some ⟨g,0,none⟩)] w fun e w' => e = .returned (.bool (gismap ts s)) ∧ Below w.heap.size w w' := by
 have hg := H.out.blk.size
 have hlt := H.out.lt
 have hL := H.out.tok.1
 have hLb := H.out.tok.2.1
 have qw := fun V (hV : Below w.heap.size w V) => rgisWord_any (show Hid (Gm V g a len cap ts s) from H.out.below hV) [109,97,112] bmapw
 have g0 := fun x : Ext w => x.cell hg H.out.blk.cells.1
 have g1 := fun x : Ext w => x.cell hg H.out.blk.cells.2.1
 cases hm : gisw ts [109,97,112] s with
 | false =>
  have E : Hid (gismap ts s = false) := by show _ = _; unfold gismap; rw [hm]; rfl
  rw [hm] at qw
  have QW : Hid _ := qw
  clear qw hm
  go_enter Tryz.func147,Tryz.ntmps147
  go_wp2
  refine wp_region_ext w (Below.refl _ _) (by kernel_rfl) (by kernel_rfl) ?_
  repeat (go_big_quiet_step (first
   | (go_at_call 42; exact Ext.call (fun V hV => QW.out V hV) _)))
  refine wpQuiet_nil ?_
  rintro w5 ⟨⟨_,hb5⟩,rfl⟩
  have HB5 : Hid (Below w.heap.size w w5) := hb5
  clear hb5
  go_wp2
  go_ret
  exact ⟨by rw [E.out]; first | rfl | exact ret_bool (by simp),HB5.out⟩
 | true =>
  obtain ⟨_,hk1,_⟩ := gisw_kind hm
  have hmore := H.out.more (by rw [hk1]; decide)
  obtain ⟨b,off,rfl,hlt2,hne,hc⟩ := H.out.tok.2.2.2.2.2 (by omega)
  obtain ⟨t,ht⟩ : ∃ t,ts[s.i + 1]? = some t := ⟨ts[s.i + 1]'hmore,List.getElem?_eq_getElem hmore⟩
  have hok : t.ok := H.out.tok.2.2.2.2.1.1 t (List.mem_of_getElem? ht)
  have hE0 : gismap ts s = (decide (t.kind = 4) && decide (t.text = [60])) := by
   unfold gismap
   rw [hm,Bool.true_and]
   simp [List.getD,ht]
  obtain ⟨kind,text,n,pos,doc⟩ := t
  have d0 := fun x : Ext w => x.cell (p := ⟨b,off + (s.i + 1) * 5 + 0,none⟩) hlt2 (hc (s.i + 1) _ ht 0 _ rfl)
  have d1 := fun x : Ext w => x.cell (p := ⟨b,off + (s.i + 1) * 5 + 1,none⟩) hlt2 (hc (s.i + 1) _ ht 1 _ rfl)
  have heq := str_eq hok.2.1 b60
  simp only [Nat.add_zero] at d0 d1 hE0 heq
  rw [hm] at qw
  have QW : Hid _ := qw
  generalize strOfNums text = T1 at *
  obtain ⟨k,hk⟩ : ∃ k,k = s.i := ⟨_,rfl⟩
  rw [← hk] at g1 d0 d1 hmore hlt
  have i1 : (k : Int) + 1 < (len : Int) := by omega
  have i2 : k + 1 < len := by omega
  clear qw hm hk1 hc ht hok hk hne
  by_cases k4 : kind = 4
  ·subst k4
   by_cases h6 : text = [60]
   ·have E : Hid (gismap ts s = true) := by show _ = _; rw [hE0,decide_eq_true h6]; rfl
    have e6 : (T1.toList == [60]) = true := by rw [show (text == [60]) = true by simpa using h6,show (strOfNums [60]).toList = [60] by rw [str_list]; rfl] at heq; exact heq
    clear hE0 heq h6
    go_enter Tryz.func147,Tryz.ntmps147
    go_wp2
    refine wp_region_ext w (Below.refl _ _) (by kernel_rfl) (by kernel_rfl) ?_
    repeat (go_big_quiet_step (first
     | (go_at_call 42; exact Ext.call (fun V hV => QW.out V hV) _)))
    refine wpQuiet_nil ?_
    rintro w5 ⟨⟨_,hb5⟩,rfl⟩
    have HB5 : Hid (Below w.heap.size w w5) := hb5
    clear hb5
    go_wp2
    go_ret
    exact ⟨by rw [E.out]; first | rfl | exact ret_bool (by simp),HB5.out⟩
   ·have E : Hid (gismap ts s = false) := by show _ = _; rw [hE0,decide_eq_false h6]; rfl
    have e6 : (T1.toList == [60]) = false := by rw [show (text == [60]) = false by simpa using h6,show (strOfNums [60]).toList = [60] by rw [str_list]; rfl] at heq; exact heq
    clear hE0 heq h6
    go_enter Tryz.func147,Tryz.ntmps147
    go_wp2
    refine wp_region_ext w (Below.refl _ _) (by kernel_rfl) (by kernel_rfl) ?_
    repeat (go_big_quiet_step (first
     | (go_at_call 42; exact Ext.call (fun V hV => QW.out V hV) _)))
    refine wpQuiet_nil ?_
    rintro w5 ⟨⟨_,hb5⟩,rfl⟩
    have HB5 : Hid (Below w.heap.size w w5) := hb5
    clear hb5
    go_wp2
    go_ret
    exact ⟨by rw [E.out]; first | rfl | exact ret_bool (by simp),HB5.out⟩
  ·have E : Hid (gismap ts s = false) := by show _ = _; rw [hE0,decide_eq_false k4]; rfl
   have e4 : (kind == 4) = false := by simpa using k4
   clear hE0 heq
   go_enter Tryz.func147,Tryz.ntmps147
   go_wp2
   refine wp_region_ext w (Below.refl _ _) (by kernel_rfl) (by kernel_rfl) ?_
   repeat (go_big_quiet_step (first
    | (go_at_call 42; exact Ext.call (fun V hV => QW.out V hV) _)))
   refine wpQuiet_nil ?_
   rintro w5 ⟨⟨_,hb5⟩,rfl⟩
   have HB5 : Hid (Below w.heap.size w w5) := hb5
   clear hb5
   go_wp2
   go_ret
   exact ⟨by rw [E.out]; first | rfl | exact ret_bool (by simp),HB5.out⟩

set_option maxRecDepth 100000 in
set_option maxHeartbeats 4000000 in
theorem wi_message0 {w : World} {g : Nat} {a : Option Addr} {len cap : Nat} {ts : List Tq} {s : Gs} (H : Hid (Gm w g a len cap ts s)) (d : Nat) (hod : s.op + d = 31) (HB : Hid (Bk0 g a len cap ts d)) (HW : Hid (Sim ts)) {kind : Int} (hkb : i64b kind) (k6 : (kind == 6) = false) (k11 : (kind == 11) = false) (k7 : (kind == 7) = false) (k8 : (kind == 8) = false) (k17 : (kind == 17) = false) (ho : gisw ts [111,112,116,105,111,110] s = false) (hm : gisw ts [109,101,115,115,97,103,101] s = true) :
  Calls Tryz.prog 112 #[.pointer (some ⟨g,0,none⟩),.int .i64 kind] w (NodeRet2 w g a len cap ts (.slice none 0 0) [] (gitem ts (gbody ts d) d s)) := by
 have hg := H.out.blk.size
 have hL : ts.length = len := H.out.tok.1
 have HE : Hid (Ends ts) := by show (ts.getD (ts.length - 1) Tq.none).kind = 0; rw [hL]; exact H.out.last
 obtain ⟨D,hD⟩ : ∃ D,D = strOfNums [] := ⟨_,rfl⟩
 have HDD : Hid (D = strOfNums []) := hD
 clear hD
 have S0 : Hid (Sx w g a len cap ts w.heap.size (.slice none 0 0) [] w (s) [] (.slice none 0 0) [] []) := Sx.begin H.out
 have S1 : Hid (Sx w g a len cap ts w.heap.size (.slice none 0 0) [] (w.alloc (.cells #[.int .i64 0,.string { data := #[] },.int .i64 0,.int .i64 0,.int .i64 0,.int .i64 0,.string { data := #[] },.slice none 0 0] 28)) (s) [(w.heap.size,#[.int .i64 0,.string { data := #[] },.int .i64 0,.int .i64 0,.int .i64 0,.int .i64 0,.string { data := #[] },.slice none 0 0])] (.slice none 0 0) [] []) := S0.out.alloc _
 have hn_g : w.heap.size ≠ g := by omega
 have Q1 : Hid _ := rgisWord_any (show Hid (Gm (w.alloc (.cells #[.int .i64 0,.string { data := #[] },.int .i64 0,.int .i64 0,.int .i64 0,.int .i64 0,.string { data := #[] },.slice none 0 0] 28)) g a len cap ts (s)) from S1.out.gm) [111,112,116,105,111,110] (show byts _ by unfold byts; decide)
 rw [ho] at Q1
 go_enter Tryz.func112,Tryz.ntmps112
 go_wp2_with fail
 refine Calls.mono Q1.out ?_
 rintro e wi0 ⟨rfl,hbwi0⟩
 have S2 : Hid (Sx w g a len cap ts w.heap.size (.slice none 0 0) [] wi0 (s) [(w.heap.size,#[.int .i64 0,.string { data := #[] },.int .i64 0,.int .i64 0,.int .i64 0,.int .i64 0,.string { data := #[] },.slice none 0 0])] (.slice none 0 0) [] []) := S1.out.below hbwi0
 clear hbwi0 Q1
 have hz_wi0_0 : w.heap.size < wi0.heap.size := S2.out.ltAt 0 w.heap.size rfl
 have Q2 : Hid _ := rgisWord_any (show Hid (Gm wi0 g a len cap ts (s)) from S2.out.gm) [109,101,115,115,97,103,101] (show byts _ by unfold byts; decide)
 rw [hm] at Q2
 go_wp2_with fail
 refine Calls.mono Q2.out ?_
 rintro e wi1 ⟨rfl,hbwi1⟩
 have S3 : Hid (Sx w g a len cap ts w.heap.size (.slice none 0 0) [] wi1 (s) [(w.heap.size,#[.int .i64 0,.string { data := #[] },.int .i64 0,.int .i64 0,.int .i64 0,.int .i64 0,.string { data := #[] },.slice none 0 0])] (.slice none 0 0) [] []) := S2.out.below hbwi1
 clear hbwi1 Q2
 have hz_wi1_0 : w.heap.size < wi1.heap.size := S3.out.ltAt 0 w.heap.size rfl
 have Q3 : Hid _ := rgitem_any0 (show Hid (Gm wi1 g a len cap ts (s)) from S3.out.gm) d hod HB HW
 go_wp2_with fail
 refine Calls.mono Q3.out ?_
 rintro e wo hNwo
 obtain ⟨t,rfl,htp,hwo⟩ := S3.out.got hNwo
 obtain ⟨k2,tx2,n2,m2,a2,p2,dc2,ad2,cap2,ks2⟩ := t
 have S4 : Hid (Sx w g a len cap ts w.heap.size (.slice none 0 0) [] wo ((gitem ts (gbody ts d) d s).2) [(w.heap.size,#[.int .i64 0,.string { data := #[] },.int .i64 0,.int .i64 0,.int .i64 0,.int .i64 0,.string { data := #[] },.slice none 0 0])] (.slice none 0 0) [] [Tn.mk k2 tx2 n2 m2 a2 p2 dc2 ad2 cap2 ks2]) := hwo
 have HTP2 : Hid ((Tn.mk k2 tx2 n2 m2 a2 p2 dc2 ad2 cap2 ks2).plain = (gitem ts (gbody ts d) d s).1) := htp
 clear hNwo hwo htp Q3
 simp only [Tn.val,Tn.cells]
 obtain ⟨X2,hX2⟩ : ∃ X2,X2 = strOfNums tx2 := ⟨_,rfl⟩
 rw [← hX2]
 have HX2 : Hid (X2 = strOfNums tx2) := hX2
 clear hX2
 obtain ⟨D2,hD2⟩ : ∃ D2,D2 = strOfNums dc2 := ⟨_,rfl⟩
 rw [← hD2]
 have HD2 : Hid (D2 = strOfNums dc2) := hD2
 clear hD2
 obtain ⟨⟨ca00,ca01,ca02,ca03,ca04,ca05,ca06,ca07⟩,cb00,cb01,cb02,cb03,cb04,cb05,cb06,cb07⟩ := eight_cells (S4.out.eight 0 w.heap.size rfl)
 have hz_wo_0 : w.heap.size < wo.heap.size := S4.out.ltAt 0 w.heap.size rfl
 go_wp2
 refine S4.out.fin rfl 0 w.heap.size (.int .i64 0) (.string { data := #[] }) (.int .i64 0) (.int .i64 0) (.int .i64 0) (.int .i64 0) (.string { data := #[] }) (.slice none 0 0) (.int .i64 k2) (.string X2) (.int .i64 n2) (.int .i64 m2) (.int .i64 a2) (.int .i64 p2) (.string D2) (.slice ad2 ks2.length cap2) rfl rfl rfl ?_ ?_
 ·rw [Tn.cells,HX2.out,HD2.out]
 ·exact HTP2.out

set_option maxRecDepth 100000 in
set_option maxHeartbeats 4000000 in
theorem wi_field0 {w : World} {g : Nat} {a : Option Addr} {len cap : Nat} {ts : List Tq} {s : Gs} (H : Hid (Gm w g a len cap ts s)) (d : Nat) (hod : s.op + d = 31) (HB : Hid (Bk0 g a len cap ts d)) (HW : Hid (Sim ts)) {kind : Int} (hkb : i64b kind) (k6 : (kind == 6) = false) (k11 : (kind == 11) = false) (k7 : (kind == 7) = false) (k8 : (kind == 8) = false) (k17 : (kind == 17) = false) (ho : gisw ts [111,112,116,105,111,110] s = false) (hm : gisw ts [109,101,115,115,97,103,101] s = false) (hen : gisw ts [101,110,117,109] s = false) (hx : gisw ts [101,120,116,101,110,100] s = false) (hon : gisw ts [111,110,101,111,102] s = false) (hmap : gismap ts s = false) (hexs : gisw ts [101,120,116,101,110,115,105,111,110,115] s = false) (hre : gisw ts [114,101,115,101,114,118,101,100] s = false) :
  Calls Tryz.prog 112 #[.pointer (some ⟨g,0,none⟩),.int .i64 kind] w (NodeRet2 w g a len cap ts (.slice none 0 0) [] (gfield ts d true s)) := by
 have hg := H.out.blk.size
 have hL : ts.length = len := H.out.tok.1
 have HE : Hid (Ends ts) := by show (ts.getD (ts.length - 1) Tq.none).kind = 0; rw [hL]; exact H.out.last
 obtain ⟨D,hD⟩ : ∃ D,D = strOfNums [] := ⟨_,rfl⟩
 have HDD : Hid (D = strOfNums []) := hD
 clear hD
 have S0 : Hid (Sx w g a len cap ts w.heap.size (.slice none 0 0) [] w (s) [] (.slice none 0 0) [] []) := Sx.begin H.out
 have S1 : Hid (Sx w g a len cap ts w.heap.size (.slice none 0 0) [] (w.alloc (.cells #[.int .i64 0,.string { data := #[] },.int .i64 0,.int .i64 0,.int .i64 0,.int .i64 0,.string { data := #[] },.slice none 0 0] 28)) (s) [(w.heap.size,#[.int .i64 0,.string { data := #[] },.int .i64 0,.int .i64 0,.int .i64 0,.int .i64 0,.string { data := #[] },.slice none 0 0])] (.slice none 0 0) [] []) := S0.out.alloc _
 have hn_g : w.heap.size ≠ g := by omega
 have Q1 : Hid _ := rgisWord_any (show Hid (Gm (w.alloc (.cells #[.int .i64 0,.string { data := #[] },.int .i64 0,.int .i64 0,.int .i64 0,.int .i64 0,.string { data := #[] },.slice none 0 0] 28)) g a len cap ts (s)) from S1.out.gm) [111,112,116,105,111,110] (show byts _ by unfold byts; decide)
 rw [ho] at Q1
 go_enter Tryz.func112,Tryz.ntmps112
 go_wp2_with fail
 refine Calls.mono Q1.out ?_
 rintro e wi0 ⟨rfl,hbwi0⟩
 have S2 : Hid (Sx w g a len cap ts w.heap.size (.slice none 0 0) [] wi0 (s) [(w.heap.size,#[.int .i64 0,.string { data := #[] },.int .i64 0,.int .i64 0,.int .i64 0,.int .i64 0,.string { data := #[] },.slice none 0 0])] (.slice none 0 0) [] []) := S1.out.below hbwi0
 clear hbwi0 Q1
 have hz_wi0_0 : w.heap.size < wi0.heap.size := S2.out.ltAt 0 w.heap.size rfl
 have Q2 : Hid _ := rgisWord_any (show Hid (Gm wi0 g a len cap ts (s)) from S2.out.gm) [109,101,115,115,97,103,101] (show byts _ by unfold byts; decide)
 rw [hm] at Q2
 go_wp2_with fail
 refine Calls.mono Q2.out ?_
 rintro e wi1 ⟨rfl,hbwi1⟩
 have S3 : Hid (Sx w g a len cap ts w.heap.size (.slice none 0 0) [] wi1 (s) [(w.heap.size,#[.int .i64 0,.string { data := #[] },.int .i64 0,.int .i64 0,.int .i64 0,.int .i64 0,.string { data := #[] },.slice none 0 0])] (.slice none 0 0) [] []) := S2.out.below hbwi1
 clear hbwi1 Q2
 have hz_wi1_0 : w.heap.size < wi1.heap.size := S3.out.ltAt 0 w.heap.size rfl
 have Q3 : Hid _ := rgisWord_any (show Hid (Gm wi1 g a len cap ts (s)) from S3.out.gm) [101,110,117,109] (show byts _ by unfold byts; decide)
 rw [hen] at Q3
 go_wp2_with fail
 refine Calls.mono Q3.out ?_
 rintro e wi2 ⟨rfl,hbwi2⟩
 have S4 : Hid (Sx w g a len cap ts w.heap.size (.slice none 0 0) [] wi2 (s) [(w.heap.size,#[.int .i64 0,.string { data := #[] },.int .i64 0,.int .i64 0,.int .i64 0,.int .i64 0,.string { data := #[] },.slice none 0 0])] (.slice none 0 0) [] []) := S3.out.below hbwi2
 clear hbwi2 Q3
 have hz_wi2_0 : w.heap.size < wi2.heap.size := S4.out.ltAt 0 w.heap.size rfl
 have Q4 : Hid _ := rgisWord_any (show Hid (Gm wi2 g a len cap ts (s)) from S4.out.gm) [101,120,116,101,110,100] (show byts _ by unfold byts; decide)
 rw [hx] at Q4
 go_wp2_with fail
 refine Calls.mono Q4.out ?_
 rintro e wi3 ⟨rfl,hbwi3⟩
 have S5 : Hid (Sx w g a len cap ts w.heap.size (.slice none 0 0) [] wi3 (s) [(w.heap.size,#[.int .i64 0,.string { data := #[] },.int .i64 0,.int .i64 0,.int .i64 0,.int .i64 0,.string { data := #[] },.slice none 0 0])] (.slice none 0 0) [] []) := S4.out.below hbwi3
 clear hbwi3 Q4
 have hz_wi3_0 : w.heap.size < wi3.heap.size := S5.out.ltAt 0 w.heap.size rfl
 have Q5 : Hid _ := rgisWord_any (show Hid (Gm wi3 g a len cap ts (s)) from S5.out.gm) [111,110,101,111,102] (show byts _ by unfold byts; decide)
 rw [hon] at Q5
 go_wp2_with fail
 refine Calls.mono Q5.out ?_
 rintro e wi4 ⟨rfl,hbwi4⟩
 have S6 : Hid (Sx w g a len cap ts w.heap.size (.slice none 0 0) [] wi4 (s) [(w.heap.size,#[.int .i64 0,.string { data := #[] },.int .i64 0,.int .i64 0,.int .i64 0,.int .i64 0,.string { data := #[] },.slice none 0 0])] (.slice none 0 0) [] []) := S5.out.below hbwi4
 clear hbwi4 Q5
 have hz_wi4_0 : w.heap.size < wi4.heap.size := S6.out.ltAt 0 w.heap.size rfl
 have Q6 : Hid _ := rgisMap_any (show Hid (Gm wi4 g a len cap ts (s)) from S6.out.gm)
 rw [hmap] at Q6
 go_wp2_with fail
 refine Calls.mono Q6.out ?_
 rintro e wmp ⟨rfl,hbwmp⟩
 have S7 : Hid (Sx w g a len cap ts w.heap.size (.slice none 0 0) [] wmp (s) [(w.heap.size,#[.int .i64 0,.string { data := #[] },.int .i64 0,.int .i64 0,.int .i64 0,.int .i64 0,.string { data := #[] },.slice none 0 0])] (.slice none 0 0) [] []) := S6.out.below hbwmp
 clear hbwmp Q6
 have hz_wmp_0 : w.heap.size < wmp.heap.size := S7.out.ltAt 0 w.heap.size rfl
 have Q7 : Hid _ := rgisWord_any (show Hid (Gm wmp g a len cap ts (s)) from S7.out.gm) [101,120,116,101,110,115,105,111,110,115] (show byts _ by unfold byts; decide)
 rw [hexs] at Q7
 go_wp2_with fail
 refine Calls.mono Q7.out ?_
 rintro e wj0 ⟨rfl,hbwj0⟩
 have S8 : Hid (Sx w g a len cap ts w.heap.size (.slice none 0 0) [] wj0 (s) [(w.heap.size,#[.int .i64 0,.string { data := #[] },.int .i64 0,.int .i64 0,.int .i64 0,.int .i64 0,.string { data := #[] },.slice none 0 0])] (.slice none 0 0) [] []) := S7.out.below hbwj0
 clear hbwj0 Q7
 have hz_wj0_0 : w.heap.size < wj0.heap.size := S8.out.ltAt 0 w.heap.size rfl
 have Q8 : Hid _ := rgisWord_any (show Hid (Gm wj0 g a len cap ts (s)) from S8.out.gm) [114,101,115,101,114,118,101,100] (show byts _ by unfold byts; decide)
 rw [hre] at Q8
 go_wp2_with fail
 refine Calls.mono Q8.out ?_
 rintro e wj1 ⟨rfl,hbwj1⟩
 have S9 : Hid (Sx w g a len cap ts w.heap.size (.slice none 0 0) [] wj1 (s) [(w.heap.size,#[.int .i64 0,.string { data := #[] },.int .i64 0,.int .i64 0,.int .i64 0,.int .i64 0,.string { data := #[] },.slice none 0 0])] (.slice none 0 0) [] []) := S8.out.below hbwj1
 clear hbwj1 Q8
 have hz_wj1_0 : w.heap.size < wj1.heap.size := S9.out.ltAt 0 w.heap.size rfl
 have Q9 : Hid _ := rgfield_any0 (show Hid (Gm wj1 g a len cap ts (s)) from S9.out.gm) d hod HW true
 go_wp2_with fail
 refine Calls.mono Q9.out ?_
 rintro e wo hNwo
 obtain ⟨t,rfl,htp,hwo⟩ := S9.out.got hNwo
 obtain ⟨k2,tx2,n2,m2,a2,p2,dc2,ad2,cap2,ks2⟩ := t
 have S10 : Hid (Sx w g a len cap ts w.heap.size (.slice none 0 0) [] wo ((gfield ts d true s).2) [(w.heap.size,#[.int .i64 0,.string { data := #[] },.int .i64 0,.int .i64 0,.int .i64 0,.int .i64 0,.string { data := #[] },.slice none 0 0])] (.slice none 0 0) [] [Tn.mk k2 tx2 n2 m2 a2 p2 dc2 ad2 cap2 ks2]) := hwo
 have HTP2 : Hid ((Tn.mk k2 tx2 n2 m2 a2 p2 dc2 ad2 cap2 ks2).plain = (gfield ts d true s).1) := htp
 clear hNwo hwo htp Q9
 simp only [Tn.val,Tn.cells]
 obtain ⟨X2,hX2⟩ : ∃ X2,X2 = strOfNums tx2 := ⟨_,rfl⟩
 rw [← hX2]
 have HX2 : Hid (X2 = strOfNums tx2) := hX2
 clear hX2
 obtain ⟨D2,hD2⟩ : ∃ D2,D2 = strOfNums dc2 := ⟨_,rfl⟩
 rw [← hD2]
 have HD2 : Hid (D2 = strOfNums dc2) := hD2
 clear hD2
 obtain ⟨⟨ca00,ca01,ca02,ca03,ca04,ca05,ca06,ca07⟩,cb00,cb01,cb02,cb03,cb04,cb05,cb06,cb07⟩ := eight_cells (S10.out.eight 0 w.heap.size rfl)
 have hz_wo_0 : w.heap.size < wo.heap.size := S10.out.ltAt 0 w.heap.size rfl
 go_wp2
 refine S10.out.fin rfl 0 w.heap.size (.int .i64 0) (.string { data := #[] }) (.int .i64 0) (.int .i64 0) (.int .i64 0) (.int .i64 0) (.string { data := #[] }) (.slice none 0 0) (.int .i64 k2) (.string X2) (.int .i64 n2) (.int .i64 m2) (.int .i64 a2) (.int .i64 p2) (.string D2) (.slice ad2 ks2.length cap2) rfl rfl rfl ?_ ?_
 ·rw [Tn.cells,HX2.out,HD2.out]
 ·exact HTP2.out

end Go.Proofs.YtlekfcehmlepkaaGreatDoor
