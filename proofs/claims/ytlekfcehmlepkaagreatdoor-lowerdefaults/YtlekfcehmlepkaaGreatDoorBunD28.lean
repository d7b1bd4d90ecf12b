/- Put together by a program out of these texts of mine: SBody, STk. -/
import Derived.Test.YtlekfcehmlepkaaGreatDoorBunD27

namespace Go.Proofs.YtlekfcehmlepkaaGreatDoor
open Go.RowKit
set_option linter.unusedVariables false
set_option linter.unusedSimpArgs false

theorem gismap_eq {w : World} {g : Nat} {a : Option Addr} {len cap : Nat} {ts : List Tq} {s : Gs} (H : Gm w g a len cap ts s) : gisMap ts s = gismap ts s := by
 unfold gisMap gismap
 cases hm : gisw ts [109,97,112] s with
 | false => rfl
 | true =>
  have hi : s.i + 1 < ts.length := by
   have hk := (misw hm).2
   have h1 := H.lt
   have h2 : ts.length = len := H.tok.1
   by_cases hc : s.i + 1 < ts.length
   ·exact hc
   ·exfalso
    apply hk
    have hl := H.last
    unfold gnow
    rw [show s.i = len - 1 by omega]
    exact hl
  simp [hi]

theorem rgwithin_any0 {w : World} {g : Nat} {a : Option Addr} {len cap : Nat} {ts : List Tq} {s : Gs} (H : Hid (Gm w g a len cap ts s)) (d : Nat) (hod : s.op + d = 31) (HB : Hid (Bk0 g a len cap ts d)) (HW : Hid (Sim ts)) (kind : Int) (hk5 : kind = 5) (hkb : i64b kind) :
  Calls Tryz.prog 112 #[.pointer (some ⟨g,0,none⟩),.int .i64 kind] w (NodeRet w g a len cap ts (gwithin ts (gbody ts d) d kind s)) := by
 refine Calls.mono (R := NodeRet2 w g a len cap ts (.slice none 0 0) [] (gwithin ts (gbody ts d) d kind s)) ?_ (fun _ _ h => h.nil)
 have ho := HW.out.w_option s
 have h1 := HW.out.w_enum s
 have h3 := HW.out.w_extend s
 have h4 := HW.out.w_oneof s
 have h5 := HW.out.w_extensions s
 have h6 := HW.out.w_reserved s
 have h7 := HW.out.w_map s
 unfold gwithin
 rw [if_neg (by rw [ho]; simp),if_neg (by omega),if_neg (by omega),if_neg (by omega),if_neg (by omega),if_neg (by omega)]
 have e6 : (kind == 6) = false := by simp; omega
 have e11 : (kind == 11) = false := by simp; omega
 have e7 : (kind == 7) = false := by simp; omega
 have e8 : (kind == 8) = false := by simp; omega
 have e17 : (kind == 17) = false := by simp; omega
 clear hk5
 cases hm : gisw ts [109,101,115,115,97,103,101] s with
 | true => rw [if_pos (Or.inl rfl)]; exact wi_message0 H d hod HB HW hkb e6 e11 e7 e8 e17 ho hm
 | false =>
  have hmap : gismap ts s = false := by unfold gismap; rw [h7]; rfl
  rw [h1,h3,if_neg (by simp),if_neg (by rw [h4]; decide),gismap_eq H.out,if_neg (by rw [hmap]; decide),if_neg (by rw [h5]; decide),if_neg (by rw [h6]; decide)]
  exact wi_field0 H d hod HB HW hkb e6 e11 e7 e8 e17 ho hm h1 h3 h4 hmap h5 h6

def Ik0 (g : Nat) (a : Option Addr) (len cap : Nat) (ts : List Tq) (d : Nat) : Prop := ∀ (V : World) (s' : Gs) (kind : Int),kind = 5 → i64b kind → Gm V g a len cap ts s' → s'.op + d = 31 → Calls Tryz.prog 112 #[.pointer (some ⟨g,0,none⟩),.int .i64 kind] V (NodeRet V g a len cap ts (gwithin ts (gbody ts d) d kind s'))

set_option maxHeartbeats 8000000 in
theorem rgbody20 {w : World} {g : Nat} {a : Option Addr} {len cap : Nat} {ts : List Tq} {s : Gs} (H : Hid (Gm w g a len cap ts s)) (d : Nat) (hod : s.op + (d + 1 : Nat) = 31) (HI : Hid (1 ≤ d → Ik0 g a len cap ts d)) {base : Nat} (hgb : g < base) (hbw : base ≤ w.heap.size) {ad0 : Option Addr} {n0 c0 : Nat} {ks0 : List Tn} (HN : Hid (Ns w base (.slice ad0 n0 c0) ks0)) (hk0 : ks0.length ≤ 2) {nk nn nm na np : Int} {ntx ndc : List Int} (hk5 : nk = 5) (hnk : i64b nk) (hnn : i64b nn) (hnm : i64b nm) (hna : i64b na) (hnp : i64b np) (hnt : byts ntx ∧ ntx.length ≤ 100000) (hnd : byts ndc ∧ ndc.length ≤ 1000000) :
  Calls Tryz.prog 62 #[.pointer (some ⟨g,0,none⟩),.agg #[.int .i64 nk,.string (strOfNums ntx),.int .i64 nn,.int .i64 nm,.int .i64 na,.int .i64 np,.string (strOfNums ndc),.slice ad0 n0 c0]] w
   (NodeRet2 w g a len cap ts (.slice ad0 n0 c0) ks0 (.mk nk ntx nn nm na np ndc (plains ks0 ++ (gbody ts (d + 1) nk s).1),(gbody ts (d + 1) nk s).2)) := by
 have HK5 : Hid (nk = 5) := hk5
 clear hk5
 rw [gbody]
 simp only
 obtain ⟨R,hR⟩ : ∃ R,R = gbl ts (gwithin ts (gbody ts d) d nk) (2 * ts.length + 2) (gbrace ts s) [] := ⟨_,rfl⟩
 rw [← hR]
 have HR : Hid (R = gbl ts (gwithin ts (gbody ts d) d nk) (2 * ts.length + 2) (gbrace ts s) []) := hR
 clear hR
 have hg := H.out.blk.size
 have hL : ts.length = len := H.out.tok.1
 have hLb := H.out.tok.2.1
 have hlt0 := H.out.lt
 have HE : Hid (Ends ts) := by show (ts.getD (ts.length - 1) Tq.none).kind = 0; rw [hL]; exact H.out.last
 obtain ⟨NX,hNX⟩ : ∃ NX,NX = strOfNums ntx := ⟨_,rfl⟩
 obtain ⟨ND,hND⟩ : ∃ ND,ND = strOfNums ndc := ⟨_,rfl⟩
 rw [← hNX,← hND]
 have HNX : Hid (NX = strOfNums ntx) := hNX
 have HND : Hid (ND = strOfNums ndc) := hND
 clear hNX hND
 have HNk : Hid (i64b nk ∧ i64b nn ∧ i64b nm ∧ i64b na ∧ i64b np ∧ (byts ntx ∧ ntx.length ≤ 100000) ∧ byts ndc ∧ ndc.length ≤ 1000000) := ⟨hnk,hnn,hnm,hna,hnp,hnt,hnd⟩
 clear hnk hnn hnm hna hnp hnt hnd
 have HWi : Hid (Mf (gwithin ts (gbody ts d) d nk) 1) := mwithin HE.out (mbody HE.out d) d nk
 have HOR : Hid (R.2.op = s.op + 1) := by show _ = _; rw [HR.out,(mbl HE.out HWi.out _ _ []).op,(mbrace HE.out _).op]; omega
 have S1 : Hid (Sx w g a len cap ts base (.slice ad0 n0 c0) ks0 ((w.alloc (.cells #[.int .i64 nk,.string NX,.int .i64 nn,.int .i64 nm,.int .i64 na,.int .i64 np,.string ND,.slice ad0 n0 c0] 28)).alloc (.cells #[.int .i64 0,.string { data := #[] },.int .i64 0,.int .i64 0,.int .i64 0,.int .i64 0,.string { data := #[] },.slice none 0 0] 28)) (s) [(w.heap.size + 1,#[.int .i64 0,.string { data := #[] },.int .i64 0,.int .i64 0,.int .i64 0,.int .i64 0,.string { data := #[] },.slice none 0 0]),(w.heap.size,#[.int .i64 nk,.string NX,.int .i64 nn,.int .i64 nm,.int .i64 na,.int .i64 np,.string ND,.slice ad0 n0 c0])] (.slice ad0 n0 c0) ks0 []) := two_alloc (Sx.start H.out hgb hbw HN.out) _ _
 have QB : Hid _ := rgbrace_any (show Hid (Gm ((w.alloc (.cells #[.int .i64 nk,.string NX,.int .i64 nn,.int .i64 nm,.int .i64 na,.int .i64 np,.string ND,.slice ad0 n0 c0] 28)).alloc (.cells #[.int .i64 0,.string { data := #[] },.int .i64 0,.int .i64 0,.int .i64 0,.int .i64 0,.string { data := #[] },.slice none 0 0] 28)) g a len cap ts s) from S1.out.gm) (by omega)
 have HD1 : Hid ((gbrace ts s).e = 0 → 1 ≤ d) := fun h0 => by
  rcases Nat.eq_zero_or_pos d with h1 | h1
  ·exact absurd h0 (brace_deep ts s (by omega))
  ·exact h1
 have HO1 : Hid ((gbrace ts s).op + d = 31) := by show _ = _; rw [(mbrace HE.out s).op]; omega
 go_enter Tryz.func62,Tryz.ntmps62
 go_wp2_with fail
 refine Calls.mono QB.out ?_
 rintro e w1 ⟨rfl,hg1,H1⟩
 have S2 : Hid (Sx w g a len cap ts base (.slice ad0 n0 c0) ks0 w1 (gbrace ts s) [(w.heap.size + 1,#[.int .i64 0,.string { data := #[] },.int .i64 0,.int .i64 0,.int .i64 0,.int .i64 0,.string { data := #[] },.slice none 0 0]),(w.heap.size,#[.int .i64 nk,.string NX,.int .i64 nn,.int .i64 nm,.int .i64 na,.int .i64 np,.string ND,.slice ad0 n0 c0])] (.slice ad0 n0 c0) ks0 []) := S1.out.call hg1 H1
 clear hg1 H1
 go_wp2
 go_loopw [] (fun wr => ∃ (f : Nat) (s' : Gs) (acc : List Pn) (ks : List Tn) (va : Option Addr) (vn vc : Nat),Hid (Sx w g a len cap ts base (.slice ad0 n0 c0) ks0 wr (s') [(w.heap.size + 1,#[.int .i64 0,.string { data := #[] },.int .i64 0,.int .i64 0,.int .i64 0,.int .i64 0,.string { data := #[] },.slice none 0 0]),(w.heap.size,#[.int .i64 nk,.string NX,.int .i64 nn,.int .i64 nm,.int .i64 na,.int .i64 np,.string ND,.slice va vn vc])] (.slice va vn vc) ks []) ∧ Hid (plains ks = plains ks0 ++ acc) ∧ Hid (R = gbl ts (gwithin ts (gbody ts d) d nk) f s' acc) ∧ gmeas2 len s' < f ∧ Hid (s'.op + d = 31) ∧ Hid (s'.e = 0 → 1 ≤ d) ∧ Hid (s'.e = 0 → ks.length ≤ s'.i + 2) ∧ ks.length ≤ len + 2) (fun wr => gmeas len wr g)
 case atStart =>
  exact ⟨2 * ts.length + 2,gbrace ts s,[],ks0,ad0,n0,c0,S2,by show _ = _; simp,HR,by unfold gmeas2; split <;> omega,HO1,HD1,fun _ => by omega,by omega⟩
 case round =>
  obtain ⟨f,s',acc,ks,va,vn,vc,S3,HPl,HJ,hf,HOp,HD,HKi,hkl⟩ := hrel
  obtain ⟨f,rfl⟩ : ∃ f',f = f' + 1 := ⟨f - 1,by omega⟩
  have hlt := S3.out.gm.lt
  have HMr : Hid (gmeas len wr g = gmeas2 len s') := S3.out.gm.meas
  have hgr : g < wr.heap.size := S3.out.gm.blk.size
  obtain ⟨gc0,gc1,gc2,gc3,gc4,gc5⟩ := S3.out.gm.blk.cells
  have HJ' := HJ.out
  rw [gbl] at HJ'
  by_cases he : s'.e = 0
  ·have hf2 : 1 + (len - s'.i) < f + 1 := by unfold gmeas2 at hf; rw [if_pos he] at hf; exact hf
   rw [if_neg (by simpa using he)] at HJ'
   have HEe : Hid (s'.e = 0) := he
   rw [he] at gc4
   have QS : Hid _ := rgsign_any (show Hid (Gm wr g a len cap ts s') from S3.out.gm) [125] (show byts _ by unfold byts; decide)
   clear he hf
   cases hd1 : gis ts [125] s' with
   | true =>
    rw [if_pos hd1] at HJ'
    have HRx : Hid (R = (acc,gnext ts s')) := HJ'
    clear HJ'
    rw [hd1,gsign_on _ _ _ hd1] at QS
    go_wp2_with fail
    refine Calls.mono QS.out ?_
    rintro e w4 ⟨rfl,hg4,H4⟩
    have S7 : Hid (Sx w g a len cap ts base (.slice ad0 n0 c0) ks0 w4 (gnext ts s') [(w.heap.size + 1,#[.int .i64 0,.string { data := #[] },.int .i64 0,.int .i64 0,.int .i64 0,.int .i64 0,.string { data := #[] },.slice none 0 0]),(w.heap.size,#[.int .i64 nk,.string NX,.int .i64 nn,.int .i64 nm,.int .i64 na,.int .i64 np,.string ND,.slice va vn vc])] (.slice va vn vc) ks []) := S3.out.call hg4 H4
    clear hg4 H4 gc0 gc1 gc2 gc3 gc4 gc5
    have HOR2 : Hid (R.2.op = s.op + 1) := HOR
    have HST : Hid ((gnext ts s') = R.2) := by show _ = _; rw [HRx.out]
    have S8 : Hid (Sx w g a len cap ts base (.slice ad0 n0 c0) ks0 w4 (R.2) [(w.heap.size + 1,#[.int .i64 0,.string { data := #[] },.int .i64 0,.int .i64 0,.int .i64 0,.int .i64 0,.string { data := #[] },.slice none 0 0]),(w.heap.size,#[.int .i64 nk,.string NX,.int .i64 nn,.int .i64 nm,.int .i64 na,.int .i64 np,.string ND,.slice va vn vc])] (.slice va vn vc) ks []) := by rw [← HST.out]; exact S7.out
    clear S7 HST
    have hg8 : g < w4.heap.size := S8.out.gm.blk.size
    obtain ⟨c0',c1',c2',c3',c4',c5'⟩ := S8.out.gm.blk.cells
    clear c0' c1' c3' c4' c5'
    have f2 := S8.out.gm.blk.free 2
    have hop0 := S8.out.gm.op0
    have hop1 := S8.out.gm.op1
    obtain ⟨⟨i0,i1,i2,i3,i4,i5,i6,i7⟩,j0,j1,j2,j3,j4,j5,j6,j7⟩ := eight_cells (S8.out.eight 1 w.heap.size rfl)
    obtain ⟨⟨u0,u1,u2,u3,u4,u5,u6,u7⟩,t0,t1,t2,t3,t4,t5,t6,t7⟩ := eight_cells (S8.out.eight 0 (w.heap.size + 1) rfl)
    have hz1 : w.heap.size + 1 < w4.heap.size := S8.out.ltAt 0 (w.heap.size + 1) rfl
    have hz2 : w.heap.size < w4.heap.size := by omega
    have S9 : Hid (Sx w g a len cap ts base (.slice ad0 n0 c0) ks0 (w4.setCell ⟨g,2,none⟩ (.int .i64 (R.2.op - 1))) ({ R.2 with op := R.2.op - 1 }) [(w.heap.size + 1,#[.int .i64 0,.string { data := #[] },.int .i64 0,.int .i64 0,.int .i64 0,.int .i64 0,.string { data := #[] },.slice none 0 0]),(w.heap.size,#[.int .i64 nk,.string NX,.int .i64 nn,.int .i64 nm,.int .i64 na,.int .i64 np,.string ND,.slice va vn vc])] (.slice va vn vc) ks []) := S8.out.call (grown_set 2 _) (S8.out.gm.turn (grown_set 2 _) (set_heap' S8.out.gm.blk 2 _) S8.out.gm.lt (by show 0 ≤ R.2.op - 1; have := HOR2.out; have := H.out.op0; omega) (by show R.2.op - 1 ≤ 40; omega) S8.out.gm.pa S8.out.gm.e0 S8.out.gm.e1 S8.out.gm.n)
    have hw1 : IntKind.i64.wrap (R.2.op - 1) = R.2.op - 1 := wrap_small (by omega) (by omega)
    go_wp2
    obtain ⟨hk1,hk2,hk3,hk4,hk5,hk6,hk7⟩ := HNk.out
    obtain ⟨hn,S10⟩ := S9.out.close hk1 hk2 hk3 hk4 hk5 hk6 hk7
    refine S10.fin (m := (.mk nk ntx nn nm na np ndc (plains ks0 ++ R.1),{ R.2 with op := R.2.op - 1 })) rfl 0 (w.heap.size + 1) (.int .i64 0) (.string { data := #[] }) (.int .i64 0) (.int .i64 0) (.int .i64 0) (.int .i64 0) (.string { data := #[] }) (.slice none 0 0) (.int .i64 nk) (.string NX) (.int .i64 nn) (.int .i64 nm) (.int .i64 na) (.int .i64 np) (.string ND) (.slice va vn vc) rfl rfl rfl ?_ ?_
    ·rw [Tn.cells,HNX.out,HND.out,hn]
    ·rw [Tn.plain,HPl.out,HRx.out]
   | false =>
    rw [if_neg (by rw [hd1]; decide)] at HJ'
    rw [hd1,gsign_off _ _ _ hd1] at QS
    go_wp2_with fail
    refine Calls.mono QS.out ?_
    rintro e w4 ⟨rfl,hg4,H4⟩
    have S4 : Hid (Sx w g a len cap ts base (.slice ad0 n0 c0) ks0 w4 (s') [(w.heap.size + 1,#[.int .i64 0,.string { data := #[] },.int .i64 0,.int .i64 0,.int .i64 0,.int .i64 0,.string { data := #[] },.slice none 0 0]),(w.heap.size,#[.int .i64 nk,.string NX,.int .i64 nn,.int .i64 nm,.int .i64 na,.int .i64 np,.string ND,.slice va vn vc])] (.slice va vn vc) ks []) := S3.out.call hg4 H4
    have QC : Hid _ := rgsign_any (show Hid (Gm w4 g a len cap ts s') from H4) [59] b59
    clear hg4 H4 gc0 gc1 gc2 gc3 gc4 gc5 hgr
    cases hd2 : gis ts [59] s' with
    | true =>
     rw [if_pos hd2] at HJ'
     have HJ2 : Hid (R = gbl ts (gwithin ts (gbody ts d) d nk) f (gnext ts s') acc) := HJ'
     clear HJ'
     rw [hd2,gsign_on _ _ _ hd2] at QC
     have HMo : Hid (Mo s' (gnext ts s') 1 0) := mnext HE.out (mis hd2).2
     go_wp2_with fail
     refine Calls.mono QC.out ?_
     rintro e w5 ⟨rfl,hg5,H5⟩
     have S5 : Hid (Sx w g a len cap ts base (.slice ad0 n0 c0) ks0 w5 (gnext ts s') [(w.heap.size + 1,#[.int .i64 0,.string { data := #[] },.int .i64 0,.int .i64 0,.int .i64 0,.int .i64 0,.string { data := #[] },.slice none 0 0]),(w.heap.size,#[.int .i64 nk,.string NX,.int .i64 nn,.int .i64 nm,.int .i64 na,.int .i64 np,.string ND,.slice va vn vc])] (.slice va vn vc) ks []) := S4.out.call hg5 H5
     have hm5 := H5.meas
     have hl5 := H5.lt
     clear hg5 H5
     have HRel : Hid (gmeas2 len (gnext ts s') < f ∧ Hid ((gnext ts s').op + d = 31) ∧ Hid ((gnext ts s').e = 0 → 1 ≤ d) ∧ Hid ((gnext ts s').e = 0 → ks.length ≤ (gnext ts s').i + 2) ∧ ks.length ≤ len + 2) := ⟨by unfold gmeas2; split <;> first | omega | (rename_i h5; have := (HMo.out.e h5).2; omega),by show _ = _; rw [HMo.out.op]; have := HOp.out; omega,fun _ => HD.out HEe.out,fun h5 => by have := (HMo.out.e h5).2; have := HKi.out HEe.out; omega,hkl⟩
     go_wp2
     go_roundw
     case rel => first | exact ⟨f,gnext ts s',acc,ks,va,vn,vc,S5,HPl,HJ2,HRel.out⟩ | ((repeat apply Exists.intro); exact ⟨⟨f,gnext ts s',acc,ks,va,vn,vc,S5,HPl,HJ2,HRel.out⟩,rfl⟩)
     case measure => rw [hm5,HMr.out]; unfold gmeas2; rw [if_pos HEe.out]; split <;> first | omega | (rename_i h5; have := (HMo.out.e h5).2; omega)
    | false =>
     rw [if_neg (by rw [hd2]; decide)] at HJ'
     have HJ2 : Hid (R = gbl ts (gwithin ts (gbody ts d) d nk) f (gwithin ts (gbody ts d) d nk s').2 (acc ++ [(gwithin ts (gbody ts d) d nk s').1])) := HJ'
     clear HJ'
     rw [hd2,gsign_off _ _ _ hd2] at QC
     have hn1 : ks.length + 1 ≤ 2000000 := by omega
     go_wp2_with fail
     refine Calls.mono QC.out ?_
     rintro e w5 ⟨rfl,hg5,H5⟩
     have S5 : Hid (Sx w g a len cap ts base (.slice ad0 n0 c0) ks0 w5 (s') [(w.heap.size + 1,#[.int .i64 0,.string { data := #[] },.int .i64 0,.int .i64 0,.int .i64 0,.int .i64 0,.string { data := #[] },.slice none 0 0]),(w.heap.size,#[.int .i64 nk,.string NX,.int .i64 nn,.int .i64 nm,.int .i64 na,.int .i64 np,.string ND,.slice va vn vc])] (.slice va vn vc) ks []) := S4.out.call hg5 H5
     clear hg5 H5
     have QI : Hid _ := HI.out (HD.out HEe.out) w5.drew s' nk HK5.out HNk.out.1 (S5.out.drew 1).gm HOp.out
     have hz5 : w.heap.size + 1 < w5.heap.size := S5.out.ltAt 0 (w.heap.size + 1) rfl
     have hz5' : w.heap.size < w5.heap.size := by omega
     obtain ⟨⟨i0,i1,i2,i3,i4,i5,i6,i7⟩,j0,j1,j2,j3,j4,j5,j6,j7⟩ := eight_cells (S5.out.eight 1 w.heap.size rfl)
     go_wp2_with fail
     go_region_law (first
      | (go_simp; go_at_call 112; refine Calls.mono QI.out ?_; rintro e w7 hN7; obtain ⟨t,rfl,htp,h7⟩ := (S5.out.drew 1).got hN7; have S7 : Hid (Sx w g a len cap ts base (.slice ad0 n0 c0) ks0 w7 ((gwithin ts (gbody ts d) d nk s').2) [(w.heap.size + 1,#[.int .i64 0,.string { data := #[] },.int .i64 0,.int .i64 0,.int .i64 0,.int .i64 0,.string { data := #[] },.slice none 0 0]),(w.heap.size,#[.int .i64 nk,.string NX,.int .i64 nn,.int .i64 nm,.int .i64 na,.int .i64 np,.string ND,.slice va vn vc])] (.slice va vn vc) ks [t]) := h7; have HTP : Hid (t.plain = (gwithin ts (gbody ts d) d nk s').1) := htp; have hz7 : w.heap.size + 1 < w7.heap.size := S7.out.ltAt 0 (w.heap.size + 1) rfl; have hz7' : w.heap.size < w7.heap.size := (by omega); clear hN7 h7 htp; obtain ⟨⟨i0,i1,i2,i3,i4,i5,i6,i7⟩,j0,j1,j2,j3,j4,j5,j6,j7⟩ := eight_cells (S7.out.eight 1 w.heap.size rfl); obtain ⟨k2,tx2,n2,m2,a2,p2,dc2,ad2,cap2,ks2⟩ := t; simp only [Tn.val,Tn.cells]; obtain ⟨X2,hX2⟩ : ∃ X2,X2 = strOfNums tx2 := ⟨_,rfl⟩; obtain ⟨D2,hD2⟩ : ∃ D2,D2 = strOfNums dc2 := ⟨_,rfl⟩; rw [← hX2,← hD2]; have HX2 : Hid (X2 = strOfNums tx2) := hX2; have HD2 : Hid (D2 = strOfNums dc2) := hD2; clear hX2 hD2)
      | (refine Sx.append_step (b := w7.heap.size) (cp := 1) (c := #[.int .i64 k2,.string X2,.int .i64 n2,.int .i64 m2,.int .i64 a2,.int .i64 p2,.string D2,.slice ad2 ks2.length cap2]) (S7.out.alloc _) (by rw [HX2.out,HD2.out]; rfl) (by rfl) (.tmp 20) (.tmp 25) (by rfl) (by rfl) (by rfl) hn1 ?_; intro vd ve w9 h9; have S9 : Hid _ := h9; have hz9 : w.heap.size + 1 < w9.heap.size := h9.ltAt 0 (w.heap.size + 1) rfl; have hz9' : w.heap.size < w9.heap.size := (by omega); obtain ⟨⟨i0,i1,i2,i3,i4,i5,i6,i7⟩,j0,j1,j2,j3,j4,j5,j6,j7⟩ := eight_cells (h9.eight 1 w.heap.size rfl); clear h9))
     all_goals
      have S10 : Hid (Sx w g a len cap ts base (.slice ad0 n0 c0) ks0 (w9.setCell ⟨w.heap.size,7,none⟩ (.slice vd (ks.length + 1) ve)) ((gwithin ts (gbody ts d) d nk s').2) [(w.heap.size + 1,#[.int .i64 0,.string { data := #[] },.int .i64 0,.int .i64 0,.int .i64 0,.int .i64 0,.string { data := #[] },.slice none 0 0]),(w.heap.size,#[.int .i64 nk,.string NX,.int .i64 nn,.int .i64 nm,.int .i64 na,.int .i64 np,.string ND,.slice vd (ks.length + 1) ve])] (.slice vd (ks.length + 1) ve) (ks ++ [Tn.mk k2 tx2 n2 m2 a2 p2 dc2 ad2 cap2 ks2]) []) := S9.out.set 1 w.heap.size _ rfl 7 _
      have HPt : Hid (plains (ks ++ [Tn.mk k2 tx2 n2 m2 a2 p2 dc2 ad2 cap2 ks2]) = plains ks0 ++ (acc ++ [(gwithin ts (gbody ts d) d nk s').1])) := by show _ = _; rw [plains_append,HPl.out,plains,plains,HTP.out,List.append_assoc]
      have HMo : Hid (Mo s' (gwithin ts (gbody ts d) d nk s').2 1 0) := HWi.out s'
      have hm10 := S10.out.gm.meas
      have hl10 := S10.out.gm.lt
      have HRel : Hid (gmeas2 len (gwithin ts (gbody ts d) d nk s').2 < f ∧ Hid ((gwithin ts (gbody ts d) d nk s').2.op + d = 31) ∧ Hid ((gwithin ts (gbody ts d) d nk s').2.e = 0 → 1 ≤ d) ∧ Hid ((gwithin ts (gbody ts d) d nk s').2.e = 0 → (ks ++ [Tn.mk k2 tx2 n2 m2 a2 p2 dc2 ad2 cap2 ks2]).length ≤ (gwithin ts (gbody ts d) d nk s').2.i + 2) ∧ (ks ++ [Tn.mk k2 tx2 n2 m2 a2 p2 dc2 ad2 cap2 ks2]).length ≤ len + 2) := ⟨by unfold gmeas2; split <;> first | omega | (rename_i h5; have := (HMo.out.e h5).2; omega),by show _ = _; rw [HMo.out.op]; have := HOp.out; omega,fun _ => HD.out HEe.out,fun h5 => by have := (HMo.out.e h5).2; have := HKi.out HEe.out; simp; omega,by have := HKi.out HEe.out; simp; omega⟩
      go_wp2
      go_roundw
      case rel => first | exact ⟨f,(gwithin ts (gbody ts d) d nk s').2,acc ++ [(gwithin ts (gbody ts d) d nk s').1],(ks ++ [Tn.mk k2 tx2 n2 m2 a2 p2 dc2 ad2 cap2 ks2]),vd,ks.length + 1,ve,S10,HPt,HJ2,HRel.out⟩ | ((repeat apply Exists.intro); exact ⟨⟨f,(gwithin ts (gbody ts d) d nk s').2,acc ++ [(gwithin ts (gbody ts d) d nk s').1],(ks ++ [Tn.mk k2 tx2 n2 m2 a2 p2 dc2 ad2 cap2 ks2]),vd,ks.length + 1,ve,S10,HPt,HJ2,HRel.out⟩,rfl⟩)
      case measure => rw [hm10,HMr.out]; unfold gmeas2; rw [if_pos HEe.out]; split <;> first | omega | (rename_i h5; have := (HMo.out.e h5).2; omega)
  ·rw [if_pos he] at HJ'
   have HRx : Hid (R = (acc,s')) := HJ'
   clear HJ'
   have e1 : (s'.e == 0) = false := by simpa using he
   have S7 : Hid (Sx w g a len cap ts base (.slice ad0 n0 c0) ks0 wr (s') [(w.heap.size + 1,#[.int .i64 0,.string { data := #[] },.int .i64 0,.int .i64 0,.int .i64 0,.int .i64 0,.string { data := #[] },.slice none 0 0]),(w.heap.size,#[.int .i64 nk,.string NX,.int .i64 nn,.int .i64 nm,.int .i64 na,.int .i64 np,.string ND,.slice va vn vc])] (.slice va vn vc) ks []) := S3
   clear hf gc0 gc1 gc2 gc3 gc5
   have HOR2 : Hid (R.2.op = s.op + 1) := HOR
   have HST : Hid ((s') = R.2) := by show _ = _; rw [HRx.out]
   have S8 : Hid (Sx w g a len cap ts base (.slice ad0 n0 c0) ks0 wr (R.2) [(w.heap.size + 1,#[.int .i64 0,.string { data := #[] },.int .i64 0,.int .i64 0,.int .i64 0,.int .i64 0,.string { data := #[] },.slice none 0 0]),(w.heap.size,#[.int .i64 nk,.string NX,.int .i64 nn,.int .i64 nm,.int .i64 na,.int .i64 np,.string ND,.slice va vn vc])] (.slice va vn vc) ks []) := by rw [← HST.out]; exact S7.out
   clear S7 HST
   have hg8 : g < wr.heap.size := S8.out.gm.blk.size
   obtain ⟨c0',c1',c2',c3',c4',c5'⟩ := S8.out.gm.blk.cells
   clear c0' c1' c3' c4' c5'
   have f2 := S8.out.gm.blk.free 2
   have hop0 := S8.out.gm.op0
   have hop1 := S8.out.gm.op1
   obtain ⟨⟨i0,i1,i2,i3,i4,i5,i6,i7⟩,j0,j1,j2,j3,j4,j5,j6,j7⟩ := eight_cells (S8.out.eight 1 w.heap.size rfl)
   obtain ⟨⟨u0,u1,u2,u3,u4,u5,u6,u7⟩,t0,t1,t2,t3,t4,t5,t6,t7⟩ := eight_cells (S8.out.eight 0 (w.heap.size + 1) rfl)
   have hz1 : w.heap.size + 1 < wr.heap.size := S8.out.ltAt 0 (w.heap.size + 1) rfl
   have hz2 : w.heap.size < wr.heap.size := by omega
   have S9 : Hid (Sx w g a len cap ts base (.slice ad0 n0 c0) ks0 (wr.setCell ⟨g,2,none⟩ (.int .i64 (R.2.op - 1))) ({ R.2 with op := R.2.op - 1 }) [(w.heap.size + 1,#[.int .i64 0,.string { data := #[] },.int .i64 0,.int .i64 0,.int .i64 0,.int .i64 0,.string { data := #[] },.slice none 0 0]),(w.heap.size,#[.int .i64 nk,.string NX,.int .i64 nn,.int .i64 nm,.int .i64 na,.int .i64 np,.string ND,.slice va vn vc])] (.slice va vn vc) ks []) := S8.out.call (grown_set 2 _) (S8.out.gm.turn (grown_set 2 _) (set_heap' S8.out.gm.blk 2 _) S8.out.gm.lt (by show 0 ≤ R.2.op - 1; have := HOR2.out; have := H.out.op0; omega) (by show R.2.op - 1 ≤ 40; omega) S8.out.gm.pa S8.out.gm.e0 S8.out.gm.e1 S8.out.gm.n)
   have hw1 : IntKind.i64.wrap (R.2.op - 1) = R.2.op - 1 := wrap_small (by omega) (by omega)
   go_wp2
   obtain ⟨hk1,hk2,hk3,hk4,hk5,hk6,hk7⟩ := HNk.out
   obtain ⟨hn,S10⟩ := S9.out.close hk1 hk2 hk3 hk4 hk5 hk6 hk7
   refine S10.fin (m := (.mk nk ntx nn nm na np ndc (plains ks0 ++ R.1),{ R.2 with op := R.2.op - 1 })) rfl 0 (w.heap.size + 1) (.int .i64 0) (.string { data := #[] }) (.int .i64 0) (.int .i64 0) (.int .i64 0) (.int .i64 0) (.string { data := #[] }) (.slice none 0 0) (.int .i64 nk) (.string NX) (.int .i64 nn) (.int .i64 nm) (.int .i64 na) (.int .i64 np) (.string ND) (.slice va vn vc) rfl rfl rfl ?_ ?_
   ·rw [Tn.cells,HNX.out,HND.out,hn]
   ·rw [Tn.plain,HPl.out,HRx.out]

theorem rgbody_all0 {g : Nat} {a : Option Addr} {len cap : Nat} {ts : List Tq} (HS : Sim ts) : ∀ d : Nat,1 ≤ d → Bk0 g a len cap ts d
 | 0,h => absurd h (by decide)
 | d + 1,_ => fun V s' hG ho base ad0 n0 c0 ks0 h1 h2 h3 h4 nk nn nm na np ntx ndc k5 b1 b2 b3 b4 b5 b6 b7 => rgbody20 (show Hid (Gm V g a len cap ts s') from hG) d ho (fun h V2 s2 kind k5 hk hG2 ho2 => rgwithin_any0 (show Hid (Gm V2 g a len cap ts s2) from hG2) d ho2 (rgbody_all0 HS d h) HS kind k5 hk) h1 h2 h3 h4 k5 b1 b2 b3 b4 b5 b6 b7

noncomputable def tkbody : Code := Tryz.f23.body.getD .skip

noncomputable def tkX : Code := pR (pR (pR (pR (pR tkbody))))

noncomputable def tkloop : Code := pIn (pL (pR (pR tkX)))

noncomputable def tkend : Code := pR (pR (pR tkX))

noncomputable def tkhead : Code := pL (pIn tkloop)

noncomputable def tkB : Code := pIn (pR (pIn tkloop))

noncomputable def tkc15 : Code := pL tkB

noncomputable def tkc16 : Code := pL (pR tkB)

noncomputable def tkR20 : Code := pR (pR tkB)

def Qn (N : Act → World → Prop) : Exit → Act → World → Prop
 | .normal,a,w => N a w
 | _,_,_ => False

theorem wp_strong {c : Code} {a : Act} {w : World} {N : Act → World → Prop} {Q : Exit → Act → World → Prop} (h : c.wp Tryz.prog (Qn N) a w) (hN : ∀ a w,N a w → Q .normal a w) : c.wp Tryz.prog Q a w := fun b k cs => by
 obtain ⟨e,a',w',q,r⟩ := h b k cs
 refine ⟨e,a',w',?_,r⟩
 cases e with
 | normal => exact hN a' w' q
 | _ => exact q.elim

theorem tkloop_eq : tkloop = .loop (.seq tkhead (.block 1 (.seq tkc15 (.seq tkc16 tkR20)))) := rfl

set_option maxRecDepth 100000 in
def RT (g rb nb : Nat) (a : Option Addr) (len cap : Nat) (pk : Int) (us : Nat → Value) : Act := { tmps := List.toArray (.slice a len cap :: us 1 :: .pointer (some ⟨rb,0,none⟩) :: .int .i64 0 :: .int .i64 0 :: .pointer (some ⟨g,0,none⟩) :: .pointer (some ⟨nb,0,none⟩) :: us 7 :: .int .i64 pk :: us 9 :: us 10 :: us 11 :: us 12 :: us 13 :: us 14 :: us 15 :: us 16 :: us 17 :: us 18 :: us 19 :: us 20 :: us 21 :: us 22 :: us 23 :: us 24 :: us 25 :: us 26 :: us 27 :: us 28 :: us 29 :: us 30 :: us 31 :: us 32 :: us 33 :: us 34 :: us 35 :: us 36 :: us 37 :: us 38 :: us 39 :: us 40 :: us 41 :: us 42 :: us 43 :: us 44 :: us 45 :: us 46 :: us 47 :: us 48 :: us 49 :: us 50 :: us 51 :: us 52 :: us 53 :: us 54 :: us 55 :: us 56 :: us 57 :: us 58 :: us 59 :: us 60 :: us 61 :: us 62 :: us 63 :: us 64 :: us 65 :: us 66 :: us 67 :: us 68 :: us 69 :: us 70 :: us 71 :: us 72 :: us 73 :: us 74 :: us 75 :: us 76 :: us 77 :: us 78 :: us 79 :: us 80 :: us 81 :: us 82 :: us 83 :: us 84 :: us 85 :: us 86 :: us 87 :: us 88 :: us 89 :: us 90 :: us 91 :: us 92 :: us 93 :: us 94 :: us 95 :: us 96 :: us 97 :: us 98 :: us 99 :: us 100 :: us 101 :: us 102 :: []),defers := [] }

theorem RT.mk {g rb nb : Nat} {a : Option Addr} {len cap : Nat} {pk : Int} {a' : Act} (us : Nat → Value) (_hu : us = fun k => a'.tmps.getD k undef) (h : a' = RT g rb nb a len cap pk us) : ∃ us,a' = RT g rb nb a len cap pk us := ⟨us,h⟩

set_option maxRecDepth 100000 in
set_option maxHeartbeats 4000000 in
theorem tkh_err {w : World} {g : Nat} {a : Option Addr} {len cap : Nat} {ts : List Tq} {W : World} {s : Gs} {rb nb : Nat} {va : Option Addr} {vn vc : Nat} {ks : List Tn} {np : Int} {X : ByteArray} {pk : Int} (us : Nat → Value) (S0 : Hid (Sx w g a len cap ts w.heap.size (.slice none 0 0) [] W (s) [(nb,#[.int .i64 1,.string X,.int .i64 0,.int .i64 0,.int .i64 0,.int .i64 np,.string { data := #[] },.slice va vn vc])] (.slice va vn vc) ks [])) (hd : ¬ s.e = 0) :
  ∀ Q : Exit → Act → World → Prop,(∀ a' W',Sx w g a len cap ts w.heap.size (.slice none 0 0) [] W' (s) [(nb,#[.int .i64 1,.string X,.int .i64 0,.int .i64 0,.int .i64 0,.int .i64 np,.string { data := #[] },.slice va vn vc])] (.slice va vn vc) ks [] → (∃ us,a' = RT g rb nb a len cap (pk) us) → Q (.exit 0) a' W') → tkhead.wp Tryz.prog Q (RT g rb nb a len cap (pk) us) W := by
 intro Q hN
 have HN : Hid _ := hN
 clear hN
 obtain ⟨c0,c1,c2,c3,c4,c5⟩ := S0.out.gm.blk.cells
 have hgz := S0.out.gm.blk.size
 have e1 : (s.e == 0) = false := by simpa using hd
 unfold RT
 conv => arg 2; whnf
 go_wp2
 exact HN.out _ _ S0.out (RT.mk _ rfl rfl)

set_option maxRecDepth 100000 in
set_option maxHeartbeats 4000000 in
theorem tkh_end {w : World} {g : Nat} {a : Option Addr} {len cap : Nat} {ts : List Tq} {W : World} {s : Gs} {rb nb : Nat} {va : Option Addr} {vn vc : Nat} {ks : List Tn} {np : Int} {X : ByteArray} {pk : Int} (us : Nat → Value) (S0 : Hid (Sx w g a len cap ts w.heap.size (.slice none 0 0) [] W (s) [(nb,#[.int .i64 1,.string X,.int .i64 0,.int .i64 0,.int .i64 0,.int .i64 np,.string { data := #[] },.slice va vn vc])] (.slice va vn vc) ks [])) (hd : s.e = 0 ∧ (gnow ts s).kind = 0) :
  ∀ Q : Exit → Act → World → Prop,(∀ a' W',Sx w g a len cap ts w.heap.size (.slice none 0 0) [] W' (s) [(nb,#[.int .i64 1,.string X,.int .i64 0,.int .i64 0,.int .i64 0,.int .i64 np,.string { data := #[] },.slice va vn vc])] (.slice va vn vc) ks [] → (∃ us,a' = RT g rb nb a len cap (pk) us) → Q (.exit 0) a' W') → tkhead.wp Tryz.prog Q (RT g rb nb a len cap (pk) us) W := by
 intro Q hN
 have HN : Hid _ := hN
 clear hN
 obtain ⟨c0,c1,c2,c3,c4,c5⟩ := S0.out.gm.blk.cells
 have hgz := S0.out.gm.blk.size
 have e0 := hd.1
 rw [e0] at c4
 have HQn : Hid (∀ V,Gm V g a len cap ts s → Calls Tryz.prog 38 #[.pointer (some ⟨g,0,none⟩)] V fun e w' => e = .returned (gnow ts s).val ∧ Below V.heap.size V w') := fun V hV => rgnow_any (show Hid (Gm V g a len cap ts s) from hV)
 obtain ⟨q,hq⟩ : ∃ q,q = gnow ts s := ⟨_,rfl⟩
 rw [← hq] at HQn hd
 clear hq
 obtain ⟨kind,text,n,pos,doc⟩ := q
 change Hid (∀ V,Gm V g a len cap ts s → Calls Tryz.prog 38 #[.pointer (some ⟨g,0,none⟩)] V fun e w' => e = .returned (.agg #[.int .i64 kind,.string (strOfNums text),.int .u64 n,.int .i64 pos,.string (strOfNums doc)]) ∧ Below V.heap.size V w') at HQn
 simp only at hd
 have l0 := fun W => tq_fld0 (.int .i64 kind) (.string (strOfNums text)) (.int .u64 n) (.int .i64 pos) (.string (strOfNums doc)) W
 generalize strOfNums text = T1 at *
 generalize strOfNums doc = T2 at *
 have e4 : (kind != 0) = false := by simpa using hd.2
 clear hd e0
 unfold RT
 conv => arg 2; whnf
 have Qa : Hid _ := HQn.out _ S0.out.gm
 go_wp2_with fail
 refine Calls.mono Qa.out ?_
 rintro e w1 ⟨rfl,hbw1⟩
 have S1 : Hid (Sx w g a len cap ts w.heap.size (.slice none 0 0) [] w1 (s) [(nb,#[.int .i64 1,.string X,.int .i64 0,.int .i64 0,.int .i64 0,.int .i64 np,.string { data := #[] },.slice va vn vc])] (.slice va vn vc) ks []) := S0.out.below hbw1
 clear hbw1 Qa
 go_wp2
 exact HN.out _ _ S1.out (RT.mk _ rfl rfl)

set_option maxRecDepth 100000 in
set_option maxHeartbeats 4000000 in
theorem tkh_on {w : World} {g : Nat} {a : Option Addr} {len cap : Nat} {ts : List Tq} {W : World} {s : Gs} {rb nb : Nat} {va : Option Addr} {vn vc : Nat} {ks : List Tn} {np : Int} {X : ByteArray} {pk : Int} (us : Nat → Value) (S0 : Hid (Sx w g a len cap ts w.heap.size (.slice none 0 0) [] W (s) [(nb,#[.int .i64 1,.string X,.int .i64 0,.int .i64 0,.int .i64 0,.int .i64 np,.string { data := #[] },.slice va vn vc])] (.slice va vn vc) ks [])) (hd : s.e = 0 ∧ ¬ (gnow ts s).kind = 0) :
  ∀ Q : Exit → Act → World → Prop,(∀ a' W',Sx w g a len cap ts w.heap.size (.slice none 0 0) [] W' (s) [(nb,#[.int .i64 1,.string X,.int .i64 0,.int .i64 0,.int .i64 0,.int .i64 np,.string { data := #[] },.slice va vn vc])] (.slice va vn vc) ks [] → (∃ us,a' = RT g rb nb a len cap (pk) us) → Q .normal a' W') → tkhead.wp Tryz.prog Q (RT g rb nb a len cap (pk) us) W := by
 intro Q hN
 have HN : Hid _ := hN
 clear hN
 obtain ⟨c0,c1,c2,c3,c4,c5⟩ := S0.out.gm.blk.cells
 have hgz := S0.out.gm.blk.size
 have e0 := hd.1
 rw [e0] at c4
 have HQn : Hid (∀ V,Gm V g a len cap ts s → Calls Tryz.prog 38 #[.pointer (some ⟨g,0,none⟩)] V fun e w' => e = .returned (gnow ts s).val ∧ Below V.heap.size V w') := fun V hV => rgnow_any (show Hid (Gm V g a len cap ts s) from hV)
 obtain ⟨q,hq⟩ : ∃ q,q = gnow ts s := ⟨_,rfl⟩
 rw [← hq] at HQn hd
 clear hq
 obtain ⟨kind,text,n,pos,doc⟩ := q
 change Hid (∀ V,Gm V g a len cap ts s → Calls Tryz.prog 38 #[.pointer (some ⟨g,0,none⟩)] V fun e w' => e = .returned (.agg #[.int .i64 kind,.string (strOfNums text),.int .u64 n,.int .i64 pos,.string (strOfNums doc)]) ∧ Below V.heap.size V w') at HQn
 simp only at hd
 have l0 := fun W => tq_fld0 (.int .i64 kind) (.string (strOfNums text)) (.int .u64 n) (.int .i64 pos) (.string (strOfNums doc)) W
 generalize strOfNums text = T1 at *
 generalize strOfNums doc = T2 at *
 have e4 : (kind != 0) = true := by simpa using hd.2
 clear hd e0
 unfold RT
 conv => arg 2; whnf
 have Qa : Hid _ := HQn.out _ S0.out.gm
 go_wp2_with fail
 refine Calls.mono Qa.out ?_
 rintro e w1 ⟨rfl,hbw1⟩
 have S1 : Hid (Sx w g a len cap ts w.heap.size (.slice none 0 0) [] w1 (s) [(nb,#[.int .i64 1,.string X,.int .i64 0,.int .i64 0,.int .i64 0,.int .i64 np,.string { data := #[] },.slice va vn vc])] (.slice va vn vc) ks []) := S0.out.below hbw1
 clear hbw1 Qa
 go_wp2
 exact HN.out _ _ S1.out (RT.mk _ rfl rfl)

set_option maxRecDepth 100000 in
set_option maxHeartbeats 4000000 in
theorem tk15_true {w : World} {g : Nat} {a : Option Addr} {len cap : Nat} {ts : List Tq} {W : World} {s : Gs} {rb nb : Nat} {va : Option Addr} {vn vc : Nat} {ks : List Tn} {np : Int} {X : ByteArray} {pk : Int} (us : Nat → Value) (S0 : Hid (Sx w g a len cap ts w.heap.size (.slice none 0 0) [] W (s) [(nb,#[.int .i64 1,.string X,.int .i64 0,.int .i64 0,.int .i64 0,.int .i64 np,.string { data := #[] },.slice va vn vc])] (.slice va vn vc) ks [])) (hd : gis ts [59] s = true) :
  ∀ Q : Exit → Act → World → Prop,(∀ a' W',Sx w g a len cap ts w.heap.size (.slice none 0 0) [] W' (gnext ts s) [(nb,#[.int .i64 1,.string X,.int .i64 0,.int .i64 0,.int .i64 0,.int .i64 np,.string { data := #[] },.slice va vn vc])] (.slice va vn vc) ks [] → (∃ us,a' = RT g rb nb a len cap (pk) us) → Q (.exit 1) a' W') → tkc15.wp Tryz.prog Q (RT g rb nb a len cap (pk) us) W := by
 intro Q hN
 have HN : Hid _ := hN
 clear hN
 have Q0 : Hid _ := rgsign_any (show Hid (Gm W g a len cap ts (s)) from S0.out.gm) [59] b59
 rw [hd,gsign_on _ _ _ hd] at Q0
 unfold RT
 conv => arg 2; whnf
 go_wp2_with fail
 refine Calls.mono Q0.out ?_
 rintro e w1 ⟨rfl,hgw1,Hw1⟩
 have S1 : Hid (Sx w g a len cap ts w.heap.size (.slice none 0 0) [] w1 (gnext ts s) [(nb,#[.int .i64 1,.string X,.int .i64 0,.int .i64 0,.int .i64 0,.int .i64 np,.string { data := #[] },.slice va vn vc])] (.slice va vn vc) ks []) := S0.out.call hgw1 Hw1
 clear hgw1 Hw1 Q0
 go_wp2
 exact HN.out _ _ S1.out (RT.mk _ rfl rfl)

set_option maxRecDepth 100000 in
set_option maxHeartbeats 4000000 in
theorem tk15_false {w : World} {g : Nat} {a : Option Addr} {len cap : Nat} {ts : List Tq} {W : World} {s : Gs} {rb nb : Nat} {va : Option Addr} {vn vc : Nat} {ks : List Tn} {np : Int} {X : ByteArray} {pk : Int} (us : Nat → Value) (S0 : Hid (Sx w g a len cap ts w.heap.size (.slice none 0 0) [] W (s) [(nb,#[.int .i64 1,.string X,.int .i64 0,.int .i64 0,.int .i64 0,.int .i64 np,.string { data := #[] },.slice va vn vc])] (.slice va vn vc) ks [])) (hd : gis ts [59] s = false) :
  ∀ Q : Exit → Act → World → Prop,(∀ a' W',Sx w g a len cap ts w.heap.size (.slice none 0 0) [] W' (s) [(nb,#[.int .i64 1,.string X,.int .i64 0,.int .i64 0,.int .i64 0,.int .i64 np,.string { data := #[] },.slice va vn vc])] (.slice va vn vc) ks [] → (∃ us,a' = RT g rb nb a len cap (pk) us) → Q .normal a' W') → tkc15.wp Tryz.prog Q (RT g rb nb a len cap (pk) us) W := by
 intro Q hN
 have HN : Hid _ := hN
 clear hN
 have Q0 : Hid _ := rgsign_any (show Hid (Gm W g a len cap ts (s)) from S0.out.gm) [59] b59
 rw [hd,gsign_off _ _ _ hd] at Q0
 unfold RT
 conv => arg 2; whnf
 go_wp2_with fail
 refine Calls.mono Q0.out ?_
 rintro e w1 ⟨rfl,hgw1,Hw1⟩
 have S1 : Hid (Sx w g a len cap ts w.heap.size (.slice none 0 0) [] w1 (s) [(nb,#[.int .i64 1,.string X,.int .i64 0,.int .i64 0,.int .i64 0,.int .i64 np,.string { data := #[] },.slice va vn vc])] (.slice va vn vc) ks []) := S0.out.call hgw1 Hw1
 clear hgw1 Hw1 Q0
 go_wp2
 exact HN.out _ _ S1.out (RT.mk _ rfl rfl)

set_option maxRecDepth 100000 in
set_option maxHeartbeats 4000000 in
theorem tk16_no {w : World} {g : Nat} {a : Option Addr} {len cap : Nat} {ts : List Tq} {W : World} {s : Gs} {rb nb : Nat} {va : Option Addr} {vn vc : Nat} {ks : List Tn} {np : Int} {X : ByteArray} {pk : Int} (us : Nat → Value) (S0 : Hid (Sx w g a len cap ts w.heap.size (.slice none 0 0) [] W (s) [(nb,#[.int .i64 1,.string X,.int .i64 0,.int .i64 0,.int .i64 0,.int .i64 np,.string { data := #[] },.slice va vn vc])] (.slice va vn vc) ks [])) (hd : gisw ts [112,97,99,107,97,103,101] s = false) :
  ∀ Q : Exit → Act → World → Prop,(∀ a' W',Sx w g a len cap ts w.heap.size (.slice none 0 0) [] W' (s) [(nb,#[.int .i64 1,.string X,.int .i64 0,.int .i64 0,.int .i64 0,.int .i64 np,.string { data := #[] },.slice va vn vc])] (.slice va vn vc) ks [] → (∃ us,a' = RT g rb nb a len cap (pk) us) → Q .normal a' W') → tkc16.wp Tryz.prog Q (RT g rb nb a len cap (pk) us) W := by
 intro Q hN
 have HN : Hid _ := hN
 clear hN
 have Q0 : Hid _ := rgisWord_any (show Hid (Gm W g a len cap ts (s)) from S0.out.gm) [112,97,99,107,97,103,101] (show byts _ by unfold byts; decide)
 rw [hd] at Q0
 unfold RT
 conv => arg 2; whnf
 go_wp2_with fail
 refine Calls.mono Q0.out ?_
 rintro e w1 ⟨rfl,hbw1⟩
 have S1 : Hid (Sx w g a len cap ts w.heap.size (.slice none 0 0) [] w1 (s) [(nb,#[.int .i64 1,.string X,.int .i64 0,.int .i64 0,.int .i64 0,.int .i64 np,.string { data := #[] },.slice va vn vc])] (.slice va vn vc) ks []) := S0.out.below hbw1
 clear hbw1 Q0
 go_wp2
 exact HN.out _ _ S1.out (RT.mk _ rfl rfl)

set_option maxRecDepth 100000 in
set_option maxHeartbeats 4000000 in
theorem tk16_one {w : World} {g : Nat} {a : Option Addr} {len cap : Nat} {ts : List Tq} {W : World} {s : Gs} {rb nb : Nat} {va : Option Addr} {vn vc : Nat} {ks : List Tn} {np : Int} {X : ByteArray} {pk : Int} (us : Nat → Value) (S0 : Hid (Sx w g a len cap ts w.heap.size (.slice none 0 0) [] W (s) [(nb,#[.int .i64 1,.string X,.int .i64 0,.int .i64 0,.int .i64 0,.int .i64 np,.string { data := #[] },.slice va vn vc])] (.slice va vn vc) ks [])) (hd : gisw ts [112,97,99,107,97,103,101] s = true) (hp : pk = 0) :
  ∀ Q : Exit → Act → World → Prop,(∀ a' W',Sx w g a len cap ts w.heap.size (.slice none 0 0) [] W' (s) [(nb,#[.int .i64 1,.string X,.int .i64 0,.int .i64 0,.int .i64 0,.int .i64 np,.string { data := #[] },.slice va vn vc])] (.slice va vn vc) ks [] → (∃ us,a' = RT g rb nb a len cap (1) us) → Q .normal a' W') → tkc16.wp Tryz.prog Q (RT g rb nb a len cap (pk) us) W := by
 intro Q hN
 have HN : Hid _ := hN
 clear hN
 have Q0 : Hid _ := rgisWord_any (show Hid (Gm W g a len cap ts (s)) from S0.out.gm) [112,97,99,107,97,103,101] (show byts _ by unfold byts; decide)
 rw [hd] at Q0
 subst hp
 unfold RT
 conv => arg 2; whnf
 go_wp2_with fail
 refine Calls.mono Q0.out ?_
 rintro e w1 ⟨rfl,hbw1⟩
 have S1 : Hid (Sx w g a len cap ts w.heap.size (.slice none 0 0) [] w1 (s) [(nb,#[.int .i64 1,.string X,.int .i64 0,.int .i64 0,.int .i64 0,.int .i64 np,.string { data := #[] },.slice va vn vc])] (.slice va vn vc) ks []) := S0.out.below hbw1
 clear hbw1 Q0
 go_wp2
 exact HN.out _ _ S1.out (RT.mk _ rfl rfl)

set_option maxRecDepth 100000 in
set_option maxHeartbeats 4000000 in
theorem tk16_two {w : World} {g : Nat} {a : Option Addr} {len cap : Nat} {ts : List Tq} {W : World} {s : Gs} {rb nb : Nat} {va : Option Addr} {vn vc : Nat} {ks : List Tn} {np : Int} {X : ByteArray} {pk : Int} (us : Nat → Value) (S0 : Hid (Sx w g a len cap ts w.heap.size (.slice none 0 0) [] W (s) [(nb,#[.int .i64 1,.string X,.int .i64 0,.int .i64 0,.int .i64 0,.int .i64 np,.string { data := #[] },.slice va vn vc])] (.slice va vn vc) ks [])) (hd : gisw ts [112,97,99,107,97,103,101] s = true) (hp : 1 ≤ pk ∧ pk ≤ 999999) :
  ∀ Q : Exit → Act → World → Prop,(∀ a' W',Sx w g a len cap ts w.heap.size (.slice none 0 0) [] W' (gfail ts 80 s) [(nb,#[.int .i64 1,.string X,.int .i64 0,.int .i64 0,.int .i64 0,.int .i64 np,.string { data := #[] },.slice va vn vc])] (.slice va vn vc) ks [] → (∃ us,a' = RT g rb nb a len cap (pk + 1) us) → Q .normal a' W') → tkc16.wp Tryz.prog Q (RT g rb nb a len cap (pk) us) W := by
 intro Q hN
 have HN : Hid _ := hN
 clear hN
 have Q0 : Hid _ := rgisWord_any (show Hid (Gm W g a len cap ts (s)) from S0.out.gm) [112,97,99,107,97,103,101] (show byts _ by unfold byts; decide)
 rw [hd] at Q0
 have hw : IntKind.i64.wrap (pk + 1) = pk + 1 := wrap_small (by omega) (by omega)
 have hg1 : decide (1 < pk + 1) = true := by simp; omega
 have hg2 : (1 : Int) < pk + 1 := by omega
 unfold RT
 conv => arg 2; whnf
 go_wp2_with fail
 refine Calls.mono Q0.out ?_
 rintro e w1 ⟨rfl,hbw1⟩
 have S1 : Hid (Sx w g a len cap ts w.heap.size (.slice none 0 0) [] w1 (s) [(nb,#[.int .i64 1,.string X,.int .i64 0,.int .i64 0,.int .i64 0,.int .i64 np,.string { data := #[] },.slice va vn vc])] (.slice va vn vc) ks []) := S0.out.below hbw1
 clear hbw1 Q0
 have Q1 : Hid _ := rgfail_any (show Hid (Gm w1 g a len cap ts (s)) from S1.out.gm) 80 (by decide) (by decide)
 go_wp2_with fail
 refine Calls.mono Q1.out ?_
 rintro e w2 ⟨rfl,hgw2,Hw2⟩
 have S2 : Hid (Sx w g a len cap ts w.heap.size (.slice none 0 0) [] w2 (gfail ts 80 s) [(nb,#[.int .i64 1,.string X,.int .i64 0,.int .i64 0,.int .i64 0,.int .i64 np,.string { data := #[] },.slice va vn vc])] (.slice va vn vc) ks []) := S1.out.call hgw2 Hw2
 clear hgw2 Hw2 Q1
 go_wp2
 exact HN.out _ _ S2.out (RT.mk _ rfl rfl)

set_option maxRecDepth 100000 in
set_option maxHeartbeats 4000000 in
theorem tk200 {w : World} {g : Nat} {a : Option Addr} {len cap : Nat} {ts : List Tq} {W : World} {s : Gs} {rb nb : Nat} {va : Option Addr} {vn vc : Nat} {ks : List Tn} {np : Int} {X : ByteArray} {pk : Int} (HSim : Hid (Sim ts)) (us : Nat → Value) (S0 : Hid (Sx w g a len cap ts w.heap.size (.slice none 0 0) [] W (s) [(nb,#[.int .i64 1,.string X,.int .i64 0,.int .i64 0,.int .i64 0,.int .i64 np,.string { data := #[] },.slice va vn vc])] (.slice va vn vc) ks [])) (hop : s.op = 0) (hn1 : ks.length + 1 ≤ 2000000) :
  ∀ Q : Exit → Act → World → Prop,(∀ a' W',(∃ t vd vf ve,t.plain = (gitem ts (gbody ts 31) 31 s).1 ∧ Sx w g a len cap ts w.heap.size (.slice none 0 0) [] W' ((gitem ts (gbody ts 31) 31 s).2) [(nb,#[.int .i64 1,.string X,.int .i64 0,.int .i64 0,.int .i64 0,.int .i64 np,.string { data := #[] },.slice vd vf ve])] (.slice vd vf ve) (ks ++ [t]) [] ∧ ∃ us,a' = RT g rb nb a len cap (pk) us) → Q .normal a' W') → tkR20.wp Tryz.prog Q (RT g rb nb a len cap (pk) us) W := by
 intro Q hN
 refine wp_strong ?_ hN
 clear hN Q
 have hq0 : nb < W.heap.size := S0.out.ltAt 0 nb rfl
 have hg := Nat.lt_of_lt_of_le S0.out.gb S0.out.bw
 have hqg : nb ≠ g := by have := S0.out.geAt 0 nb rfl; omega
 have QI : Hid _ := rgitem_any0 (show Hid (Gm W.drew g a len cap ts s) from (S0.out.drew 1).gm) 31 (by rw [hop]; decide) (rgbody_all0 HSim.out 31 (by decide)) HSim
 obtain ⟨⟨ca00,ca01,ca02,ca03,ca04,ca05,ca06,ca07⟩,cb00,cb01,cb02,cb03,cb04,cb05,cb06,cb07⟩ := eight_cells (S0.out.eight 0 nb rfl)
 unfold RT
 conv => arg 2; whnf
 go_wp2_with fail
 go_region_law (first
  | (go_simp; go_at_call 43; refine Calls.mono QI.out ?_; rintro e w7 hN7; obtain ⟨t,rfl,htp,h7⟩ := (S0.out.drew 1).got hN7; have S7 : Hid (Sx w g a len cap ts w.heap.size (.slice none 0 0) [] w7 ((gitem ts (gbody ts 31) 31 s).2) [(nb,#[.int .i64 1,.string X,.int .i64 0,.int .i64 0,.int .i64 0,.int .i64 np,.string { data := #[] },.slice va vn vc])] (.slice va vn vc) ks [t]) := h7; have HTP : Hid (t.plain = (gitem ts (gbody ts 31) 31 s).1) := htp; have hz7 : nb < w7.heap.size := S7.out.ltAt 0 nb rfl; clear hN7 h7 htp; obtain ⟨⟨ca00,ca01,ca02,ca03,ca04,ca05,ca06,ca07⟩,cb00,cb01,cb02,cb03,cb04,cb05,cb06,cb07⟩ := eight_cells (S7.out.eight 0 nb rfl); obtain ⟨k2,tx2,n2,m2,a2,p2,dc2,ad2,cap2,ks2⟩ := t; simp only [Tn.val,Tn.cells]; obtain ⟨X2,hX2⟩ : ∃ X2,X2 = strOfNums tx2 := ⟨_,rfl⟩; obtain ⟨D2,hD2⟩ : ∃ D2,D2 = strOfNums dc2 := ⟨_,rfl⟩; rw [← hX2,← hD2]; have HX2 : Hid (X2 = strOfNums tx2) := hX2; have HD2 : Hid (D2 = strOfNums dc2) := hD2; clear hX2 hD2)
  | (refine Sx.append_step (b := w7.heap.size) (cp := 1) (c := #[.int .i64 k2,.string X2,.int .i64 n2,.int .i64 m2,.int .i64 a2,.int .i64 p2,.string D2,.slice ad2 ks2.length cap2]) (S7.out.alloc _) (by rw [HX2.out,HD2.out]; rfl) (by rfl) (.tmp 76) (.tmp 79) (by rfl) (by rfl) (by rfl) hn1 ?_; intro vd ve w9 h9; have S9 : Hid _ := h9; have hz9 : nb < w9.heap.size := h9.ltAt 0 nb rfl; obtain ⟨⟨ca00,ca01,ca02,ca03,ca04,ca05,ca06,ca07⟩,cb00,cb01,cb02,cb03,cb04,cb05,cb06,cb07⟩ := eight_cells (h9.eight 0 nb rfl); clear h9))
 all_goals
  have S10 := S9.out.set 0 nb _ rfl 7 (.slice vd (ks.length + 1) ve)
  go_wp2
  exact ⟨_,vd,ks.length + 1,ve,HTP.out,S10,RT.mk _ rfl rfl⟩

end Go.Proofs.YtlekfcehmlepkaaGreatDoor
