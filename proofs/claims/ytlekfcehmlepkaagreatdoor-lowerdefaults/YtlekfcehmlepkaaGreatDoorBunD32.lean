/- Put together by a program out of these texts of mine: LQ9, LQA, STk5, SSz. -/
import Derived.Test.YtlekfcehmlepkaaGreatDoorBunD29
import Derived.Test.YtlekfcehmlepkaaGreatDoorBunD30
import Derived.Test.YtlekfcehmlepkaaGreatDoorBunD31

namespace Go.Proofs.YtlekfcehmlepkaaGreatDoor
open Go.RowKit
set_option linter.unusedVariables false
set_option linter.unusedSimpArgs false

set_option maxRecDepth 100000 in
set_option maxHeartbeats 4000000 in
theorem sw_text (S : ByteArray) (s : List Int) (o m : Value) (i : Nat) (us : Nat → Value) (W : World) (D : List Int) (HS : Hid (Src S s)) (hlen : (s.length : Int) ≤ 100000) (hi : i < s.length) (hl : lletter (s.getD i 0) = false) (hq : s.getD i 0 = 34 ∨ s.getD i 0 = 39) (he : (qtake (s.drop i)).2.2 = 0) :
  Goes rSW (RF S o m (.int .i64 (i : Int)) (.pointer (some ⟨W.heap.size,0,none⟩)) (.int .i64 ((i + 1 : Nat) : Int)) us) (W.alloc (.cells #[.int .i64 0,.string { data := #[] },.int .u64 0,.int .i64 (i : Int),.string (strOfNums D)] 81)) (fun a w3 => TkBlk W w3 3 (qtake (s.drop i)).1 0 i D ∧ ∃ us,a = RF S o m (.int .i64 (i : Int)) (.pointer (some ⟨W.heap.size,0,none⟩)) (.int .i64 ((i + (qtake (s.drop i)).2.1.toNat : Nat) : Int)) us) Nev Nev := by
 intro Q hN hX hR
 have hsz := HS.out.sz
 have hat := HS.out.at i hi
 have hcb := HS.out.bd i
 have hrc := run_cut_to S i (i : Int) rfl (by omega)
 have hcut : S.extract i S.size = strOfNums (s.drop i) := by
  rw [hsz,HS.out.cut i s.length]
  unfold lpc
  rw [List.take_of_length_le (Nat.le_refl _)]
 rw [hcut] at hrc
 have qt := fun W => rtak_any (s.drop i) W (fun j => by rw [getD_drop']; exact HS.out.bd _) (by rw [List.length_drop]; omega)
 have hpl := qtake_place (s.drop i)
 have hpb := qtake_bd (s.drop i) (fun c hc => mem_bd HS.out.bd c (List.mem_of_mem_drop hc))
 rw [List.length_drop] at hpl
 generalize strOfNums (s.drop i) = SD at hrc qt hcut
 generalize qtake (s.drop i) = r at qt hpl hpb he hN
 obtain ⟨B,n,e⟩ := r
 simp only at qt hpl hpb he hN
 obtain ⟨hn0,hn1'⟩ := hpl
 have QT : Hid _ := qt
 have PB : Hid _ := hpb
 generalize s.getD i 0 = c at hat hcb hl hq
 have ql := fun W => rletter_any c W hcb.1 hcb.2
 rw [hl] at ql
 have QL : Hid _ := ql
 subst he
 obtain ⟨m',rfl⟩ : ∃ m : Nat,n = (m : Int) := ⟨n.toNat,by omega⟩
 rw [Int.toNat_natCast] at hN
 have HN : Hid _ := hN
 clear hN hX hR ql qt hpb hl hcut
 rcases hq with rfl | rfl
 ·unfold RF
  conv => arg 2; whnf
  go_wp2_with fail
  refine Calls.mono (QL.out _) ?_
  rintro e w1 ⟨rfl,rfl⟩
  go_wp2_with fail
  refine Calls.mono (QT.out _) ?_
  rintro e w1 ⟨v1,rfl,hown1,hb1⟩
  obtain ⟨hbW,hz1,x0,x1,x2,x3,x4,y0,y1,y2⟩ := after_call0 hb1
  have HH : Hid (w1.heap[W.heap.size]? = _) := (hb1.block W.heap.size (by simp)).trans (heap_alloc_new W _)
  obtain ⟨a1,cc1,rfl⟩ := own_slice hown1
  have hB1 := Bs.of_owns hown1 PB.out
  have hne := own_far hown1
  have hcv := Bs.conv (hB1.below (Below.refl w1.heap.size w1).drew (Nat.le_refl _))
  have hcv2 := Bs.conv ((hB1.setc ⟨W.heap.size,0,none⟩ hne (.int .i64 3)).below (Below.refl _ (w1.setCell ⟨W.heap.size,0,none⟩ (.int .i64 3))).drew (Nat.le_refl _))
  clear hB1 hown1
  go_wp2
  go_region
  go_wp2
  rw [show ((i : Int) + (m' : Int)) = ((i + m' : Nat) : Int) by omega]
  exact HN.out _ _ ⟨⟨set_heap2 (set_heap2 HH.out 0 _) 1 _,((hbW.setCell (p := ⟨W.heap.size,0,none⟩) (Nat.le_refl _) _).setCell (p := ⟨W.heap.size,1,none⟩) (Nat.le_refl _) _).drew⟩,RF.mk _ rfl rfl⟩
 ·unfold RF
  conv => arg 2; whnf
  go_wp2_with fail
  refine Calls.mono (QL.out _) ?_
  rintro e w1 ⟨rfl,rfl⟩
  go_wp2_with fail
  refine Calls.mono (QT.out _) ?_
  rintro e w1 ⟨v1,rfl,hown1,hb1⟩
  obtain ⟨hbW,hz1,x0,x1,x2,x3,x4,y0,y1,y2⟩ := after_call0 hb1
  have HH : Hid (w1.heap[W.heap.size]? = _) := (hb1.block W.heap.size (by simp)).trans (heap_alloc_new W _)
  obtain ⟨a1,cc1,rfl⟩ := own_slice hown1
  have hB1 := Bs.of_owns hown1 PB.out
  have hne := own_far hown1
  have hcv := Bs.conv (hB1.below (Below.refl w1.heap.size w1).drew (Nat.le_refl _))
  have hcv2 := Bs.conv ((hB1.setc ⟨W.heap.size,0,none⟩ hne (.int .i64 3)).below (Below.refl _ (w1.setCell ⟨W.heap.size,0,none⟩ (.int .i64 3))).drew (Nat.le_refl _))
  clear hB1 hown1
  go_wp2
  go_region
  go_wp2
  rw [show ((i : Int) + (m' : Int)) = ((i + m' : Nat) : Int) by omega]
  exact HN.out _ _ ⟨⟨set_heap2 (set_heap2 HH.out 0 _) 1 _,((hbW.setCell (p := ⟨W.heap.size,0,none⟩) (Nat.le_refl _) _).setCell (p := ⟨W.heap.size,1,none⟩) (Nat.le_refl _) _).drew⟩,RF.mk _ rfl rfl⟩

set_option maxRecDepth 100000 in
set_option maxHeartbeats 4000000 in
theorem sw_tbad (S : ByteArray) (s : List Int) (o m : Value) (i : Nat) (us : Nat → Value) (W : World) (D : List Int) (HS : Hid (Src S s)) (hlen : (s.length : Int) ≤ 100000) (hi : i < s.length) (hl : lletter (s.getD i 0) = false) (hq : s.getD i 0 = 34 ∨ s.getD i 0 = 39) (he : (qtake (s.drop i)).2.2 ≠ 0) :
  Goes rSW (RF S o m (.int .i64 (i : Int)) (.pointer (some ⟨W.heap.size,0,none⟩)) (.int .i64 ((i + 1 : Nat) : Int)) us) (W.alloc (.cells #[.int .i64 0,.string { data := #[] },.int .u64 0,.int .i64 (i : Int),.string (strOfNums D)] 81)) Nev Nev (fun a w3 => a.tmps.getD 2 undef = .slice none 0 0 ∧ a.tmps.getD 3 undef = .int .i64 ((i : Int) + (qtake (s.drop i)).2.1) ∧ a.tmps.getD 4 undef = .int .i64 (qtake (s.drop i)).2.2 ∧ a.defers = [] ∧ Below W.heap.size W w3) := by
 intro Q hN hX hR
 have hsz := HS.out.sz
 have hat := HS.out.at i hi
 have hcb := HS.out.bd i
 have hrc := run_cut_to S i (i : Int) rfl (by omega)
 have hcut : S.extract i S.size = strOfNums (s.drop i) := by
  rw [hsz,HS.out.cut i s.length]
  unfold lpc
  rw [List.take_of_length_le (Nat.le_refl _)]
 rw [hcut] at hrc
 have qt := fun W => rtak_any (s.drop i) W (fun j => by rw [getD_drop']; exact HS.out.bd _) (by rw [List.length_drop]; omega)
 have hpl := qtake_place (s.drop i)
 have hpb := qtake_bd (s.drop i) (fun c hc => mem_bd HS.out.bd c (List.mem_of_mem_drop hc))
 rw [List.length_drop] at hpl
 generalize strOfNums (s.drop i) = SD at hrc qt hcut
 generalize qtake (s.drop i) = r at qt hpl hpb he hR
 obtain ⟨B,n,e⟩ := r
 simp only at qt hpl hpb he hR
 obtain ⟨hn0,hn1'⟩ := hpl
 have QT : Hid _ := qt
 have PB : Hid _ := hpb
 generalize s.getD i 0 = c at hat hcb hl hq
 have ql := fun W => rletter_any c W hcb.1 hcb.2
 rw [hl] at ql
 have QL : Hid _ := ql
 have he' : (e != 0) = true := by simpa using he
 have HR : Hid _ := hR
 clear hN hX hR ql qt hpb hl hcut he
 rcases hq with rfl | rfl
 ·unfold RF
  conv => arg 2; whnf
  go_wp2_with fail
  refine Calls.mono (QL.out _) ?_
  rintro e w1 ⟨rfl,rfl⟩
  go_wp2_with fail
  refine Calls.mono (QT.out _) ?_
  rintro e w1 ⟨v1,rfl,hown1,hb1⟩
  obtain ⟨hbW,hz1,x0,x1,x2,x3,x4,y0,y1,y2⟩ := after_call0 hb1
  clear hown1
  go_wp2
  exact HR.out _ _ ⟨rfl,rfl,rfl,rfl,hbW⟩
 ·unfold RF
  conv => arg 2; whnf
  go_wp2_with fail
  refine Calls.mono (QL.out _) ?_
  rintro e w1 ⟨rfl,rfl⟩
  go_wp2_with fail
  refine Calls.mono (QT.out _) ?_
  rintro e w1 ⟨v1,rfl,hown1,hb1⟩
  obtain ⟨hbW,hz1,x0,x1,x2,x3,x4,y0,y1,y2⟩ := after_call0 hb1
  clear hown1
  go_wp2
  exact HR.out _ _ ⟨rfl,rfl,rfl,rfl,hbW⟩

theorem line_ge2 (s : List Int) (i : Nat) {e : Nat} (hi : i + 1 < s.length) (h1 : s.getD i 0 = 47) (h2 : s.getD (i + 1) 0 = 47) (he : e = lrun leol s s.length (s.length - i) i) : i + 2 ≤ e := by
 obtain ⟨m,hm⟩ : ∃ m,s.length - i = m + 1 + 1 := ⟨s.length - i - 2,by omega⟩
 rw [he,hm,lrun,if_pos ⟨by omega,by rw [h1]; decide⟩,lrun,if_pos ⟨hi,by rw [h2]; decide⟩]
 exact lrun_ge _ _ _ _ _

theorem rT_eq : rT = .seq rT1 (.seq rT2 (.seq rSW rT3)) := rfl

theorem rB_eq : rB = .seq rP1 (.seq rP2 (.seq rP3 (.seq rP4 rT))) := rfl

theorem rloop_eq : rloop = .loop (.block 1 rB) := rfl

theorem sw_any (S : ByteArray) (s : List Int) (o m : Value) (i : Nat) (us : Nat → Value) (W : World) (D : List Int) (HS : Hid (Src S s)) (hlen : (s.length : Int) ≤ 100000) (hi : i < s.length) :
  Goes rSW (RF S o m (.int .i64 (i : Int)) (.pointer (some ⟨W.heap.size,0,none⟩)) (.int .i64 ((i + 1 : Nat) : Int)) us) (W.alloc (.cells #[.int .i64 0,.string { data := #[] },.int .u64 0,.int .i64 (i : Int),.string (strOfNums D)] 81))
   (fun a w3 => ∃ kd tx n k2,ltok s i D = .inl (⟨kd,tx,n,i,D⟩,k2) ∧ TkBlk W w3 kd tx n i D ∧ ∃ us,a = RF S o m (.int .i64 (i : Int)) (.pointer (some ⟨W.heap.size,0,none⟩)) (.int .i64 ((k2 : Nat) : Int)) us) Nev
   (fun a w3 => ∃ p e,ltok s i D = .inr (p,e) ∧ a.tmps.getD 2 undef = .slice none 0 0 ∧ a.tmps.getD 3 undef = .int .i64 p ∧ a.tmps.getD 4 undef = .int .i64 e ∧ a.defers = [] ∧ Below W.heap.size W w3) := by
 by_cases hl : lletter (s.getD i 0) = true
 ·by_cases hn : lnumb (s.getD i 0) = true
  ·by_cases hq : (qnum (lpc s i (lrun lletter s s.length (s.length - (i + 1)) (i + 1)))).2 = true
   ·refine (sw_num S s o m i us W D HS hlen hi hl hn hq).mono ?_ Nev.any Nev.any
    intro a w h
    exact ⟨_,_,_,_,by unfold ltok; rw [if_pos hl]; simp only; rw [if_pos hn,if_pos hq],h⟩
   ·refine (sw_bad S s o m i us W D HS hlen hi hl hn (Bool.eq_false_iff.2 hq)).mono Nev.any Nev.any ?_
    intro a w h
    exact ⟨_,_,by unfold ltok; rw [if_pos hl]; simp only; rw [if_pos hn,if_neg hq],h⟩
  ·refine (sw_name S s o m i us W D HS hlen hi hl (Bool.eq_false_iff.2 hn)).mono ?_ Nev.any Nev.any
   intro a w h
   exact ⟨_,_,_,_,by unfold ltok; rw [if_pos hl]; simp only; rw [if_neg hn],h⟩
 ·have hl' := Bool.eq_false_iff.2 hl
  by_cases hq : s.getD i 0 = 34 ∨ s.getD i 0 = 39
  ·by_cases he : (qtake (s.drop i)).2.2 = 0
   ·refine (sw_text S s o m i us W D HS hlen hi hl' hq he).mono ?_ Nev.any Nev.any
    intro a w h
    exact ⟨_,_,_,_,by unfold ltok; rw [if_neg hl,if_pos hq,if_pos he],h⟩
   ·refine (sw_tbad S s o m i us W D HS hlen hi hl' hq he).mono Nev.any Nev.any ?_
    intro a w h
    exact ⟨_,_,by unfold ltok; rw [if_neg hl,if_pos hq,if_neg he],h⟩
  ·by_cases hs : lsign (s.getD i 0) = true
   ·refine (sw_sign S s o m i us W D HS hlen hi hl' hq hs).mono ?_ Nev.any Nev.any
    intro a w h
    exact ⟨_,_,_,_,by unfold ltok; rw [if_neg hl,if_neg hq,if_pos hs],h⟩
   ·refine (sw_none S s o m i us W D HS hlen hi hl' hq (Bool.eq_false_iff.2 hs)).mono Nev.any Nev.any ?_
    intro a w h
    exact ⟨_,_,by unfold ltok; rw [if_neg hl,if_neg hq,if_neg hs],h⟩

theorem Goes.seqN {x y : Code} {a : Act} {w : World} {M N X Rt : Act → World → Prop} (h1 : Goes x a w M Nev Nev) (h2 : ∀ a w,M a w → Goes y a w N X Rt) : Goes (.seq x y) a w N X Rt :=
 (h1.mono (fun _ _ h => h) Nev.any Nev.any).seq h2

theorem t_any (S : ByteArray) (s : List Int) (o m t9 k10 : Value) (i : Nat) (us : Nat → Value) (w W : World) (out : List Tk) (ms : List Nat) (HS : Hid (Src S s)) (HL : Hid (s.length ≤ 100000)) (hi : i < s.length) (hml : ms.length ≤ s.length) (hol : out.length ≤ s.length)
  (HM : Hid (∀ j,ms.getD j 0 ≤ 1000000)) (HMo : Hid (W.ownsRow w.heap.size 3 1 m ms.length (mcells ms))) (HTo : Hid (To W w.heap.size o out)) (HB : Hid (Below w.heap.size w W)) :
  Goes rT (RF S o m (.int .i64 (i : Int)) t9 k10 us) W
   (fun a w3 => ∃ t k2 o2,ltok s i (ldoc s i ms) = .inl (t,k2) ∧ (∃ t9 k10 us,a = RF S o2 m (.int .i64 ((k2 : Nat) : Int)) t9 k10 us) ∧ To w3 w.heap.size o2 (out ++ [t]) ∧ w3.ownsRow w.heap.size 3 1 m ms.length (mcells ms) ∧ Below w.heap.size w w3) Nev
   (fun a w3 => ∃ p e,ltok s i (ldoc s i ms) = .inr (p,e) ∧ Rtn w ([],p,e) a w3) := by
 have hlen : (s.length : Int) ≤ 100000 := by have := HL.out; omega
 have hle := HL.out
 rw [rT_eq]
 refine (t1 S s o m t9 k10 i us w W ms HS HL hi hml HM HMo).seqN ?_
 rintro a w1 ⟨rfl,us1,rfl⟩
 refine (t2 S s o m _ k10 i us1 _ hi hlen).seqN ?_
 rintro a w1 ⟨rfl,us2,rfl⟩
 refine ((sw_any S s o m i us2 W (ldoc s i ms) HS hlen hi).mono (fun _ _ h => h) Nev.any ?_).seq ?_
 ·rintro a w1 ⟨p,e,h1,h2,h3,h4,h5,h6⟩
  exact ⟨p,e,h1,_,h2,h3,h4,h5,To.nil _ _,HB.out.trans (h6.mono HB.out.size)⟩
 ·rintro a w1 ⟨kd,tx,n,k2,h1,h2,us3,rfl⟩
  have hok := ltok_ok s i _ _ _ hi (mem_bd HS.out.bd) h1
  have hdb := ldoc_bd s i ms (mem_bd HS.out.bd)
  refine (t3 S s o m _ k2 i us3 w W w1 out kd tx n (ldoc s i ms) h2 HTo HB ⟨hok.2.2.2.2.2,hdb⟩ (by omega)).mono ?_ Nev.any Nev.any
  rintro a w3 ⟨o2,⟨us4,rfl⟩,h3,h4,h5⟩
  exact ⟨_,k2,o2,h1,⟨_,_,us4,rfl⟩,h3,h5 ms HMo.out,h4⟩

def Fwd (w : World) (S : ByteArray) (s : List Int) (R : List Tk × Int × Int) (i : Nat) (a : Act) (w' : World) : Prop :=
 ∃ o m i2 t9 k10 us,a = RF S o m (.int .i64 ((i2 : Nat) : Int)) t9 k10 us ∧ i < i2 ∧ i2 ≤ s.length ∧ SJ w s R o m (.int .i64 ((i2 : Nat) : Int)) w'

theorem b_any (S : ByteArray) (s : List Int) (R : List Tk × Int × Int) (o m t9 k10 : Value) (i f : Nat) (us : Nat → Value) (w W : World) (out : List Tk) (ms : List Nat) (HS : Hid (Src S s)) (HL : Hid (s.length ≤ 100000)) (hi : i ≤ s.length) (hf : s.length < i + f) (hol : out.length ≤ i) (hml : ms.length ≤ i)
  (HM : Hid (∀ j,ms.getD j 0 ≤ 1000000)) (HR : Hid (R = lsc s f i out ms)) (HTo : Hid (To W w.heap.size o out)) (HMo : Hid (W.ownsRow w.heap.size 3 1 m ms.length (mcells ms))) (HB : Hid (Below w.heap.size w W)) :
  Goes rB (RF S o m (.int .i64 (i : Int)) t9 k10 us) W (Fwd w S s R i) (Fwd w S s R i) (Rtn w R) := by
 have hlen : (s.length : Int) ≤ 100000 := by have := HL.out; omega
 have hle := HL.out
 obtain ⟨f,rfl⟩ : ∃ g,f = g + 1 := ⟨f - 1,by omega⟩
 have hE := HR.out
 rw [lsc] at hE
 simp only at hE
 have hge := lrun_ge lblank s s.length (s.length - i) i
 have hkl := lrun_le lblank s s.length (s.length - i) i hi
 rw [rB_eq]
 refine (g1 S s o m t9 k10 i us W HS hlen hi).seqN ?_
 generalize lrun lblank s s.length (s.length - i) i = k at hE hge hkl
 rintro a w1 ⟨rfl,us1,rfl⟩
 by_cases hk : k = s.length
 ·subst hk
  rw [if_pos rfl] at hE
  exact ((g2_end S s o m t9 k10 us1 w w1 R out ms HS HL (by omega) (by omega) HM HTo HMo HB hE).mono Nev.any Nev.any (fun _ _ h => h)).seq (M := Nev) (fun _ _ h => h.elim)
 rw [if_neg hk] at hE
 have hk' : k < s.length := by omega
 refine (g2_on S s o m t9 k10 k us1 w1 HS hk').seqN ?_
 rintro a w2 ⟨rfl,us2,rfl⟩
 by_cases k1 : k + 1 < s.length ∧ s.getD k 0 = 47 ∧ s.getD (k + 1) 0 = 47
 ·rw [if_pos k1] at hE
  have h2 := line_ge2 s k k1.1 k1.2.1 k1.2.2 rfl
  have h3 := lrun_le leol s s.length (s.length - k) k (by omega)
  refine Goes.seq (M := Nev) ((g3_yes S s o m t9 k10 k us2 w2 HS hlen k1).mono Nev.any ?_ Nev.any) (fun _ _ h => h.elim)
  rintro a w3 ⟨rfl,us3,rfl⟩
  exact ⟨o,m,_,t9,k10,us3,rfl,by omega,h3,_,f,out,ms,rfl,h3,by omega,by omega,by omega,HM,hE,HTo.out,HMo.out,HB.out⟩
 rw [if_neg k1] at hE
 refine (g3_no S s o m t9 k10 k us2 w2 HS hlen hk' k1).seqN ?_
 rintro a w3 ⟨rfl,us3,rfl⟩
 by_cases k2 : k + 1 < s.length ∧ s.getD k 0 = 47 ∧ s.getD (k + 1) 0 = 42
 ·rw [if_pos k2] at hE
  have h2 := lcl_ge s (s.length - (k + 2)) (k + 2)
  refine Goes.seq (M := Nev) ((g4_yes S s o m t9 k10 k us3 w w3 out ms HS hlen k2 (by omega) HTo HMo HB).mono Nev.any ?_ ?_) (fun _ _ h => h.elim)
  ·rintro a w4 ⟨hK,⟨m2,us4,rfl,hm2⟩,hto,hb⟩
   rw [if_pos hK] at hE
   refine ⟨o,m2,_,t9,k10,us4,rfl,by omega,by omega,_,f,out,_,rfl,by omega,by omega,by omega,by simp only [List.length_append,List.length_cons,List.length_nil]; omega,?_,hE,hto,hm2,hb⟩
   intro j
   rcases Nat.lt_or_ge j ms.length with hj | hj
   ·have := HM.out j
    simpa [List.getD,List.getElem?_append_left hj] using this
   ·rw [List.getD,List.getElem?_append_right hj]
    match j - ms.length with
    | 0 => simp; omega
    | 1 => simp; omega
    | n + 2 => simp
  ·rintro a w4 ⟨hK,hr⟩
   rw [if_neg hK] at hE
   rw [hE]
   exact hr
 rw [if_neg k2] at hE
 refine (g4_no S s o m t9 k10 k us3 w3 HS hlen hk' k2).seqN ?_
 rintro a w4 ⟨rfl,us4,rfl⟩
 refine (t_any S s o m t9 k10 k us4 w w4 out ms HS HL hk' (by omega) (by omega) HM HMo HTo HB).mono ?_ Nev.any ?_
 ·rintro a w5 ⟨t,k3,o2,h1,⟨t9',k10',us5,rfl⟩,h2,h3,h4⟩
  rw [h1] at hE
  simp only at hE
  have hok := ltok_ok s k _ _ _ hk' (mem_bd HS.out.bd) h1
  obtain ⟨_,_,hlt,hle3,_⟩ := hok
  exact ⟨o2,m,k3,t9',k10',us5,rfl,by omega,hle3,k3,f,out ++ [t],ms,rfl,hle3,by omega,by simp; omega,by omega,HM,hE,h2,h3,h4⟩
 ·rintro a w5 ⟨p,e,h1,h2⟩
  rw [h1] at hE
  simp only at hE
  rw [hE]
  exact h2

def LI (w : World) (S : ByteArray) (s : List Int) (R : List Tk × Int × Int) (a : Act) (w' : World) : Prop :=
 ∃ o m i t9 k10 us,a = RF S o m (.int .i64 ((i : Nat) : Int)) t9 k10 us ∧ i ≤ s.length ∧ SJ w s R o m (.int .i64 ((i : Nat) : Int)) w'

theorem LI.mk {w : World} {S : ByteArray} {s : List Int} {R : List Tk × Int × Int} {a : Act} {w' : World} {o m t9 k10 : Value} {i : Nat} (us : Nat → Value) (_hu : us = fun k => a.tmps.getD k undef) (h : a = RF S o m (.int .i64 ((i : Nat) : Int)) t9 k10 us) (hi : i ≤ s.length) (hs : SJ w s R o m (.int .i64 ((i : Nat) : Int)) w') : LI w S s R a w' :=
 ⟨o,m,i,t9,k10,us,h,hi,hs⟩

set_option maxRecDepth 100000 in
theorem RF_seven (S : ByteArray) (o m iv t9 k10 : Value) (us : Nat → Value) : (RF S o m iv t9 k10 us).tmps.getD 7 undef = iv := rfl

theorem rloop_any (S : ByteArray) (s : List Int) (R : List Tk × Int × Int) (w W : World) (a : Act) (HS : Hid (Src S s)) (HL : Hid (s.length ≤ 100000)) (hI : LI w S s R a W) (Q : Exit → Act → World → Prop) (hQ : ∀ a w',Rtn w R a w' → Q .ret a w') : rloop.wp Tryz.prog Q a W := by
 rw [rloop_eq]
 refine wp_loop (LI w S s R) (fun a _ => s.length + 1 - (intOf (a.tmps.getD 7 undef)).toNat) hI ?_
 rintro a wr ⟨o,m,i0,t9,k10,us,rfl,hi0,i,f,out,ms,he,hi,hf,hol,hml,HM,HR,hTo,hMo,hB⟩
 obtain rfl : i0 = i := by simp at he; omega
 refine wp_block ?_
 have hfw : ∀ a w',Fwd w S s R i0 a w' → LI w S s R a w' ∧ s.length + 1 - (intOf (a.tmps.getD 7 undef)).toNat < s.length + 1 - (intOf ((RF S o m (.int .i64 ((i0 : Nat) : Int)) t9 k10 us).tmps.getD 7 undef)).toNat := by
  rintro a w' ⟨o2,m2,i2,t9',k10',us2,rfl,h1,h2,h3⟩
  refine ⟨⟨o2,m2,i2,t9',k10',us2,rfl,h2,h3⟩,?_⟩
  rw [RF_seven,RF_seven]
  simp only [intOf,Int.toNat_natCast]
  omega
 refine b_any S s R o m t9 k10 i0 f us w wr out ms HS HL hi hf hol hml HM HR hTo hMo hB _ ?_ ?_ ?_
 ·intro a w' h
  exact hfw a w' h
 ·intro a w' h
  simp only [Exit.inBlock,if_true,Exit.then]
  exact hfw a w' h
 ·intro a w' h
  exact hQ a w' h

set_option maxRecDepth 100000 in
set_option maxHeartbeats 4000000 in
theorem rscan_go (S : ByteArray) (s : List Int) (w : World) (HS : Hid (Src S s)) (HL : Hid (s.length ≤ 100000)) (R : List Tk × Int × Int) (HR : Hid (R = lsc s (s.length + 1) 0 [] [])) :
  Calls Tryz.prog 22 #[.string S] w fun e w' => ScanEnd w R e w' := by
 have hsz := HS.out.sz
 have hlen : (s.length : Int) ≤ 100000 := by have := HL.out; omega
 have hlen2 : decide ((100000 : Int) < (s.length : Int)) = false := by have := HL.out; simp; omega
 go_enter Tryz.func22,Tryz.ntmps22
 go_wp2
 refine rloop_any S s R w w _ HS HL ?_ _ ?_
 ·exact LI.mk (o := .slice none 0 0) (m := .slice none 0 0) (t9 := undef) (k10 := undef) (i := 0) _ rfl rfl (Nat.zero_le _) ⟨0,s.length + 1,[],[],rfl,by omega,by omega,by simp,by simp,fun j => by simp,HR,To.nil _ _,World.ownsRow_nil _ _ _ _,Below.refl _ _⟩
 ·rintro a w' ⟨v,h2,h3,h4,h5,h6,h7⟩
  refine bodyPost_ret (results_tmp3 rfl _ _ _) h5 ?_
  rw [h2,h3,h4]
  exact ⟨v,rfl,h6,h7⟩

theorem rscan_any (s : List Int) (w : World) (hz : Hid (∀ i,0 ≤ s.getD i 0 ∧ s.getD i 0 ≤ 255)) (hlen : s.length ≤ 100000) :
  Calls Tryz.prog 22 #[.string (strOfNums s)] w fun e w' => ScanEnd w (lscan s) e w' := by
 rw [lscan,if_neg (by omega)]
 exact rscan_go (strOfNums s) s w ⟨strOfNums_size s,hz.out,rfl⟩ hlen _ rfl

theorem gtokens_no (ts : List Tq) (hl : ts.length ≠ 0) (hk : (ts.getD (ts.length - 1) Tq.none).kind = 0) (hd : gisw ts [115,121,110,116,97,120] (⟨0,0,0,0,1⟩ : Gs) = false) : gtokens ts = if (gfilel ts (2 * ts.length + 2) ((⟨0,0,0,0,1⟩ : Gs)) 0 []).2.e ≠ 0 then (pnil,(gfilel ts (2 * ts.length + 2) ((⟨0,0,0,0,1⟩ : Gs)) 0 []).2.pa,(gfilel ts (2 * ts.length + 2) ((⟨0,0,0,0,1⟩ : Gs)) 0 []).2.e) else if 20000 < (gfilel ts (2 * ts.length + 2) ((⟨0,0,0,0,1⟩ : Gs)) 0 []).2.n then (pnil,0,2) else (.mk 1 ([]) 0 0 0 ((ts.getD 0 Tq.none).pos) [] (gfilel ts (2 * ts.length + 2) ((⟨0,0,0,0,1⟩ : Gs)) 0 []).1,0,0) := by
 unfold gtokens
 rw [if_neg (fun h => h.elim hl (fun h => h hk))]
 simp only [hd,Bool.false_eq_true,if_false]

theorem tkp_all0 {u w : World} {g : Nat} {a : Option Addr} {len cap : Nat} {ts : List Tq} {W : World} {rb nb : Nat} (HSim : Hid (Sim ts)) (us : Nat → Value) (S0 : Hid (Sx w g a len cap ts w.heap.size (.slice none 0 0) [] W (⟨0,0,0,0,1⟩ : Gs) [(nb,#[.int .i64 1,.string { data := #[] },.int .i64 0,.int .i64 0,.int .i64 0,.int .i64 (ts.getD 0 Tq.none).pos,.string { data := #[] },.slice none 0 0])] (.slice none 0 0) [] [])) (HRb : Hid (w.heap[rb]? = some (.cells #[.int .i64 0,.string { data := #[] },.int .i64 0,.int .i64 0,.int .i64 0,.int .i64 0,.string { data := #[] },.slice none 0 0] 28 (0,0)))) (hrb : rb < w.heap.size) (hrg : rb ≠ g) (hbe : u.heap.size ≤ rb ∧ u.heap.size ≤ g ∧ Below u.heap.size u w) (hLb : len ≤ 1000000) (hnp : i64b (ts.getD 0 Tq.none).pos) :
  tkX.wp Tryz.prog (bodyPost Tryz.prog Tryz.f23 (TokRet u (gtokens ts))) (RU g rb nb a len cap us) W := by
 have hL : ts.length = len := S0.out.gm.tok.1
 have hlt := S0.out.gm.lt
 have hl : ts.length ≠ 0 := by omega
 have hk : (ts.getD (ts.length - 1) Tq.none).kind = 0 := by rw [hL]; exact S0.out.gm.last
 have hd := HSim.out.w_syntax (⟨0,0,0,0,1⟩ : Gs)
 exact tkp_no0 HSim rfl us S0 HRb hrb hrg hbe hLb hnp hd (gtokens_no ts hl hk hd)

theorem wp_asU {c : Code} {Q : Exit → Act → World → Prop} {a' : Act} {W : World} {g rb nb : Nat} {a : Option Addr} {len cap : Nat} (us : Nat → Value) (_hu : us = fun k => a'.tmps.getD k undef) (h : a' = RU g rb nb a len cap us) (hw : ∀ us,c.wp Tryz.prog Q (RU g rb nb a len cap us) W) : c.wp Tryz.prog Q a' W := by
 rw [h]; exact hw us

set_option maxRecDepth 100000 in
set_option maxHeartbeats 4000000 in
theorem rgtokens_any0 {u : World} {a : Option Addr} {len cap : Nat} {ts : List Tq} (HSim : Hid (Sim ts)) (HT : Hid (Tqs u u.heap.size a len cap ts)) (h0 : 0 < len) (hlast : (ts.getD (len - 1) Tq.none).kind = 0) :
  Calls Tryz.prog 23 #[.slice a len cap] u (TokRet u (gtokens ts)) := by
 obtain ⟨h1,h2,h3,h4,h5,h6⟩ := HT.out
 obtain ⟨b,off,rfl,hbl,hne,hc⟩ := h6 h0
 have HG : Hid (len ≤ 1000000) := by show _ ≤ _; omega
 obtain ⟨t,ht⟩ : ∃ t,ts[len - 1]? = some t := ⟨ts[len - 1]'(by omega),List.getElem?_eq_getElem (by omega)⟩
 obtain ⟨q,hq⟩ : ∃ q,ts[0]? = some q := ⟨ts[0]'(by omega),List.getElem?_eq_getElem (by omega)⟩
 have hnpq : ts.getD 0 Tq.none = q := by rw [List.getD,hq]; rfl
 have HNq : Hid (i64b q.pos) := (h5.1 q (List.mem_of_getElem? hq)).2.2.2.1
 have htk : t.kind = 0 := by rw [List.getD,ht] at hlast; exact hlast
 have d0 := hc (len - 1) _ ht 0 _ rfl
 have d3 := hc 0 _ hq 3 _ rfl
 simp only [Nat.add_zero,Nat.zero_mul,Tq.cells] at d0 d3
 rw [htk] at d0
 obtain ⟨kk,hkk⟩ : ∃ kk,len = kk + 1 := ⟨len - 1,by omega⟩
 subst hkk
 rw [show kk + 1 - 1 = kk by omega] at d0
 have hkk : (kk : Int) ≤ 1000000 := by omega
 have hkk2 : (kk : Int) < (kk : Int) + 1 := by omega
 have hkk3 : ¬ ((kk : Int) + 1 = 0) := by omega
 have HLk : Hid ((ts.getD (kk + 1 - 1) Tq.none).kind = 0) := hlast
 have HPq : Hid ((ts.getD 0 Tq.none).pos = q.pos) := by show _ = _; rw [hnpq]
 have HGm : Hid (Gm ((u.alloc (.cells #[.int .i64 0,.string { data := #[] },.int .i64 0,.int .i64 0,.int .i64 0,.int .i64 0,.string { data := #[] },.slice none 0 0] 28)).alloc (.cells #[.slice (some ⟨b,off,none⟩) (kk + 1) cap,.int .i64 0,.int .i64 0,.int .i64 0,.int .i64 0,.int .i64 1] 87)) (u.heap.size + 1) (some ⟨b,off,none⟩) (kk + 1) cap ts (⟨0,0,0,0,1⟩ : Gs)) := by
  have hb0 : Below u.heap.size u ((u.alloc (.cells #[.int .i64 0,.string { data := #[] },.int .i64 0,.int .i64 0,.int .i64 0,.int .i64 0,.string { data := #[] },.slice none 0 0] 28)).alloc (.cells #[.slice (some ⟨b,off,none⟩) (kk + 1) cap,.int .i64 0,.int .i64 0,.int .i64 0,.int .i64 0,.int .i64 1] 87)) := ((Below.refl _ _).alloc (Nat.le_refl _) _).alloc (by simp) _
  refine ⟨?_,⟨h1,h2,h3,fun h => by simp at h,h5,fun _ => ⟨b,off,rfl,Nat.lt_of_lt_of_le hbl hb0.size,by omega,fun i t hi j v hj => (hb0.cell hbl).trans (hc i t hi j v hj)⟩⟩,by show 0 < kk + 1; omega,hlast,by show (0 : Int) ≤ 0; omega,by show (0 : Int) ≤ 40; omega,by unfold i64b; show (-9223372036854775808 : Int) ≤ 0 ∧ (0 : Int) ≤ 9223372036854775807; omega,by show (0 : Int) ≤ 0; omega,by show (0 : Int) ≤ 1000; omega,by unfold i64b; show (-9223372036854775808 : Int) ≤ 1 ∧ (1 : Int) ≤ 9223372036854775807; omega⟩
  have := heap_alloc_new (u.alloc (.cells #[.int .i64 0,.string { data := #[] },.int .i64 0,.int .i64 0,.int .i64 0,.int .i64 0,.string { data := #[] },.slice none 0 0] 28)) (.cells #[.slice (some ⟨b,off,none⟩) (kk + 1) cap,.int .i64 0,.int .i64 0,.int .i64 0,.int .i64 0,.int .i64 1] 87)
  rw [show (u.alloc (.cells #[.int .i64 0,.string { data := #[] },.int .i64 0,.int .i64 0,.int .i64 0,.int .i64 0,.string { data := #[] },.slice none 0 0] 28)).heap.size = u.heap.size + 1 by simp] at this
  exact this
 have HRb : Hid ((((u.alloc (.cells #[.int .i64 0,.string { data := #[] },.int .i64 0,.int .i64 0,.int .i64 0,.int .i64 0,.string { data := #[] },.slice none 0 0] 28)).alloc (.cells #[.slice (some ⟨b,off,none⟩) (kk + 1) cap,.int .i64 0,.int .i64 0,.int .i64 0,.int .i64 0,.int .i64 1] 87))).heap[u.heap.size]? = some (.cells #[.int .i64 0,.string { data := #[] },.int .i64 0,.int .i64 0,.int .i64 0,.int .i64 0,.string { data := #[] },.slice none 0 0] 28 (0,0))) := blk_alloc (heap_alloc_new u _) _
 have hsz : (((u.alloc (.cells #[.int .i64 0,.string { data := #[] },.int .i64 0,.int .i64 0,.int .i64 0,.int .i64 0,.string { data := #[] },.slice none 0 0] 28)).alloc (.cells #[.slice (some ⟨b,off,none⟩) (kk + 1) cap,.int .i64 0,.int .i64 0,.int .i64 0,.int .i64 0,.int .i64 1] 87))).heap.size = u.heap.size + 1 + 1 := by simp
 have HBe : Hid (Below u.heap.size u ((u.alloc (.cells #[.int .i64 0,.string { data := #[] },.int .i64 0,.int .i64 0,.int .i64 0,.int .i64 0,.string { data := #[] },.slice none 0 0] 28)).alloc (.cells #[.slice (some ⟨b,off,none⟩) (kk + 1) cap,.int .i64 0,.int .i64 0,.int .i64 0,.int .i64 0,.int .i64 1] 87))) := ((Below.refl _ _).alloc (Nat.le_refl _) _).alloc (by simp) _
 have HS : Hid (Sx ((u.alloc (.cells #[.int .i64 0,.string { data := #[] },.int .i64 0,.int .i64 0,.int .i64 0,.int .i64 0,.string { data := #[] },.slice none 0 0] 28)).alloc (.cells #[.slice (some ⟨b,off,none⟩) (kk + 1) cap,.int .i64 0,.int .i64 0,.int .i64 0,.int .i64 0,.int .i64 1] 87)) (u.heap.size + 1) (some ⟨b,off,none⟩) (kk + 1) cap ts (((u.alloc (.cells #[.int .i64 0,.string { data := #[] },.int .i64 0,.int .i64 0,.int .i64 0,.int .i64 0,.string { data := #[] },.slice none 0 0] 28)).alloc (.cells #[.slice (some ⟨b,off,none⟩) (kk + 1) cap,.int .i64 0,.int .i64 0,.int .i64 0,.int .i64 0,.int .i64 1] 87))).heap.size (.slice none 0 0) [] ((((u.alloc (.cells #[.int .i64 0,.string { data := #[] },.int .i64 0,.int .i64 0,.int .i64 0,.int .i64 0,.string { data := #[] },.slice none 0 0] 28)).alloc (.cells #[.slice (some ⟨b,off,none⟩) (kk + 1) cap,.int .i64 0,.int .i64 0,.int .i64 0,.int .i64 0,.int .i64 1] 87))).alloc (.cells #[.int .i64 1,.string { data := #[] },.int .i64 0,.int .i64 0,.int .i64 0,.int .i64 q.pos,.string { data := #[] },.slice none 0 0] 28)) (⟨0,0,0,0,1⟩ : Gs) [(u.heap.size + 1 + 1,#[.int .i64 1,.string { data := #[] },.int .i64 0,.int .i64 0,.int .i64 0,.int .i64 q.pos,.string { data := #[] },.slice none 0 0])] (.slice none 0 0) [] []) := by
  have h := (Sx.begin HGm.out).allocAt #[.int .i64 1,.string { data := #[] },.int .i64 0,.int .i64 0,.int .i64 0,.int .i64 q.pos,.string { data := #[] },.slice none 0 0] _ hsz
  exact h
 have HSz : Hid _ := hsz
 obtain ⟨np,hnp⟩ : ∃ np,np = q.pos := ⟨_,rfl⟩
 rw [← hnp] at d3 HS HNq HPq
 clear h6 hc h5 ht hq h1 h4 htk h2 hlast h0 h3 hne hnpq hnp hsz
 go_enter Tryz.func23,Tryz.ntmps23
 refine wp_seq_k fun K hK => ?_
 have HK : Hid _ := hK
 clear hK
 go_wp2
 refine HK.out _ _ ?_
 clear HK K
 refine wp_seq_k fun K hK => ?_
 have HK : Hid _ := hK
 clear hK
 go_wp2
 refine HK.out _ _ ?_
 clear HK K
 refine wp_seq_k fun K hK => ?_
 have HK : Hid _ := hK
 clear hK
 go_wp2
 refine HK.out _ _ ?_
 clear HK K
 refine wp_seq_k fun K hK => ?_
 have HK : Hid _ := hK
 clear hK
 go_wp2
 refine HK.out _ _ ?_
 clear HK K
 refine wp_seq_k fun K hK => ?_
 have HK : Hid _ := hK
 clear hK
 go_wp2
 refine HK.out _ _ ?_
 clear HK K
 refine wp_asU (g := u.heap.size + 1) (rb := u.heap.size) (nb := u.heap.size + 1 + 1) (a := some ⟨b,off,none⟩) (len := kk + 1) (cap := cap) _ rfl rfl ?_
 intro us
 have hS := HS.out
 rw [← HPq.out] at hS ⊢
 refine tkp_all0 HSim us hS HRb.out (by rw [HSz.out]; omega) (by omega) ⟨Nat.le_refl _,by omega,HBe.out⟩ HG.out (by rw [HPq.out]; exact HNq.out)

end Go.Proofs.YtlekfcehmlepkaaGreatDoor

namespace Go.Proofs.YtlekfcehmlepkaaGreatDoor
set_option linter.unusedVariables false
set_option linter.unusedSimpArgs false

theorem qtk_len (q : Int) : ∀ (f : Nat) (s : List Int) (i : Int) (out : List Int),(qtk q f s i out).2.2 = 0 → ((qtk q f s i out).1.length : Int) + 2 * i ≤ out.length + 2 * (qtk q f s i out).2.1
 | 0,s,i,out,h => by simp [qtk] at h
 | f + 1,[],i,out,h => by simp [qtk] at h
 | f + 1,c :: r,i,out,h => by
  rw [qtk] at h ⊢
  by_cases h1 : c = q
  ·rw [if_pos h1]; simp only; omega
  rw [if_neg h1] at h ⊢
  by_cases h2 : c = 0 ∨ c = 10
  ·rw [if_pos h2] at h; simp at h
  rw [if_neg h2] at h ⊢
  by_cases h3 : c = 92
  ·rw [if_pos h3] at h ⊢
   by_cases h4 : (qesc r).2 = 0
   ·rw [if_pos h4] at h; simp at h
   ·rw [if_neg h4] at h ⊢
    have := qtk_len q f _ _ _ h
    have hq := (qesc_le r).2.2
    rw [List.length_append] at this
    omega
  ·rw [if_neg h3] at h ⊢
   have := qtk_len q f _ _ _ h
   rw [List.length_append,List.length_singleton] at this
   omega

theorem qtake_len (s : List Int) (h : (qtake s).2.2 = 0) : ((qtake s).1.length : Int) ≤ 2 * (qtake s).2.1 := by
 cases s with
 | nil => simp [qtake] at h
 | cons c r =>
  unfold qtake at h ⊢
  simp only at h ⊢
  by_cases h1 : c = 34 ∨ c = 39
  ·rw [if_pos h1] at h ⊢
   have := qtk_len c r.length r 1 [] h
   simp only [List.length_nil] at this
   omega
  ·rw [if_neg h1] at h; simp at h

theorem lpc_len2 (s : List Int) (i k : Nat) : (lpc s i k).length ≤ k - i := by
 unfold lpc
 rw [List.length_drop,List.length_take]
 omega

theorem ltok_len {s : List Int} {i : Nat} {d : List Int} {t : Tk} {k : Nat} (hi : i < s.length) (h : ltok s i d = .inl (t,k)) : i < k ∧ k ≤ s.length ∧ t.text.length ≤ 2 * (k - i) ∧ t.doc = d ∧ t.pos = i ∧ (0 ≤ t.kind ∧ t.kind ≤ 4) ∧ 0 ≤ t.n ∧ t.n ≤ 18446744073709551615 := by
 unfold ltok at h
 have h0 := lrun_ge lletter s s.length (s.length - (i + 1)) (i + 1)
 have h1 := lrun_le lletter s s.length (s.length - (i + 1)) (i + 1) (by omega)
 by_cases k1 : lletter (s.getD i 0) = true
 ·rw [if_pos k1] at h
  simp only at h
  by_cases k2 : lnumb (s.getD i 0) = true
  ·rw [if_pos k2] at h
   by_cases k3 : (qnum (lpc s i (lrun lletter s s.length (s.length - (i + 1)) (i + 1)))).2 = true
   ·rw [if_pos k3] at h
    cases h
    refine ⟨by omega,h1,by simp,rfl,rfl,by simp only; omega,(qnum_bd _).1,(qnum_bd _).2⟩
   ·rw [if_neg k3] at h; cases h
  ·rw [if_neg k2] at h
   cases h
   refine ⟨by omega,h1,?_,rfl,rfl,by simp only; omega,by simp only; omega,by simp only; omega⟩
   have := lpc_len2 s i (lrun lletter s s.length (s.length - (i + 1)) (i + 1))
   simp only
   omega
 ·rw [if_neg k1] at h
  by_cases k2 : s.getD i 0 = 34 ∨ s.getD i 0 = 39
  ·rw [if_pos k2] at h
   by_cases k3 : (qtake (s.drop i)).2.2 = 0
   ·rw [if_pos k3] at h
    cases h
    have h2 := qtake_len _ k3
    have h3 := qtake_place (s.drop i)
    have h4 := qtake_app (s.drop i) [] k3
    rw [List.length_drop] at h3
    refine ⟨by omega,by omega,?_,rfl,rfl,by simp only; omega,by simp only; omega,by simp only; omega⟩
    simp only
    omega
   ·rw [if_neg k3] at h; cases h
  ·rw [if_neg k2] at h
   by_cases k3 : lsign (s.getD i 0) = true
   ·rw [if_pos k3] at h
    cases h
    refine ⟨by omega,by omega,?_,rfl,rfl,by simp only; omega,by simp only; omega,by simp only; omega⟩
    have := lpc_len2 s i (i + 1)
    simp only
    omega
   ·rw [if_neg k3] at h; cases h

theorem ldl_len (s : List Int) (marks : List Nat) : ∀ (f frm : Nat) (out : List Int),(ldl s marks f frm out).length ≤ out.length + frm
 | 0,frm,out => by rw [ldl]; omega
 | f + 1,frm,out => by
  rw [ldl]
  by_cases h0 : frm = 0
  ·rw [if_pos h0]; omega
  rw [if_neg h0]
  cases h1 : lown s (lnAt s (frm - 1)) (frm - 1) with
  | none => simp only; omega
  | some t =>
   simp only
   by_cases h2 : (linside marks (lnAt s (frm - 1)) || linside marks (frm - 1)) = true
   ·rw [if_pos h2]; omega
   ·rw [if_neg h2]
    have ih := ldl_len s marks f (lnAt s (frm - 1)) (t ++ [10] ++ out)
    have hl := lnAt_le s (frm - 1)
    have ht : t.length ≤ frm - 1 - lnAt s (frm - 1) := by
     unfold lown at h1
     simp only at h1
     split at h1
     ·have hg := lrun_ge lblank s (frm - 1) (frm - 1 - lnAt s (frm - 1)) (lnAt s (frm - 1))
      simp only [Option.some.injEq] at h1
      rw [← h1,List.length_drop,List.length_take]
      omega
     ·cases h1
    simp only [List.length_append,List.length_singleton] at ih
    omega

theorem ldoc_len (s : List Int) (k : Nat) (marks : List Nat) : (ldoc s k marks).length ≤ k := by
 unfold ldoc
 split
 ·have := ldl_len s marks (lnAt s k) (lnAt s k) []
  have := lnAt_le s k
  simp only [List.length_nil] at *
  omega
 ·simp

def TkFit (n : Nat) (t : Tk) : Prop := t.text.length ≤ 2 * n ∧ t.doc.length ≤ n ∧ t.pos ≤ n ∧ (0 ≤ t.kind ∧ t.kind ≤ 4) ∧ 0 ≤ t.n ∧ t.n ≤ 18446744073709551615

def tsum : List Tk → Nat
 | [] => 0
 | t :: r => t.text.length + 1 + tsum r

theorem tsum_append : ∀ (a b : List Tk),tsum (a ++ b) = tsum a + tsum b
 | [],b => by simp [tsum]
 | t :: r,b => by simp [tsum,tsum_append r b]; omega

theorem lsc_fit (s : List Int) : ∀ (f i0 : Nat) (out : List Tk) (marks : List Nat),i0 ≤ s.length → (∀ t ∈ out,TkFit s.length t) → tsum out ≤ 3 * i0 →
  (∀ t ∈ (lsc s f i0 out marks).1,TkFit s.length t) ∧ tsum (lsc s f i0 out marks).1 ≤ 3 * s.length + 1
 | 0,i0,out,marks,_,_,_ => ⟨fun t ht => absurd (show t ∈ ([] : List Tk) from ht) (by simp),by simp [lsc,tsum]⟩
 | f + 1,i0,out,marks,hi0,hout,hsum => by
  have hg := lrun_ge lblank s s.length (s.length - i0) i0
  have hl := lrun_le lblank s s.length (s.length - i0) i0 hi0
  rw [lsc]
  simp only
  generalize lrun lblank s s.length (s.length - i0) i0 = i at hg hl ⊢
  by_cases h1 : i = s.length
  ·rw [if_pos h1]
   simp only
   refine ⟨fun t ht => ?_,?_⟩
   ·rcases List.mem_append.1 ht with ht | ht
    ·exact hout t ht
    ·simp only [List.mem_cons,List.not_mem_nil,or_false] at ht
     subst ht
     exact ⟨by simp,by have := ldoc_len s i marks; simp only; omega,by simp only; omega,by simp only; omega,by simp only; omega,by simp only; omega⟩
   ·rw [tsum_append]
    simp only [tsum,List.length_nil]
    omega
  rw [if_neg h1]
  by_cases h2 : i + 1 < s.length ∧ s.getD i 0 = 47 ∧ s.getD (i + 1) 0 = 47
  ·rw [if_pos h2]
   have hg2 := lrun_ge leol s s.length (s.length - i) i
   have hl2 := lrun_le leol s s.length (s.length - i) i (by omega)
   exact lsc_fit s f _ out marks hl2 hout (by omega)
  rw [if_neg h2]
  by_cases h3 : i + 1 < s.length ∧ s.getD i 0 = 47 ∧ s.getD (i + 1) 0 = 42
  ·rw [if_pos h3]
   have hc := lcl_ge s (s.length - (i + 2)) (i + 2)
   by_cases h4 : lcl s (s.length - (i + 2)) (i + 2) + 1 < s.length
   ·rw [if_pos h4]
    exact lsc_fit s f _ out _ (by omega) hout (by omega)
   ·rw [if_neg h4]
    exact ⟨fun t ht => absurd (show t ∈ ([] : List Tk) from ht) (by simp),by simp [tsum]⟩
  rw [if_neg h3]
  cases h4 : ltok s i (ldoc s i marks) with
  | inr p => exact ⟨fun t ht => absurd (show t ∈ ([] : List Tk) from ht) (by simp),by simp [tsum]⟩
  | inl p =>
   obtain ⟨t,k⟩ := p
   have ht := ltok_len (by omega) h4
   refine lsc_fit s f k (out ++ [t]) marks ht.2.1 (fun u hu => ?_) ?_
   ·rcases List.mem_append.1 hu with hu | hu
    ·exact hout u hu
    ·simp only [List.mem_cons,List.not_mem_nil,or_false] at hu
     subst hu
     have hd := ldoc_len s i marks
     refine ⟨by omega,by rw [ht.2.2.2.1]; omega,by rw [ht.2.2.2.2.1]; omega,ht.2.2.2.2.2⟩
   ·rw [tsum_append]
    simp only [tsum]
    omega

theorem lscan_fit (s : List Int) : (∀ t ∈ (lscan s).1,TkFit s.length t) ∧ tsum (lscan s).1 ≤ 3 * s.length + 1 := by
 unfold lscan
 split
 ·exact ⟨fun t ht => absurd (show t ∈ ([] : List Tk) from ht) (by simp),by simp [tsum]⟩
 ·exact lsc_fit s _ 0 [] [] (by omega) (by simp) (by simp [tsum])

end Go.Proofs.YtlekfcehmlepkaaGreatDoor
