/- Put together by a program out of these texts of mine: GFull, TChk1. -/
import Derived.Test.YtlekfcehmlepkaaGreatDoorBunD5
import Derived.Test.YtlekfcehmlepkaaGreatDoorBunD9
import Derived.Test.YtlekfcehmlepkaaGreatDoorBunD21

namespace Go.Proofs.YtlekfcehmlepkaaGreatDoor
open Go.RowKit
set_option linter.unusedVariables false
set_option linter.unusedSimpArgs false

def gpos (w : World) (g : Nat) : Nat := match w.cell? ⟨g,1,none⟩ with | some (.int _ n) => n.toNat | _ => 0

theorem Gm.pos {w : World} {g : Nat} {a : Option Addr} {len cap : Nat} {ts : List Tq} {s : Gs} (h : Gm w g a len cap ts s) : gpos w g = s.i := by
 unfold gpos
 rw [h.blk.cells.2.1]
 simp

theorem gsum_drop : ∀ (ts : List Tq) (i : Nat) (h : i < ts.length),gsum (ts.drop i) = ts[i].text.length + 1 + gsum (ts.drop (i + 1))
 | [],i,h => by simp at h
 | t :: r,0,h => by simp [gsum]
 | t :: r,i + 1,h => by simpa using gsum_drop r i (by simpa using h)

theorem gsum_le : ∀ (ts : List Tq) (i : Nat),gsum (ts.drop i) ≤ gsum ts
 | [],i => by simp
 | t :: r,0 => by simp
 | t :: r,i + 1 => by have := gsum_le r i; simp [gsum]; omega

theorem gfail_i (ts : List Tq) (c : Int) (s : Gs) : (gfail ts c s).i = s.i := by unfold gfail; split <;> rfl

theorem gfail_e (ts : List Tq) (c : Int) (s : Gs) (hc : c ≠ 0) : (gfail ts c s).e ≠ 0 := by unfold gfail; split <;> assumption

theorem gnext_i (ts : List Tq) (s : Gs) : s.i ≤ (gnext ts s).i := by unfold gnext; split <;> simp

theorem gnext_e (ts : List Tq) (s : Gs) : (gnext ts s).e = s.e := by unfold gnext; split <;> rfl

theorem Gm.more {w : World} {g : Nat} {a : Option Addr} {len cap : Nat} {ts : List Tq} {s : Gs} (h : Gm w g a len cap ts s) (hk : (gnow ts s).kind ≠ 0) : s.i + 1 < ts.length := by
 have hl := h.tok.1
 have hlt := h.lt
 rcases Nat.lt_or_ge (s.i + 1) ts.length with hh | hh
 ·exact hh
 ·have : s.i = len - 1 := by omega
  have h2 := h.last
  unfold gnow at hk
  rw [this] at hk
  exact absurd h2 hk

theorem gis_kind {ts : List Tq} {t : List Int} {s : Gs} (h : gis ts t s = true) : s.e = 0 ∧ (gnow ts s).kind = 4 ∧ (gnow ts s).text = t := of_decide_eq_true h

theorem gisw_kind {ts : List Tq} {t : List Int} {s : Gs} (h : gisw ts t s = true) : s.e = 0 ∧ (gnow ts s).kind = 1 ∧ (gnow ts s).text = t := of_decide_eq_true h

theorem Gm.step {w : World} {g : Nat} {a : Option Addr} {len cap : Nat} {ts : List Tq} {s : Gs} (h : Gm w g a len cap ts s) {t : List Int} (hs : gis ts t s = true) : gnext ts s = { s with i := s.i + 1 } := by
 obtain ⟨h1,h2,_⟩ := gis_kind hs
 exact gnext_on ts s ⟨h1,h.more (by rw [h2]; decide)⟩

theorem gname_i (ts : List Tq) (s : Gs) : s.i ≤ (gnameS ts s).i := by
 unfold gnameS
 simp only
 split
 ·exact Nat.le_trans (Nat.le_of_eq (gfail_i ts 80 s).symm) (gnext_i _ _)
 ·exact gnext_i _ _

theorem gname_e (ts : List Tq) (s : Gs) (h : (gnameS ts s).e = 0) : s.e = 0 ∧ (gnow ts s).kind = 1 ∧ nident (gnow ts s).text = true ∧ gnameS ts s = gnext ts s := by
 unfold gnameS at *
 simp only at *
 by_cases hb : (gnow ts s).kind ≠ 1 ∨ nident (gnow ts s).text = false
 ·rw [if_pos hb,gnext_e] at h
  exact absurd h (gfail_e ts 80 s (by decide))
 ·rw [if_neg hb] at h ⊢
  rw [gnext_e] at h
  refine ⟨h,?_,?_,rfl⟩
  ·rcases Int.decEq (gnow ts s).kind 1 with h1 | h1
   ·exact absurd (Or.inl h1) hb
   ·exact h1
  ·cases hn : nident (gnow ts s).text with
   | true => rfl
   | false => exact absurd (Or.inr hn) hb

def gfit (ts : List Tq) (s : Gs) (r : List Int) : Prop := (s.e = 0 → r.length + gsum (ts.drop s.i) ≤ 90000) ∧ r.length ≤ 96000 ∧ byts r

theorem gfit_name {w : World} {g : Nat} {a : Option Addr} {len cap : Nat} {ts : List Tq} {s : Gs} (h : Gm w g a len cap ts s) (r : List Int) (hr : r.length + gsum (ts.drop s.i) ≤ 90000) (hb : byts r) : gfit ts (gnameS ts s) (r ++ (gnow ts s).text) := by
 have hl : s.i < ts.length := by rw [h.tok.1]; exact h.lt
 have hg := gsum_drop ts s.i hl
 have hok := h.now_ok.2.2.2.2.2.1
 have hn : gnow ts s = ts[s.i] := by unfold gnow; simp [List.getD,hl]
 have hby := h.now_ok.2.1
 rw [hn] at hok hby ⊢
 refine ⟨fun he => ?_,by simp; omega,fun c hc => ?_⟩
 rotate_left
 ·rcases List.mem_append.1 hc with hc | hc
  ·exact hb c hc
  ·exact hby c hc
 obtain ⟨h0,h1,h2,h3⟩ := gname_e ts s he
 have hm := h.more (by rw [h1]; decide)
 rw [h3,gnext_on ts s ⟨h0,hm⟩]
 simp
 omega

theorem b46 : byts [46] := by unfold byts; decide

def gfin (ts : List Tq) (frm : Nat) (r : List Int × Gs) : Gs := if r.2.e = 0 ∧ 1000 < r.1.length then gfail ts 80 { r.2 with i := frm } else r.2

theorem Gm.back {w : World} {g : Nat} {a : Option Addr} {len cap : Nat} {ts : List Tq} {s : Gs} (h : Gm w g a len cap ts s) (i : Nat) (hi : i < len) : Gm (w.setCell ⟨g,1,none⟩ (.int .i64 (i : Int))) g a len cap ts { s with i := i } :=
 h.turn (grown_set 1 _) (set_heap' h.blk 1 _) hi h.op0 h.op1 h.pa h.e0 h.e1 h.n

set_option maxHeartbeats 2000000 in
theorem rgfull_any {w : World} {g : Nat} {a : Option Addr} {len cap : Nat} {ts : List Tq} {s : Gs} (H : Hid (Gm w g a len cap ts s)) (ahead : Bool) :
  Calls Tryz.prog 65 #[.pointer (some ⟨g,0,none⟩),.bool ahead] w fun e w' => e = .returned (.string (strOfNums (gfull ts ahead s).1)) ∧ w.grownBy w' (some g) ∧ Gm w' g a len cap ts (gfull ts ahead s).2 ∧ (gfull ts ahead s).1.length ≤ 96001 ∧ byts (gfull ts ahead s).1 := by
 have hg := H.out.blk.size
 obtain ⟨dot,hdot⟩ : ∃ dot,dot = (ahead && gis ts [46] s) := ⟨_,rfl⟩
 obtain ⟨s0,hs0⟩ : ∃ s0,s0 = (if dot = true then gnext ts s else s) := ⟨_,rfl⟩
 obtain ⟨R,hR⟩ : ∃ R,R = gfl ts ts.length (gnameS ts s0) (gnow ts s0).text := ⟨_,rfl⟩
 have HE : Hid (gfull ts ahead s = ((if dot = true then [46] else []) ++ R.1,gfin ts s0.i R)) := by show _ = _; unfold gfull gfin; simp only; rw [← hdot,← hs0,← hR]
 have HR : Hid (R = gfl ts ts.length (gnameS ts s0) (gnow ts s0).text) := hR
 clear hR
 have Q1 : Hid _ := rgsign_any H [46] b46
 cases ahead with
 | true =>
  rw [Bool.true_and] at hdot
  rw [← hdot] at Q1
  cases dot with
  | true =>
   rw [if_pos rfl] at hs0 HE
   rw [gsign_on _ _ _ hdot.symm,← hs0] at Q1
   clear hdot hs0
   go_enter Tryz.func65,Tryz.ntmps65
   go_wp2_with fail
   refine Calls.mono Q1.out ?_
   rintro e w1 ⟨rfl,hgx,Hx⟩
   have HG1 : Hid (w.grownBy w1 (some g)) := hgx
   have H1 : Hid (Gm w1 g a len cap ts s0) := Hx
   clear hgx Hx
   obtain ⟨c0,c1,c2,c3,c4,c5⟩ := H1.out.blk.cells
   have hg1 := H1.out.blk.size
   have hi1 := H1.out.lt
   have QN : Hid _ := rgname_any H1
   have HF0 : Hid (gfit ts (gnameS ts s0) (gnow ts s0).text) := by show gfit _ _ _; have := gfit_name H1.out [] (by simp; have := gsum_le ts s0.i; have := H1.out.tok.2.2.2.2.1.2; omega) (fun c hc => by simp at hc); simpa using this
   obtain ⟨X0,hX0⟩ : ∃ X0,X0 = (gnow ts s0).text := ⟨_,rfl⟩
   rw [← hX0] at QN HF0 HR
   clear hX0
   go_wp2_with fail
   refine Calls.mono QN.out ?_
   rintro e w2 ⟨rfl,hg2,H2⟩
   have HG2 : Hid (w.grownBy w2 (some g)) := grown_trans HG1.out hg2
   have HM2 : Hid (Gm w2 g a len cap ts (gnameS ts s0)) := H2
   clear hg2 H2 QN
   go_wp2
   go_loopw [7] (fun v wr => ∃ (f : Nat) (s' : Gs) (r : List Int),v = .string (strOfNums r) ∧ Hid (Gm wr g a len cap ts s') ∧ Hid (w.grownBy wr (some g)) ∧ Hid (R = gfl ts f s' r) ∧ len - s'.i ≤ f ∧ Hid (gfit ts s' r)) (fun _ wr => len - gpos wr g)
   case atStart => exact ⟨ts.length,gnameS ts s0,X0,rfl,HM2,HG2,HR,by have := HM2.out.tok.1; omega,HF0⟩
   case round =>
    obtain ⟨f,s',r,rfl,HM,HGr,HJ,hf,HFit⟩ := hrel
    have hlt := HM.out.lt
    have hgr := HM.out.blk.size
    have QS : Hid _ := rgsign_any HM [46] b46
    have hrl := HFit.out.2.1
    obtain ⟨f,rfl⟩ : ∃ f',f = f' + 1 := ⟨f - 1,by omega⟩
    cases hd : gis ts [46] s' with
    | true =>
     rw [hd,gsign_on _ _ _ hd] at QS
     have hst := HM.out.step hd
     have HJ' := HJ.out
     rw [gfl,if_pos hd] at HJ'
     obtain ⟨g1,g2,g3⟩ := gis_kind hd
     have hl2 : s'.i < ts.length := by rw [HM.out.tok.1]; exact hlt
     have hgd := gsum_drop ts s'.i hl2
     have hfz := HFit.out.1 g1
     have hnx : gnow ts s' = ts[s'.i] := by unfold gnow; simp [List.getD,hl2]
     rw [hnx] at g3
     rw [g3] at hgd
     have HP : Hid (gpos wr g = s'.i) := HM.out.pos
     have hii : (gnext ts s').i = s'.i + 1 := by rw [hst]
     have hft : (r ++ [46]).length + gsum (ts.drop (gnext ts s').i) ≤ 90000 := by rw [hii]; simp at hgd ⊢; omega
     have HQN : Hid (∀ V,Gm V g a len cap ts (gnext ts s') → Calls Tryz.prog 61 #[.pointer (some ⟨g,0,none⟩)] V fun e w' => e = .returned (.string (strOfNums (gnow ts (gnext ts s')).text)) ∧ V.grownBy w' (some g) ∧ Gm w' g a len cap ts (gnameS ts (gnext ts s'))) := fun V hV => rgname_any hV
     have HNI : Hid (s'.i + 1 ≤ (gnameS ts (gnext ts s')).i) := by have := gname_i ts (gnext ts s'); rw [hii] at this; exact this
     have HFN : Hid (∀ V,Gm V g a len cap ts (gnext ts s') → gfit ts (gnameS ts (gnext ts s')) ((r ++ [46]) ++ (gnow ts (gnext ts s')).text) ∧ (gnow ts (gnext ts s')).text.length ≤ 5000) := fun V hV => ⟨gfit_name hV (r ++ [46]) hft (fun c hc => by rcases List.mem_append.1 hc with hc | hc; exact HFit.out.2.2 c hc; exact b46 c hc),hV.now_ok.2.2.2.2.2.1⟩
     obtain ⟨X,hX⟩ : ∃ X,X = (gnow ts (gnext ts s')).text := ⟨_,rfl⟩
     rw [← hX] at HJ' HQN HFN
     have HJ2 : Hid _ := HJ'
     clear HJ HJ' g1 g2 g3 hgd hfz hnx hst hd hft hii hX
     go_wp2_with fail
     refine Calls.mono QS.out ?_
     rintro e w3 ⟨rfl,hg3,H3⟩
     obtain ⟨hfx,hxl⟩ := HFN.out w3 H3
     have HFX : Hid (gfit ts (gnameS ts (gnext ts s')) (r ++ 46 :: X)) := by show gfit _ _ _; rw [List.append_assoc] at hfx; exact hfx
     have HJ3 : Hid (R = gfl ts f (gnameS ts (gnext ts s')) (r ++ 46 :: X)) := by show _ = _; have := HJ2.out; rw [List.append_assoc] at this; exact this
     have l1 : ∀ W,(Op.stringOp .add { data := #[46] } (strOfNums X)).run Tryz.prog W = .ok (.string (strOfNums (46 :: X))) W := fun W => run_add W [46] X (by simp; omega)
     have l2 : ∀ W,(Op.stringOp .add (strOfNums r) (strOfNums (46 :: X))).run Tryz.prog W = .ok (.string (strOfNums (r ++ 46 :: X))) W := fun W => run_add W r (46 :: X) (by simp; omega)
     have QN : Hid _ := HQN.out w3 H3
     clear hfx
     go_wp2_with fail
     refine Calls.mono QN.out ?_
     rintro e w4 ⟨rfl,hg4,H4⟩
     go_wp2
     go_roundw
     case rel => first | exact ⟨f,gnameS ts (gnext ts s'),r ++ 46 :: X,rfl,H4,grown_trans (grown_trans HGr.out hg3) hg4,HJ3,by have := HNI.out; omega,HFX⟩ | ((repeat apply Exists.intro); exact ⟨⟨f,gnameS ts (gnext ts s'),r ++ 46 :: X,rfl,H4,grown_trans (grown_trans HGr.out hg3) hg4,HJ3,by have := HNI.out; omega,HFX⟩,rfl⟩)
     case measure => rw [H4.pos,HP.out]; have := HNI.out; omega
    | false =>
     rw [hd,gsign_off _ _ _ hd] at QS
     have HJ' := HJ.out
     rw [gfl,if_neg (by rw [hd]; decide)] at HJ'
     have HRe : Hid (R = (r,s')) := HJ'
     have l2 : ∀ W,(Op.stringOp .add { data := #[46] } (strOfNums r)).run Tryz.prog W = .ok (.string (strOfNums ([46] ++ r))) W := fun W => run_add W [46] r (by simp; omega)
     have hrs := strOfNums_size r
     have HLen : Hid ((gfull ts true s).1.length ≤ 96001 ∧ byts (gfull ts true s).1) := by
      refine ⟨?_,?_⟩
      ·rw [HE.out,HRe.out]; simp; omega
      ·rw [HE.out,HRe.out]
       intro c hc
       rcases List.mem_append.1 hc with hc | hc; exact b46 c hc; exact HFit.out.2.2 c hc
     clear HJ HJ' hd
     go_wp2_with fail
     refine Calls.mono QS.out ?_
     rintro e w3 ⟨rfl,hg3,H3⟩
     have HM3 : Hid (Gm w3 g a len cap ts s') := H3
     have HG3 : Hid (w.grownBy w3 (some g)) := grown_trans HGr.out hg3
     obtain ⟨d0,d1,d2,d3,d4,d5⟩ := H3.blk.cells
     have f1 := H3.blk.free 1
     have hg3s := H3.blk.size
     clear hg3 H3 c0 c1 c2 c3 c4 c5
     by_cases he : s'.e = 0
     ·rw [he] at d4
      by_cases hbig : 1000 < r.length
      ·have hbig' : (1000 : Int) < (r.length : Int) := by omega
       have HFi : Hid (gfin ts s0.i R = gfail ts 80 { s' with i := s0.i }) := by show _ = _; rw [HRe.out]; unfold gfin; rw [if_pos ⟨he,hbig⟩]
       have H4 : Hid (Gm (w3.setCell ⟨g,1,none⟩ (.int .i64 (s0.i : Int))) g a len cap ts { s' with i := s0.i }) := HM3.out.back s0.i hi1
       have QF : Hid _ := rgfail_any H4 80 (by omega) (by omega)
       generalize strOfNums r = TR at *
       go_wp2_with fail
       refine Calls.mono QF.out ?_
       rintro e w5 ⟨rfl,hg5,H5⟩
       go_wp2
       go_ret
       exact ⟨by rw [HE.out,HRe.out]; rfl,grown_trans (grown_own HG3.out 1 _) hg5,by rw [HE.out]; show Gm w5 g a len cap ts (gfin ts s0.i R); rw [HFi.out]; exact H5,HLen.out⟩
      ·have hbig' : ¬ (1000 : Int) < (r.length : Int) := by omega
       have HFi : Hid (gfin ts s0.i R = s') := by show _ = _; rw [HRe.out]; unfold gfin; rw [if_neg (fun h => hbig h.2)]
       generalize strOfNums r = TR at *
       go_wp2
       go_ret
       exact ⟨by rw [HE.out,HRe.out]; rfl,HG3.out,by rw [HE.out]; show Gm w3 g a len cap ts (gfin ts s0.i R); rw [HFi.out]; exact HM3.out,HLen.out⟩
     ·have e1 : (s'.e == 0) = false := by simpa using he
      have HFi : Hid (gfin ts s0.i R = s') := by show _ = _; rw [HRe.out]; unfold gfin; rw [if_neg (fun h => he h.1)]
      generalize strOfNums r = TR at *
      go_wp2
      go_ret
      exact ⟨by rw [HE.out,HRe.out]; rfl,HG3.out,by rw [HE.out]; show Gm w3 g a len cap ts (gfin ts s0.i R); rw [HFi.out]; exact HM3.out,HLen.out⟩
  | false =>
   rw [if_neg (by decide)] at hs0 HE
   rw [gsign_off _ _ _ hdot.symm,← hs0] at Q1
   clear hdot
   subst hs0
   go_enter Tryz.func65,Tryz.ntmps65
   go_wp2_with fail
   refine Calls.mono Q1.out ?_
   rintro e w1 ⟨rfl,hgx,Hx⟩
   have HG1 : Hid (w.grownBy w1 (some g)) := hgx
   have H1 : Hid (Gm w1 g a len cap ts s0) := Hx
   clear hgx Hx
   obtain ⟨c0,c1,c2,c3,c4,c5⟩ := H1.out.blk.cells
   have hg1 := H1.out.blk.size
   have hi1 := H1.out.lt
   have QN : Hid _ := rgname_any H1
   have HF0 : Hid (gfit ts (gnameS ts s0) (gnow ts s0).text) := by show gfit _ _ _; have := gfit_name H1.out [] (by simp; have := gsum_le ts s0.i; have := H1.out.tok.2.2.2.2.1.2; omega) (fun c hc => by simp at hc); simpa using this
   obtain ⟨X0,hX0⟩ : ∃ X0,X0 = (gnow ts s0).text := ⟨_,rfl⟩
   rw [← hX0] at QN HF0 HR
   clear hX0
   go_wp2_with fail
   refine Calls.mono QN.out ?_
   rintro e w2 ⟨rfl,hg2,H2⟩
   have HG2 : Hid (w.grownBy w2 (some g)) := grown_trans HG1.out hg2
   have HM2 : Hid (Gm w2 g a len cap ts (gnameS ts s0)) := H2
   clear hg2 H2 QN
   go_wp2
   go_loopw [7] (fun v wr => ∃ (f : Nat) (s' : Gs) (r : List Int),v = .string (strOfNums r) ∧ Hid (Gm wr g a len cap ts s') ∧ Hid (w.grownBy wr (some g)) ∧ Hid (R = gfl ts f s' r) ∧ len - s'.i ≤ f ∧ Hid (gfit ts s' r)) (fun _ wr => len - gpos wr g)
   case atStart => exact ⟨ts.length,gnameS ts s0,X0,rfl,HM2,HG2,HR,by have := HM2.out.tok.1; omega,HF0⟩
   case round =>
    obtain ⟨f,s',r,rfl,HM,HGr,HJ,hf,HFit⟩ := hrel
    have hlt := HM.out.lt
    have hgr := HM.out.blk.size
    have QS : Hid _ := rgsign_any HM [46] b46
    have hrl := HFit.out.2.1
    obtain ⟨f,rfl⟩ : ∃ f',f = f' + 1 := ⟨f - 1,by omega⟩
    cases hd : gis ts [46] s' with
    | true =>
     rw [hd,gsign_on _ _ _ hd] at QS
     have hst := HM.out.step hd
     have HJ' := HJ.out
     rw [gfl,if_pos hd] at HJ'
     obtain ⟨g1,g2,g3⟩ := gis_kind hd
     have hl2 : s'.i < ts.length := by rw [HM.out.tok.1]; exact hlt
     have hgd := gsum_drop ts s'.i hl2
     have hfz := HFit.out.1 g1
     have hnx : gnow ts s' = ts[s'.i] := by unfold gnow; simp [List.getD,hl2]
     rw [hnx] at g3
     rw [g3] at hgd
     have HP : Hid (gpos wr g = s'.i) := HM.out.pos
     have hii : (gnext ts s').i = s'.i + 1 := by rw [hst]
     have hft : (r ++ [46]).length + gsum (ts.drop (gnext ts s').i) ≤ 90000 := by rw [hii]; simp at hgd ⊢; omega
     have HQN : Hid (∀ V,Gm V g a len cap ts (gnext ts s') → Calls Tryz.prog 61 #[.pointer (some ⟨g,0,none⟩)] V fun e w' => e = .returned (.string (strOfNums (gnow ts (gnext ts s')).text)) ∧ V.grownBy w' (some g) ∧ Gm w' g a len cap ts (gnameS ts (gnext ts s'))) := fun V hV => rgname_any hV
     have HNI : Hid (s'.i + 1 ≤ (gnameS ts (gnext ts s')).i) := by have := gname_i ts (gnext ts s'); rw [hii] at this; exact this
     have HFN : Hid (∀ V,Gm V g a len cap ts (gnext ts s') → gfit ts (gnameS ts (gnext ts s')) ((r ++ [46]) ++ (gnow ts (gnext ts s')).text) ∧ (gnow ts (gnext ts s')).text.length ≤ 5000) := fun V hV => ⟨gfit_name hV (r ++ [46]) hft (fun c hc => by rcases List.mem_append.1 hc with hc | hc; exact HFit.out.2.2 c hc; exact b46 c hc),hV.now_ok.2.2.2.2.2.1⟩
     obtain ⟨X,hX⟩ : ∃ X,X = (gnow ts (gnext ts s')).text := ⟨_,rfl⟩
     rw [← hX] at HJ' HQN HFN
     have HJ2 : Hid _ := HJ'
     clear HJ HJ' g1 g2 g3 hgd hfz hnx hst hd hft hii hX
     go_wp2_with fail
     refine Calls.mono QS.out ?_
     rintro e w3 ⟨rfl,hg3,H3⟩
     obtain ⟨hfx,hxl⟩ := HFN.out w3 H3
     have HFX : Hid (gfit ts (gnameS ts (gnext ts s')) (r ++ 46 :: X)) := by show gfit _ _ _; rw [List.append_assoc] at hfx; exact hfx
     have HJ3 : Hid (R = gfl ts f (gnameS ts (gnext ts s')) (r ++ 46 :: X)) := by show _ = _; have := HJ2.out; rw [List.append_assoc] at this; exact this
     have l1 : ∀ W,(Op.stringOp .add { data := #[46] } (strOfNums X)).run Tryz.prog W = .ok (.string (strOfNums (46 :: X))) W := fun W => run_add W [46] X (by simp; omega)
     have l2 : ∀ W,(Op.stringOp .add (strOfNums r) (strOfNums (46 :: X))).run Tryz.prog W = .ok (.string (strOfNums (r ++ 46 :: X))) W := fun W => run_add W r (46 :: X) (by simp; omega)
     have QN : Hid _ := HQN.out w3 H3
     clear hfx
     go_wp2_with fail
     refine Calls.mono QN.out ?_
     rintro e w4 ⟨rfl,hg4,H4⟩
     go_wp2
     go_roundw
     case rel => first | exact ⟨f,gnameS ts (gnext ts s'),r ++ 46 :: X,rfl,H4,grown_trans (grown_trans HGr.out hg3) hg4,HJ3,by have := HNI.out; omega,HFX⟩ | ((repeat apply Exists.intro); exact ⟨⟨f,gnameS ts (gnext ts s'),r ++ 46 :: X,rfl,H4,grown_trans (grown_trans HGr.out hg3) hg4,HJ3,by have := HNI.out; omega,HFX⟩,rfl⟩)
     case measure => rw [H4.pos,HP.out]; have := HNI.out; omega
    | false =>
     rw [hd,gsign_off _ _ _ hd] at QS
     have HJ' := HJ.out
     rw [gfl,if_neg (by rw [hd]; decide)] at HJ'
     have HRe : Hid (R = (r,s')) := HJ'
     have l2 : ∀ W,(Op.stringOp .add { data := #[] } (strOfNums r)).run Tryz.prog W = .ok (.string (strOfNums ([] ++ r))) W := fun W => run_add W [] r (by simp; omega)
     have hrs := strOfNums_size r
     have HLen : Hid ((gfull ts true s0).1.length ≤ 96001 ∧ byts (gfull ts true s0).1) := by
      refine ⟨?_,?_⟩
      ·rw [HE.out,HRe.out]; simp; omega
      ·rw [HE.out,HRe.out]
       intro c hc
       rcases List.mem_append.1 hc with hc | hc; simp at hc; exact HFit.out.2.2 c hc
     clear HJ HJ' hd
     go_wp2_with fail
     refine Calls.mono QS.out ?_
     rintro e w3 ⟨rfl,hg3,H3⟩
     have HM3 : Hid (Gm w3 g a len cap ts s') := H3
     have HG3 : Hid (w.grownBy w3 (some g)) := grown_trans HGr.out hg3
     obtain ⟨d0,d1,d2,d3,d4,d5⟩ := H3.blk.cells
     have f1 := H3.blk.free 1
     have hg3s := H3.blk.size
     clear hg3 H3 c0 c1 c2 c3 c4 c5
     by_cases he : s'.e = 0
     ·rw [he] at d4
      by_cases hbig : 1000 < r.length
      ·have hbig' : (1000 : Int) < (r.length : Int) := by omega
       have HFi : Hid (gfin ts s0.i R = gfail ts 80 { s' with i := s0.i }) := by show _ = _; rw [HRe.out]; unfold gfin; rw [if_pos ⟨he,hbig⟩]
       have H4 : Hid (Gm (w3.setCell ⟨g,1,none⟩ (.int .i64 (s0.i : Int))) g a len cap ts { s' with i := s0.i }) := HM3.out.back s0.i hi1
       have QF : Hid _ := rgfail_any H4 80 (by omega) (by omega)
       generalize strOfNums r = TR at *
       go_wp2_with fail
       refine Calls.mono QF.out ?_
       rintro e w5 ⟨rfl,hg5,H5⟩
       go_wp2
       go_ret
       exact ⟨by rw [HE.out,HRe.out]; rfl,grown_trans (grown_own HG3.out 1 _) hg5,by rw [HE.out]; show Gm w5 g a len cap ts (gfin ts s0.i R); rw [HFi.out]; exact H5,HLen.out⟩
      ·have hbig' : ¬ (1000 : Int) < (r.length : Int) := by omega
       have HFi : Hid (gfin ts s0.i R = s') := by show _ = _; rw [HRe.out]; unfold gfin; rw [if_neg (fun h => hbig h.2)]
       generalize strOfNums r = TR at *
       go_wp2
       go_ret
       exact ⟨by rw [HE.out,HRe.out]; rfl,HG3.out,by rw [HE.out]; show Gm w3 g a len cap ts (gfin ts s0.i R); rw [HFi.out]; exact HM3.out,HLen.out⟩
     ·have e1 : (s'.e == 0) = false := by simpa using he
      have HFi : Hid (gfin ts s0.i R = s') := by show _ = _; rw [HRe.out]; unfold gfin; rw [if_neg (fun h => he h.1)]
      generalize strOfNums r = TR at *
      go_wp2
      go_ret
      exact ⟨by rw [HE.out,HRe.out]; rfl,HG3.out,by rw [HE.out]; show Gm w3 g a len cap ts (gfin ts s0.i R); rw [HFi.out]; exact HM3.out,HLen.out⟩
 | false =>
  rw [Bool.false_and] at hdot
  subst hdot
  rw [if_neg (by decide)] at hs0 HE
  subst hs0
  have HG1 : Hid (w.grownBy w (some g)) := grown_of (Below.refl _ _)
  have H1 : Hid (Gm w g a len cap ts s0) := H
  clear Q1
  go_enter Tryz.func65,Tryz.ntmps65
  obtain ⟨c0,c1,c2,c3,c4,c5⟩ := H1.out.blk.cells
  have hg1 := H1.out.blk.size
  have hi1 := H1.out.lt
  have QN : Hid _ := rgname_any H1
  have HF0 : Hid (gfit ts (gnameS ts s0) (gnow ts s0).text) := by show gfit _ _ _; have := gfit_name H1.out [] (by simp; have := gsum_le ts s0.i; have := H1.out.tok.2.2.2.2.1.2; omega) (fun c hc => by simp at hc); simpa using this
  obtain ⟨X0,hX0⟩ : ∃ X0,X0 = (gnow ts s0).text := ⟨_,rfl⟩
  rw [← hX0] at QN HF0 HR
  clear hX0
  go_wp2_with fail
  refine Calls.mono QN.out ?_
  rintro e w2 ⟨rfl,hg2,H2⟩
  have HG2 : Hid (w.grownBy w2 (some g)) := grown_trans HG1.out hg2
  have HM2 : Hid (Gm w2 g a len cap ts (gnameS ts s0)) := H2
  clear hg2 H2 QN
  go_wp2
  go_loopw [7] (fun v wr => ∃ (f : Nat) (s' : Gs) (r : List Int),v = .string (strOfNums r) ∧ Hid (Gm wr g a len cap ts s') ∧ Hid (w.grownBy wr (some g)) ∧ Hid (R = gfl ts f s' r) ∧ len - s'.i ≤ f ∧ Hid (gfit ts s' r)) (fun _ wr => len - gpos wr g)
  case atStart => exact ⟨ts.length,gnameS ts s0,X0,rfl,HM2,HG2,HR,by have := HM2.out.tok.1; omega,HF0⟩
  case round =>
   obtain ⟨f,s',r,rfl,HM,HGr,HJ,hf,HFit⟩ := hrel
   have hlt := HM.out.lt
   have hgr := HM.out.blk.size
   have QS : Hid _ := rgsign_any HM [46] b46
   have hrl := HFit.out.2.1
   obtain ⟨f,rfl⟩ : ∃ f',f = f' + 1 := ⟨f - 1,by omega⟩
   cases hd : gis ts [46] s' with
   | true =>
    rw [hd,gsign_on _ _ _ hd] at QS
    have hst := HM.out.step hd
    have HJ' := HJ.out
    rw [gfl,if_pos hd] at HJ'
    obtain ⟨g1,g2,g3⟩ := gis_kind hd
    have hl2 : s'.i < ts.length := by rw [HM.out.tok.1]; exact hlt
    have hgd := gsum_drop ts s'.i hl2
    have hfz := HFit.out.1 g1
    have hnx : gnow ts s' = ts[s'.i] := by unfold gnow; simp [List.getD,hl2]
    rw [hnx] at g3
    rw [g3] at hgd
    have HP : Hid (gpos wr g = s'.i) := HM.out.pos
    have hii : (gnext ts s').i = s'.i + 1 := by rw [hst]
    have hft : (r ++ [46]).length + gsum (ts.drop (gnext ts s').i) ≤ 90000 := by rw [hii]; simp at hgd ⊢; omega
    have HQN : Hid (∀ V,Gm V g a len cap ts (gnext ts s') → Calls Tryz.prog 61 #[.pointer (some ⟨g,0,none⟩)] V fun e w' => e = .returned (.string (strOfNums (gnow ts (gnext ts s')).text)) ∧ V.grownBy w' (some g) ∧ Gm w' g a len cap ts (gnameS ts (gnext ts s'))) := fun V hV => rgname_any hV
    have HNI : Hid (s'.i + 1 ≤ (gnameS ts (gnext ts s')).i) := by have := gname_i ts (gnext ts s'); rw [hii] at this; exact this
    have HFN : Hid (∀ V,Gm V g a len cap ts (gnext ts s') → gfit ts (gnameS ts (gnext ts s')) ((r ++ [46]) ++ (gnow ts (gnext ts s')).text) ∧ (gnow ts (gnext ts s')).text.length ≤ 5000) := fun V hV => ⟨gfit_name hV (r ++ [46]) hft (fun c hc => by rcases List.mem_append.1 hc with hc | hc; exact HFit.out.2.2 c hc; exact b46 c hc),hV.now_ok.2.2.2.2.2.1⟩
    obtain ⟨X,hX⟩ : ∃ X,X = (gnow ts (gnext ts s')).text := ⟨_,rfl⟩
    rw [← hX] at HJ' HQN HFN
    have HJ2 : Hid _ := HJ'
    clear HJ HJ' g1 g2 g3 hgd hfz hnx hst hd hft hii hX
    go_wp2_with fail
    refine Calls.mono QS.out ?_
    rintro e w3 ⟨rfl,hg3,H3⟩
    obtain ⟨hfx,hxl⟩ := HFN.out w3 H3
    have HFX : Hid (gfit ts (gnameS ts (gnext ts s')) (r ++ 46 :: X)) := by show gfit _ _ _; rw [List.append_assoc] at hfx; exact hfx
    have HJ3 : Hid (R = gfl ts f (gnameS ts (gnext ts s')) (r ++ 46 :: X)) := by show _ = _; have := HJ2.out; rw [List.append_assoc] at this; exact this
    have l1 : ∀ W,(Op.stringOp .add { data := #[46] } (strOfNums X)).run Tryz.prog W = .ok (.string (strOfNums (46 :: X))) W := fun W => run_add W [46] X (by simp; omega)
    have l2 : ∀ W,(Op.stringOp .add (strOfNums r) (strOfNums (46 :: X))).run Tryz.prog W = .ok (.string (strOfNums (r ++ 46 :: X))) W := fun W => run_add W r (46 :: X) (by simp; omega)
    have QN : Hid _ := HQN.out w3 H3
    clear hfx
    go_wp2_with fail
    refine Calls.mono QN.out ?_
    rintro e w4 ⟨rfl,hg4,H4⟩
    go_wp2
    go_roundw
    case rel => first | exact ⟨f,gnameS ts (gnext ts s'),r ++ 46 :: X,rfl,H4,grown_trans (grown_trans HGr.out hg3) hg4,HJ3,by have := HNI.out; omega,HFX⟩ | ((repeat apply Exists.intro); exact ⟨⟨f,gnameS ts (gnext ts s'),r ++ 46 :: X,rfl,H4,grown_trans (grown_trans HGr.out hg3) hg4,HJ3,by have := HNI.out; omega,HFX⟩,rfl⟩)
    case measure => rw [H4.pos,HP.out]; have := HNI.out; omega
   | false =>
    rw [hd,gsign_off _ _ _ hd] at QS
    have HJ' := HJ.out
    rw [gfl,if_neg (by rw [hd]; decide)] at HJ'
    have HRe : Hid (R = (r,s')) := HJ'
    have l2 : ∀ W,(Op.stringOp .add { data := #[] } (strOfNums r)).run Tryz.prog W = .ok (.string (strOfNums ([] ++ r))) W := fun W => run_add W [] r (by simp; omega)
    have hrs := strOfNums_size r
    have HLen : Hid ((gfull ts false s0).1.length ≤ 96001 ∧ byts (gfull ts false s0).1) := by
     refine ⟨?_,?_⟩
     ·rw [HE.out,HRe.out]; simp; omega
     ·rw [HE.out,HRe.out]
      intro c hc
      rcases List.mem_append.1 hc with hc | hc; simp at hc; exact HFit.out.2.2 c hc
    clear HJ HJ' hd
    go_wp2_with fail
    refine Calls.mono QS.out ?_
    rintro e w3 ⟨rfl,hg3,H3⟩
    have HM3 : Hid (Gm w3 g a len cap ts s') := H3
    have HG3 : Hid (w.grownBy w3 (some g)) := grown_trans HGr.out hg3
    obtain ⟨d0,d1,d2,d3,d4,d5⟩ := H3.blk.cells
    have f1 := H3.blk.free 1
    have hg3s := H3.blk.size
    clear hg3 H3 c0 c1 c2 c3 c4 c5
    by_cases he : s'.e = 0
    ·rw [he] at d4
     by_cases hbig : 1000 < r.length
     ·have hbig' : (1000 : Int) < (r.length : Int) := by omega
      have HFi : Hid (gfin ts s0.i R = gfail ts 80 { s' with i := s0.i }) := by show _ = _; rw [HRe.out]; unfold gfin; rw [if_pos ⟨he,hbig⟩]
      have H4 : Hid (Gm (w3.setCell ⟨g,1,none⟩ (.int .i64 (s0.i : Int))) g a len cap ts { s' with i := s0.i }) := HM3.out.back s0.i hi1
      have QF : Hid _ := rgfail_any H4 80 (by omega) (by omega)
      generalize strOfNums r = TR at *
      go_wp2_with fail
      refine Calls.mono QF.out ?_
      rintro e w5 ⟨rfl,hg5,H5⟩
      go_wp2
      go_ret
      exact ⟨by rw [HE.out,HRe.out]; rfl,grown_trans (grown_own HG3.out 1 _) hg5,by rw [HE.out]; show Gm w5 g a len cap ts (gfin ts s0.i R); rw [HFi.out]; exact H5,HLen.out⟩
     ·have hbig' : ¬ (1000 : Int) < (r.length : Int) := by omega
      have HFi : Hid (gfin ts s0.i R = s') := by show _ = _; rw [HRe.out]; unfold gfin; rw [if_neg (fun h => hbig h.2)]
      generalize strOfNums r = TR at *
      go_wp2
      go_ret
      exact ⟨by rw [HE.out,HRe.out]; rfl,HG3.out,by rw [HE.out]; show Gm w3 g a len cap ts (gfin ts s0.i R); rw [HFi.out]; exact HM3.out,HLen.out⟩
    ·have e1 : (s'.e == 0) = false := by simpa using he
     have HFi : Hid (gfin ts s0.i R = s') := by show _ = _; rw [HRe.out]; unfold gfin; rw [if_neg (fun h => he h.1)]
     generalize strOfNums r = TR at *
     go_wp2
     go_ret
     exact ⟨by rw [HE.out,HRe.out]; rfl,HG3.out,by rw [HE.out]; show Gm w3 g a len cap ts (gfin ts s0.i R); rw [HFi.out]; exact HM3.out,HLen.out⟩

theorem first_sign (s : List Int) (hz : ∀ i,0 ≤ s.getD i 0 ∧ s.getD i 0 ≤ 255) (X : ByteArray) (hX : X = strOfNums s) :
  (s = [] ∧ (X.toList == []) = true) ∨ (s ≠ [] ∧ (X.toList == []) = false ∧ X.size = s.length ∧ 0 < s.length ∧ ∀ h : 0 < X.size,((X[0]'h).toNat : Int) = s.getD 0 0) := by
 subst hX
 cases s with
 | nil => exact .inl ⟨rfl,by rw [str_list]; rfl⟩
 | cons c r => exact .inr ⟨by simp,str_ne c r,strOfNums_size _,by simp,fun h => str_at _ hz 0 h⟩

set_option maxHeartbeats 1000000 in
theorem rref_any (s : List Int) (w : World) (hz : Hid (∀ i,0 ≤ s.getD i 0 ∧ s.getD i 0 ≤ 255)) (hlen : (s.length : Int) ≤ 100000) :
  Calls Tryz.prog 151 #[.string (strOfNums s)] w fun e w' => e = .returned (.bool (tref s)) ∧ Below w.heap.size w w' := by
 obtain ⟨X,hX⟩ : ∃ X,X = strOfNums s := ⟨_,rfl⟩
 by_cases h46 : s.getD 0 0 = 46
 ·have hd : Hid (∀ i,0 ≤ (s.drop 1).getD i 0 ∧ (s.drop 1).getD i 0 ≤ 255) := fun i => by rw [getD_drop']; exact hz.out _
  have q := fun W => rfull_any (s.drop 1) W hd (by rw [List.length_drop]; omega)
  have E : Hid (tref s = nfull (s.drop 1)) := by show _ = _; unfold tref; rw [if_pos h46]
  rcases first_sign s hz.out X hX with ⟨h0,_⟩ | ⟨h0,hne,hsz,hl,hat⟩
  ·rw [h0] at h46; simp at h46
  have hat0 := hat (by omega)
  rw [h46] at hat0
  have h1 : ∀ W,(Instr.slice 9 (.string X) (some (.int .i64 1)) none none).run Tryz.prog W = .ok (.string (strOfNums (s.drop 1))) W := by subst hX; exact run_tail s 1 (by omega) _ rfl
  rw [← hX]
  generalize nfull (s.drop 1) = B at q E
  generalize strOfNums (s.drop 1) = T at q h1
  have Q : Hid _ := q
  clear q hX h0 h46 hat
  go_enter Tryz.func151,Tryz.ntmps151
  go_wp2_with fail
  refine Calls.mono (Q.out _) ?_
  rintro e w1 ⟨rfl,hb⟩
  go_wp2
  go_ret
  exact ⟨by rw [E.out]; rfl,hb⟩
 ·have q := fun W => rfull_any s W hz hlen
  have E : Hid (tref s = nfull s) := by show _ = _; unfold tref; rw [if_neg h46]
  rw [← hX] at q ⊢
  generalize nfull s = B at q E
  have Q : Hid _ := q
  rcases first_sign s hz.out X hX with ⟨h0,hne⟩ | ⟨h0,hne,hsz,hl,hat⟩
  ·clear q hX h0 h46
   go_enter Tryz.func151,Tryz.ntmps151
   go_wp2_with fail
   refine Calls.mono (Q.out _) ?_
   rintro e w1 ⟨rfl,hb⟩
   go_wp2
   go_ret
   exact ⟨by rw [E.out]; rfl,hb⟩
  ·have hat0 := hat (by omega)
   generalize s.getD 0 0 = c0 at hat0 h46
   have e46 : (c0 == 46) = false := by simpa using h46
   clear q hX h0 h46 hat
   go_enter Tryz.func151,Tryz.ntmps151
   go_wp2_with fail
   refine Calls.mono (Q.out _) ?_
   rintro e w1 ⟨rfl,hb⟩
   go_wp2
   go_ret
   exact ⟨by rw [E.out]; rfl,hb⟩

theorem nsp_ne : ∀ (s cur : List Int),nsp cur s ≠ []
 | [],cur => by simp [nsp]
 | c :: r,cur => by
  rw [nsp]
  split
  ·simp
  ·exact nsp_ne r _

theorem nsp_byts : ∀ (s cur : List Int),byts s → byts cur → ∀ z ∈ nsp cur s,byts z
 | [],cur,_,hc,z,hm => by simp [nsp] at hm; rw [hm]; exact hc
 | c :: r,cur,hs,hc,z,hm => by
  have hr : byts r := fun x hx => hs x (List.mem_cons_of_mem _ hx)
  rw [nsp] at hm
  split at hm
  ·rcases List.mem_cons.1 hm with h | h
   ·rw [h]; exact hc
   ·exact nsp_byts r [] hr (by intro x hx; simp at hx) z h
  ·refine nsp_byts r _ hr ?_ z hm
   intro x hx
   rcases List.mem_append.1 hx with h | h
   ·exact hc x h
   ·simp at h; rw [h]; exact hs c (by simp)

set_option maxHeartbeats 2000000 in
theorem rtype_rest (s : List Int) (X : ByteArray) (hX : X = strOfNums s) (w : World) (hz : Hid (∀ i,0 ≤ s.getD i 0 ∧ s.getD i 0 ≤ 255)) (hlen : (s.length : Int) ≤ 100000) (h46 : s.getD 0 0 ≠ 46)
  (hc : (X.toList == []) = true ∨ ∃ c0,(X.toList == []) = false ∧ (c0 == (46 : Int)) = false ∧ ∃ h : 0 < X.size,((X[0]'h).toNat : Int) = c0) :
  Calls Tryz.prog 113 #[.string X] w fun e w' => e = .returned (.tuple #[.bool (ttype s).1,.bool (ttype s).2]) ∧ Below w.heap.size w w' := by
 have E0 : Hid (ttype s = if nword s ≠ 0 then (true,false) else (nfull s && !nkey ((nparts s).getD 0 []),true)) := by show _ = _; unfold ttype; rw [if_neg h46]
 have q1 := fun W => rword_any s W (mem_bd hz.out)
 have q2 := fun W => rfull_any s W hz hlen
 have q3 := fun W => rparts_any s W hz hlen
 have hne : nparts s ≠ [] := nsp_ne s []
 obtain ⟨z,hz0⟩ : ∃ z,(nparts s)[0]? = some z := by
  cases hp : nparts s with
  | nil => exact absurd hp hne
  | cons a b => exact ⟨a,rfl⟩
 have hgd : (nparts s).getD 0 [] = z := by rw [List.getD,hz0]; rfl
 rw [hgd] at E0
 have hzb : byts z := by
  have hm := List.mem_of_getElem? hz0
  exact nsp_byts s [] (mem_bd hz.out) (by intro c hc'; simp at hc') z hm
 have q4 := fun W => rkey_any z W hzb
 have hnl : 0 < (nparts s).length := List.length_pos_iff.2 hne
 have hnl2 : (nparts s).length ≤ s.length + 1 := nsp_len s []
 have HZ0 : Hid ((nparts s)[0]? = some z) := hz0
 rw [← hX] at q1 q2 q3
 generalize nparts s = ps at q3 HZ0 hnl hnl2
 generalize nfull s = F at q2 E0
 generalize nword s = N at q1 E0
 have Q1 : Hid _ := q1
 have Q2 : Hid _ := q2
 have Q3 : Hid _ := q3
 generalize nkey z = K at q4 E0
 have Q4 : Hid _ := q4
 clear q1 q2 q3 q4 hne hz0 hgd hX h46 hzb
 rcases hc with he | ⟨c0,he,hc46,hs0,hat⟩
 all_goals
  by_cases hN : N = 0
  ·subst hN
   cases F with
   | false =>
    have E : Hid (ttype s = (false,true)) := by show _ = _; rw [E0.out]; simp
    clear E0
    go_enter Tryz.func113,Tryz.ntmps113
    go_wp2_with fail
    refine Calls.mono (Q1.out _) ?_
    rintro e w1 ⟨rfl,hb1⟩
    go_wp2_with fail
    refine Calls.mono (Q2.out _) ?_
    rintro e w2 ⟨rfl,hb2⟩
    go_wp2
    go_ret2
    exact ⟨by rw [E.out]; rfl,hb1.trans (hb2.mono hb1.size)⟩
   | true =>
    have E : Hid (ttype s = (!K,true)) := by show _ = _; rw [E0.out]; simp
    clear E0
    go_enter Tryz.func113,Tryz.ntmps113
    go_wp2_with fail
    refine Calls.mono (Q1.out _) ?_
    rintro e w1 ⟨rfl,hb1⟩
    go_wp2_with fail
    refine Calls.mono (Q2.out _) ?_
    rintro e w2 ⟨rfl,hb2⟩
    go_wp2_with fail
    refine Calls.mono (Q3.out _) ?_
    rintro e w3 ⟨v,rfl,hO,hb3⟩
    obtain ⟨a,c,rfl⟩ := hO.slice
    obtain ⟨_,_,h3,h4,h5,h6⟩ := Ss.of_own hO
    obtain ⟨b,off,rfl,hlt,hc⟩ := h6 hnl
    have hcell := hc 0 z HZ0.out
    unfold scell at hcell
    rw [Nat.add_zero] at hcell
    generalize strOfNums z = Z at hcell Q4
    clear h5 h6 hO hc
    go_wp2_with fail
    refine Calls.mono (Q4.out _) ?_
    rintro e w4 ⟨rfl,hb4⟩
    go_wp2
    go_ret2
    have b2 := hb1.trans (hb2.mono hb1.size)
    have b3 := b2.trans (hb3.mono b2.size)
    exact ⟨by rw [E.out]; cases K <;> rfl,b3.trans (hb4.mono b3.size)⟩
  ·have E : Hid (ttype s = (true,false)) := by show _ = _; rw [E0.out,if_pos hN]
   have hN' : ¬ (N : Int) = 0 := by omega
   clear E0 hN
   go_enter Tryz.func113,Tryz.ntmps113
   go_wp2_with fail
   refine Calls.mono (Q1.out _) ?_
   rintro e w1 ⟨rfl,hb1⟩
   go_wp2
   go_ret2
   exact ⟨by rw [E.out]; rfl,hb1⟩

set_option maxHeartbeats 1000000 in
theorem rtype_any (s : List Int) (w : World) (hz : Hid (∀ i,0 ≤ s.getD i 0 ∧ s.getD i 0 ≤ 255)) (hlen : (s.length : Int) ≤ 100000) :
  Calls Tryz.prog 113 #[.string (strOfNums s)] w fun e w' => e = .returned (.tuple #[.bool (ttype s).1,.bool (ttype s).2]) ∧ Below w.heap.size w w' := by
 obtain ⟨X,hX⟩ : ∃ X,X = strOfNums s := ⟨_,rfl⟩
 by_cases h46 : s.getD 0 0 = 46
 ·have q := fun W => rref_any s W hz hlen
  have E : Hid (ttype s = (tref s,true)) := by show _ = _; unfold ttype; rw [if_pos h46]
  rcases first_sign s hz.out X hX with ⟨h0,_⟩ | ⟨h0,hne,hsz,hl,hat⟩
  ·rw [h0] at h46; simp at h46
  have hat0 := hat (by omega)
  rw [h46] at hat0
  rw [← hX] at q ⊢
  generalize tref s = B at q E
  have Q : Hid _ := q
  clear q hX h0 h46 hat
  go_enter Tryz.func113,Tryz.ntmps113
  go_wp2_with fail
  refine Calls.mono (Q.out _) ?_
  rintro e w1 ⟨rfl,hb⟩
  go_wp2
  go_ret2
  exact ⟨by rw [E.out]; rfl,hb⟩
 ·rw [← hX]
  refine rtype_rest s X hX w hz hlen h46 ?_
  rcases first_sign s hz.out X hX with ⟨h0,hne⟩ | ⟨h0,hne,hsz,hl,hat⟩
  ·exact .inl hne
  ·exact .inr ⟨s.getD 0 0,hne,by simpa using h46,by omega,hat (by omega)⟩

end Go.Proofs.YtlekfcehmlepkaaGreatDoor
