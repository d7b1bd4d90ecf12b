/- Put together by a program out of these texts of mine: GMade, GTok. -/
import Derived.Test.YtlekfcehmlepkaaGreatDoorBunD20

namespace Go.Proofs.YtlekfcehmlepkaaGreatDoor
open Go.RowKit
set_option linter.unusedVariables false
set_option linter.unusedSimpArgs false

def gup (s : Gs) : Gs := { s with n := w64 (s.n + 1) }

theorem gmade_doc (ts : List Tq) (kind : Int) (s : Gs) (h : tdocd kind = true ∧ 10000 < (gnow ts s).doc.length) : gmade ts kind s = gfail ts 80 (gup s) := by unfold gmade gup; simp only; rw [if_pos h]

theorem gmade_plain (ts : List Tq) (kind : Int) (s : Gs) (h : ¬ (tdocd kind = true ∧ 10000 < (gnow ts s).doc.length)) : gmade ts kind s = gup s := by unfold gmade gup; simp only; rw [if_neg h]

theorem gnow_up (ts : List Tq) (s : Gs) : gnow ts (gup s) = gnow ts s := rfl

theorem Gm.up {w : World} {g : Nat} {a : Option Addr} {len cap : Nat} {ts : List Tq} {s : Gs} (h : Gm w g a len cap ts s) : Gm (w.setCell ⟨g,5,none⟩ (.int .i64 (w64 (s.n + 1)))) g a len cap ts (gup s) :=
 h.turn (grown_set 5 _) (set_heap' h.blk 5 _) h.lt h.op0 h.op1 h.pa h.e0 h.e1 (w64_bd _)

set_option maxHeartbeats 2000000 in
theorem rgmade_any {w : World} {g : Nat} {a : Option Addr} {len cap : Nat} {ts : List Tq} {s : Gs} (H : Hid (Gm w g a len cap ts s)) (kind : Int) (hk : i64b kind) :
  Calls Tryz.prog 60 #[.pointer (some ⟨g,0,none⟩),.int .i64 kind] w fun e w' => e = .returned (.agg #[.int .i64 kind,.string { data := #[] },.int .i64 0,.int .i64 0,.int .i64 0,.int .i64 (gnow ts s).pos,.string (strOfNums (if tdocd kind = true then (gnow ts s).doc else [])),.slice none 0 0]) ∧ w.grownBy w' (some g) ∧ Gm w' g a len cap ts (gmade ts kind s) := by
 have hg := H.out.blk.size
 have hgne : g ≠ w.heap.size := by omega
 have H0 : Hid (Gm (w.setCell ⟨g,5,none⟩ (.int .i64 (w64 (s.n + 1)))) g a len cap ts (gup s)) := H.out.up
 have H1 : Hid (Gm ((w.setCell ⟨g,5,none⟩ (.int .i64 (w64 (s.n + 1)))).alloc (.cells #[.int .i64 0,.string { data := #[] },.int .i64 0,.int .i64 0,.int .i64 0,.int .i64 0,.string { data := #[] },.slice none 0 0] 28)) g a len cap ts (gup s)) := H0.out.below ((Below.refl _ _).alloc (Nat.le_refl _) _)
 have HR1 : Hid (((w.setCell ⟨g,5,none⟩ (.int .i64 (w64 (s.n + 1)))).alloc (.cells #[.int .i64 0,.string { data := #[] },.int .i64 0,.int .i64 0,.int .i64 0,.int .i64 0,.string { data := #[] },.slice none 0 0] 28)).heap[w.heap.size]? = some (.cells #[.int .i64 0,.string { data := #[] },.int .i64 0,.int .i64 0,.int .i64 0,.int .i64 0,.string { data := #[] },.slice none 0 0] 28)) := by
  show _ = _
  have := heap_alloc_new (w.setCell ⟨g,5,none⟩ (.int .i64 (w64 (s.n + 1)))) (.cells #[.int .i64 0,.string { data := #[] },.int .i64 0,.int .i64 0,.int .i64 0,.int .i64 0,.string { data := #[] },.slice none 0 0] 28)
  rw [set_size] at this
  exact this
 have HG1 : Hid (w.grownBy ((w.setCell ⟨g,5,none⟩ (.int .i64 (w64 (s.n + 1)))).alloc (.cells #[.int .i64 0,.string { data := #[] },.int .i64 0,.int .i64 0,.int .i64 0,.int .i64 0,.string { data := #[] },.slice none 0 0] 28)) (some g)) := grown_alloc (grown_own (grown_of (Below.refl _ _)) 5 _) _
 have hg1s := H1.out.blk.size
 have Q0 : Hid _ := rgnow_any H1
 have HOK : Hid (gnow ts s).ok := H.out.now_ok
 have HX := gmade_doc ts kind s
 have HY := gmade_plain ts kind s
 rw [gnow_up] at Q0
 obtain ⟨c0,c1,c2,c3,c4,c5⟩ := H.out.blk.cells
 have f5 := H.out.blk.free 5
 have qd := fun W => rdocd_any kind W hk
 obtain ⟨q,hq⟩ : ∃ q,q = gnow ts s := ⟨_,rfl⟩
 have Q9 : Hid (∀ V,Gm V g a len cap ts (gup s) → Calls Tryz.prog 38 #[.pointer (some ⟨g,0,none⟩)] V fun e w' => e = .returned q.val ∧ Below V.heap.size V w') := fun V hV => by rw [hq,← gnow_up]; exact rgnow_any hV
 rw [← hq] at Q0 HOK HX HY ⊢
 clear hq
 obtain ⟨tkind,text,tn,tpos,doc⟩ := q
 change Hid (Calls Tryz.prog 38 #[.pointer (some ⟨g,0,none⟩)] _ fun e w' => e = .returned (.agg #[.int .i64 tkind,.string (strOfNums text),.int .u64 tn,.int .i64 tpos,.string (strOfNums doc)]) ∧ Below _ _ w') at Q0
 change Hid (∀ V,Gm V g a len cap ts (gup s) → Calls Tryz.prog 38 #[.pointer (some ⟨g,0,none⟩)] V fun e w' => e = .returned (.agg #[.int .i64 tkind,.string (strOfNums text),.int .u64 tn,.int .i64 tpos,.string (strOfNums doc)]) ∧ Below V.heap.size V w') at Q9
 have l3 := fun W => tq_fld3 (.int .i64 tkind) (.string (strOfNums text)) (.int .u64 tn) (.int .i64 tpos) (.string (strOfNums doc)) W
 have l4 := fun W => tq_fld4 (.int .i64 tkind) (.string (strOfNums text)) (.int .u64 tn) (.int .i64 tpos) (.string (strOfNums doc)) W
 have hds := strOfNums_size doc
 simp only at HX HY ⊢
 cases hD : tdocd kind with
 | true =>
  rw [hD] at qd HX HY
  have QD : Hid _ := qd
  clear qd hD
  rw [if_pos rfl]
  generalize strOfNums text = T1 at *
  generalize strOfNums doc = T2 at *
  go_enter Tryz.func60,Tryz.ntmps60
  go_wp2_with fail
  refine Calls.mono Q0.out ?_
  rintro e w1 ⟨rfl,hb1⟩
  have H2 : Hid (Gm w1 g a len cap ts (gup s)) := H1.out.below hb1
  have HR2 : Hid (w1.heap[w.heap.size]? = some (.cells #[.int .i64 0,.string { data := #[] },.int .i64 0,.int .i64 0,.int .i64 0,.int .i64 0,.string { data := #[] },.slice none 0 0] 28)) := (hb1.block _ (by simp [set_size])).trans HR1.out
  have HG2 : Hid (w.grownBy w1 (some g)) := grown_trans HG1.out (grown_of hb1)
  have hs1 : w.heap.size < w1.heap.size := (Array.getElem?_eq_some_iff.1 HR2.out).1
  have hg2s := H2.out.blk.size
  have HN2 : Hid ((w1.alloc (.cells #[.int .i64 kind,.string { data := #[] },.int .i64 0,.int .i64 0,.int .i64 0,.int .i64 tpos,.string { data := #[] },.slice none 0 0] 28)).heap[w1.heap.size]? = some (.cells #[.int .i64 kind,.string { data := #[] },.int .i64 0,.int .i64 0,.int .i64 0,.int .i64 tpos,.string { data := #[] },.slice none 0 0] 28)) := heap_alloc_new w1 _
  have H3 : Hid (Gm (w1.alloc (.cells #[.int .i64 kind,.string { data := #[] },.int .i64 0,.int .i64 0,.int .i64 0,.int .i64 tpos,.string { data := #[] },.slice none 0 0] 28)) g a len cap ts (gup s)) := H2.out.below ((Below.refl _ _).alloc (Nat.le_refl _) _)
  clear hb1
  go_wp2_with fail
  refine Calls.mono (QD.out _) ?_
  rintro e w2 ⟨rfl,rfl⟩
  go_wp2_with fail
  refine Calls.mono (Q9.out _ H3.out) ?_
  rintro e w3 ⟨rfl,hb3⟩
  have HR3 : Hid (w3.heap[w.heap.size]? = some (.cells #[.int .i64 0,.string { data := #[] },.int .i64 0,.int .i64 0,.int .i64 0,.int .i64 0,.string { data := #[] },.slice none 0 0] 28)) := (hb3.block _ (by simp; omega)).trans (blk_alloc HR2.out _)
  have HN3 : Hid (w3.heap[w1.heap.size]? = some (.cells #[.int .i64 kind,.string { data := #[] },.int .i64 0,.int .i64 0,.int .i64 0,.int .i64 tpos,.string { data := #[] },.slice none 0 0] 28)) := (hb3.block _ (by simp)).trans HN2.out
  have HG3 : Hid (w.grownBy w3 (some g)) := grown_trans (grown_alloc HG2.out _) (grown_of hb3)
  have H4 : Hid (Gm w3 g a len cap ts (gup s)) := H3.out.below hb3
  have hs3 : w1.heap.size < w3.heap.size := (Array.getElem?_eq_some_iff.1 HN3.out).1
  have hne2 : w1.heap.size ≠ g := by omega
  have hne3 : w1.heap.size ≠ w.heap.size := by omega
  have HR5 : Hid ((w3.setCell ⟨w1.heap.size,6,none⟩ (.string T2)).heap[w.heap.size]? = some (.cells #[.int .i64 0,.string { data := #[] },.int .i64 0,.int .i64 0,.int .i64 0,.int .i64 0,.string { data := #[] },.slice none 0 0] 28)) := blk_other HR3.out hne3 6 _
  have HN5 : Hid ((w3.setCell ⟨w1.heap.size,6,none⟩ (.string T2)).heap[w1.heap.size]? = some (.cells #[.int .i64 kind,.string { data := #[] },.int .i64 0,.int .i64 0,.int .i64 0,.int .i64 tpos,.string T2,.slice none 0 0] 28)) := set_heap' HN3.out 6 _
  have HG5 : Hid (w.grownBy (w3.setCell ⟨w1.heap.size,6,none⟩ (.string T2)) (some g)) := grown_new HG3.out (by omega) 6 _
  have H5 : Hid (Gm (w3.setCell ⟨w1.heap.size,6,none⟩ (.string T2)) g a len cap ts (gup s)) := H.out.turn HG5.out (blk_other H4.out.blk hne2 6 _) H4.out.lt H4.out.op0 H4.out.op1 H4.out.pa H4.out.e0 H4.out.e1 H4.out.n
  have hg4s := H4.out.blk.size
  clear hb3
  obtain ⟨⟨n0,n1,n2,n3,n4,n5,n6,n7⟩,y0,y1,y2,y3,y4,y5,y6,y7⟩ := eight_cells HN3.out
  by_cases hbig : 10000 < doc.length
  ·have hbig' : (10000 : Int) < (doc.length : Int) := by omega
   have HF : Hid (gmade ts kind s = gfail ts 80 (gup s)) := HX ⟨trivial,hbig⟩
   have QF : Hid _ := rgfail_any H5 80 (by omega) (by omega)
   go_wp2_with fail
   refine Calls.mono QF.out ?_
   rintro e w6 ⟨rfl,hg6,H6⟩
   have HR6 : Hid (w6.heap[w.heap.size]? = some (.cells #[.int .i64 0,.string { data := #[] },.int .i64 0,.int .i64 0,.int .i64 0,.int .i64 0,.string { data := #[] },.slice none 0 0] 28)) := (hg6.block _ (by rw [set_size]; omega) (by simp; omega)).trans HR5.out
   have HN6 : Hid (w6.heap[w1.heap.size]? = some (.cells #[.int .i64 kind,.string { data := #[] },.int .i64 0,.int .i64 0,.int .i64 0,.int .i64 tpos,.string T2,.slice none 0 0] 28)) := (hg6.block _ (by rw [set_size]; omega) (by simp; omega)).trans HN5.out
   have HG6 : Hid (w.grownBy w6 (some g)) := grown_trans HG5.out hg6
   have hs6 : w1.heap.size < w6.heap.size := (Array.getElem?_eq_some_iff.1 HN6.out).1
   have hs7 : w.heap.size < w6.heap.size := by omega
   clear n0 n1 n2 n3 n4 n5 n6 n7 y0 y1 y2 y3 y4 y5 y6 y7 hg6
   obtain ⟨⟨r0,r1,r2,r3,r4,r5,r6,r7⟩,z0,z1,z2,z3,z4,z5,z6,z7⟩ := eight_cells HR6.out
   obtain ⟨⟨n0,n1,n2,n3,n4,n5,n6,n7⟩,y0,y1,y2,y3,y4,y5,y6,y7⟩ := eight_cells HN6.out
   go_wp2
   have hgr := eight_grown HG6.out (Nat.le_refl w.heap.size) (.int .i64 kind) (.string { data := #[] }) (.int .i64 0) (.int .i64 0) (.int .i64 0) (.int .i64 tpos) (.string T2) (.slice none 0 0)
   refine nd_ret rfl w.heap.size _ _ _ _ _ _ _ _ rfl (eight_put HR6.out _ _ _ _ _ _ _ _) rfl ⟨rfl,hgr,?_⟩
   rw [HF.out]
   have hb := eight_other H6.blk (Ne.symm hgne) (.int .i64 kind) (.string { data := #[] }) (.int .i64 0) (.int .i64 0) (.int .i64 0) (.int .i64 tpos) (.string T2) (.slice none 0 0)
   exact H.out.turn hgr hb H6.lt H6.op0 H6.op1 H6.pa H6.e0 H6.e1 H6.n
  ·have hbig' : ¬ (10000 : Int) < (doc.length : Int) := by omega
   have HF : Hid (gmade ts kind s = gup s) := HY (fun h => hbig h.2)
   obtain ⟨⟨r0,r1,r2,r3,r4,r5,r6,r7⟩,z0,z1,z2,z3,z4,z5,z6,z7⟩ := eight_cells HR3.out
   have hs3' : w.heap.size < w3.heap.size := by omega
   go_wp2
   have hgr := eight_grown HG5.out (Nat.le_refl w.heap.size) (.int .i64 kind) (.string { data := #[] }) (.int .i64 0) (.int .i64 0) (.int .i64 0) (.int .i64 tpos) (.string T2) (.slice none 0 0)
   refine nd_ret rfl w.heap.size _ _ _ _ _ _ _ _ rfl (eight_put HR5.out _ _ _ _ _ _ _ _) rfl ⟨rfl,hgr,?_⟩
   rw [HF.out]
   have hb := eight_other H5.out.blk (Ne.symm hgne) (.int .i64 kind) (.string { data := #[] }) (.int .i64 0) (.int .i64 0) (.int .i64 0) (.int .i64 tpos) (.string T2) (.slice none 0 0)
   exact H.out.turn hgr hb H5.out.lt H5.out.op0 H5.out.op1 H5.out.pa H5.out.e0 H5.out.e1 H5.out.n
 | false =>
  rw [hD] at qd HX HY
  have QD : Hid _ := qd
  have HF : Hid (gmade ts kind s = gup s) := HY (fun h => by simp at h)
  clear qd hD
  rw [if_neg (by simp)]
  generalize strOfNums text = T1 at *
  generalize strOfNums doc = T2 at *
  go_enter Tryz.func60,Tryz.ntmps60
  go_wp2_with fail
  refine Calls.mono Q0.out ?_
  rintro e w1 ⟨rfl,hb1⟩
  have H2 : Hid (Gm w1 g a len cap ts (gup s)) := H1.out.below hb1
  have HR2 : Hid (w1.heap[w.heap.size]? = some (.cells #[.int .i64 0,.string { data := #[] },.int .i64 0,.int .i64 0,.int .i64 0,.int .i64 0,.string { data := #[] },.slice none 0 0] 28)) := (hb1.block _ (by simp [set_size])).trans HR1.out
  have HG2 : Hid (w.grownBy w1 (some g)) := grown_trans HG1.out (grown_of hb1)
  have hs1 : w.heap.size < w1.heap.size := (Array.getElem?_eq_some_iff.1 HR2.out).1
  have hg2s := H2.out.blk.size
  have HN2 : Hid ((w1.alloc (.cells #[.int .i64 kind,.string { data := #[] },.int .i64 0,.int .i64 0,.int .i64 0,.int .i64 tpos,.string { data := #[] },.slice none 0 0] 28)).heap[w1.heap.size]? = some (.cells #[.int .i64 kind,.string { data := #[] },.int .i64 0,.int .i64 0,.int .i64 0,.int .i64 tpos,.string { data := #[] },.slice none 0 0] 28)) := heap_alloc_new w1 _
  have H3 : Hid (Gm (w1.alloc (.cells #[.int .i64 kind,.string { data := #[] },.int .i64 0,.int .i64 0,.int .i64 0,.int .i64 tpos,.string { data := #[] },.slice none 0 0] 28)) g a len cap ts (gup s)) := H2.out.below ((Below.refl _ _).alloc (Nat.le_refl _) _)
  clear hb1
  go_wp2_with fail
  refine Calls.mono (QD.out _) ?_
  rintro e w2 ⟨rfl,rfl⟩
  have HR3 : Hid ((w1.alloc (.cells #[.int .i64 kind,.string { data := #[] },.int .i64 0,.int .i64 0,.int .i64 0,.int .i64 tpos,.string { data := #[] },.slice none 0 0] 28)).heap[w.heap.size]? = some (.cells #[.int .i64 0,.string { data := #[] },.int .i64 0,.int .i64 0,.int .i64 0,.int .i64 0,.string { data := #[] },.slice none 0 0] 28)) := blk_alloc HR2.out _
  obtain ⟨⟨r0,r1,r2,r3,r4,r5,r6,r7⟩,z0,z1,z2,z3,z4,z5,z6,z7⟩ := eight_cells HR2.out
  go_wp2
  have hgr := grown_alloc (eight_grown HG2.out (Nat.le_refl w.heap.size) (.int .i64 kind) (.string { data := #[] }) (.int .i64 0) (.int .i64 0) (.int .i64 0) (.int .i64 tpos) (.string { data := #[] }) (.slice none 0 0)) (.cells #[.int .i64 kind,.string { data := #[] },.int .i64 0,.int .i64 0,.int .i64 0,.int .i64 tpos,.string { data := #[] },.slice none 0 0] 28)
  refine nd_ret rfl w.heap.size _ _ _ _ _ _ _ _ rfl (blk_alloc (eight_put HR2.out _ _ _ _ _ _ _ _) _) rfl ⟨rfl,hgr,?_⟩
  rw [HF.out]
  have hb := blk_alloc (eight_other H2.out.blk (Ne.symm hgne) (.int .i64 kind) (.string { data := #[] }) (.int .i64 0) (.int .i64 0) (.int .i64 0) (.int .i64 tpos) (.string { data := #[] }) (.slice none 0 0)) (.cells #[.int .i64 kind,.string { data := #[] },.int .i64 0,.int .i64 0,.int .i64 0,.int .i64 tpos,.string { data := #[] },.slice none 0 0] 28)
  exact H.out.turn hgr hb H2.out.lt H2.out.op0 H2.out.op1 H2.out.pa H2.out.e0 H2.out.e1 H2.out.n

set_option maxHeartbeats 1000000 in
theorem rgname_any {w : World} {g : Nat} {a : Option Addr} {len cap : Nat} {ts : List Tq} {s : Gs} (H : Hid (Gm w g a len cap ts s)) :
  Calls Tryz.prog 61 #[.pointer (some ⟨g,0,none⟩)] w fun e w' => e = .returned (.string (strOfNums (gnow ts s).text)) ∧ w.grownBy w' (some g) ∧ Gm w' g a len cap ts (gnameS ts s) := by
 have hg := H.out.blk.size
 have Q0 : Hid _ := rgnow_any H
 have HOK : Hid (gnow ts s).ok := H.out.now_ok
 obtain ⟨q,hq⟩ : ∃ q,q = gnow ts s := ⟨_,rfl⟩
 have QN9 : Hid (∀ V s',Gm V g a len cap ts s' → s'.i = s.i → Calls Tryz.prog 59 #[.pointer (some ⟨g,0,none⟩)] V fun e w' => e = .returned q.val ∧ V.grownBy w' (some g) ∧ Gm w' g a len cap ts (gnext ts s')) := fun V s' hV he => by
  have := rgnext_any (show Hid (Gm V g a len cap ts s') from hV)
  rw [show gnow ts s' = q by rw [hq]; unfold gnow; rw [he]] at this
  exact this
 have HX : Hid (∀ s',gnameS ts s = s' → gnameS ts s = s') := fun _ h => h
 rw [← hq] at Q0 HOK
 have hfs : ∀ c,(gfail ts c s).i = s.i := fun c => by unfold gfail; split <;> rfl
 have QN8 : Hid (∀ V s',Gm V g a len cap ts s' → s' = gfail ts 80 s ∨ s' = s → Calls Tryz.prog 59 #[.pointer (some ⟨g,0,none⟩)] V fun e w' => e = .returned q.val ∧ V.grownBy w' (some g) ∧ Gm w' g a len cap ts (gnext ts s')) := fun V s' hV he => QN9.out V s' hV (by rcases he with rfl | rfl; exact hfs 80; rfl)
 clear QN9 hfs
 obtain ⟨kind,text,n,pos,doc⟩ := q
 change Hid (Calls Tryz.prog 38 #[.pointer (some ⟨g,0,none⟩)] w fun e w' => e = .returned (.agg #[.int .i64 kind,.string (strOfNums text),.int .u64 n,.int .i64 pos,.string (strOfNums doc)]) ∧ Below w.heap.size w w') at Q0
 change Hid (∀ V s',Gm V g a len cap ts s' → s' = gfail ts 80 s ∨ s' = s → Calls Tryz.prog 59 #[.pointer (some ⟨g,0,none⟩)] V fun e w' => e = .returned (.agg #[.int .i64 kind,.string (strOfNums text),.int .u64 n,.int .i64 pos,.string (strOfNums doc)]) ∧ V.grownBy w' (some g) ∧ Gm w' g a len cap ts (gnext ts s')) at QN8
 have lf := fun W => tq_fld1 (.int .i64 kind) (.string (strOfNums text)) (.int .u64 n) (.int .i64 pos) (.string (strOfNums doc)) W
 have qi := fun W => rident_any text W (getD_bd HOK.out.2.1) (by have := HOK.out.2.2.2.2.2.1; simp only at this; omega)
 have hts := strOfNums_size text
 rw [← hq]
 by_cases hk : kind = 1
 ·have e' : (kind != 1) = false := by simpa using hk
  by_cases hid : nident text = false
  ·have HF : Hid (gnameS ts s = gnext ts (gfail ts 80 s)) := by show _ = _; unfold gnameS; rw [← hq]; simp only; rw [if_pos (Or.inr hid)]
   clear hq HX hk
   rw [hid] at qi
   have QI : Hid _ := qi
   clear qi hid
   generalize strOfNums text = T1 at *
   generalize strOfNums doc = T2 at *
   go_enter Tryz.func61,Tryz.ntmps61
   go_wp2_with fail
   refine Calls.mono Q0.out ?_
   rintro e w1 ⟨rfl,hb1⟩
   have H1 : Hid (Gm (w1.alloc (.cells #[.int .i64 kind,.string T1,.int .u64 n,.int .i64 pos,.string T2] 81)) g a len cap ts s) := (H.out.below hb1).below ((Below.refl _ _).alloc (Nat.le_refl _) _)
   have HG1 : Hid (w.grownBy (w1.alloc (.cells #[.int .i64 kind,.string T1,.int .u64 n,.int .i64 pos,.string T2] 81)) (some g)) := grown_alloc (grown_of hb1) _
   clear hb1
   go_wp2_with fail
   refine Calls.mono (QI.out _) ?_
   rintro e w9 ⟨rfl,rfl⟩
   have QF : Hid _ := rgfail_any H1 80 (by omega) (by omega)
   go_wp2_with fail
   refine Calls.mono QF.out ?_
   rintro e w2 ⟨rfl,hg2,H2⟩
   have QN : Hid _ := QN8.out w2 _ H2 (Or.inl rfl)
   go_wp2_with fail
   refine Calls.mono QN.out ?_
   rintro e w3 ⟨rfl,hg3,H3⟩
   go_wp2
   go_ret
   exact ⟨by first | rfl | simp,grown_trans (grown_trans HG1.out hg2) hg3,by rw [HF.out]; exact H3⟩
  ·have HF : Hid (gnameS ts s = gnext ts s) := by show _ = _; unfold gnameS; rw [← hq]; simp only; rw [if_neg (fun h => h.elim (fun h => h hk) (fun h => hid h))]
   clear hq HX hk
   have hI : nident text = true := by simpa using hid
   rw [hI] at qi
   have QI : Hid _ := qi
   clear qi hI hid
   generalize strOfNums text = T1 at *
   generalize strOfNums doc = T2 at *
   go_enter Tryz.func61,Tryz.ntmps61
   go_wp2_with fail
   refine Calls.mono Q0.out ?_
   rintro e w1 ⟨rfl,hb1⟩
   have H1 : Hid (Gm (w1.alloc (.cells #[.int .i64 kind,.string T1,.int .u64 n,.int .i64 pos,.string T2] 81)) g a len cap ts s) := (H.out.below hb1).below ((Below.refl _ _).alloc (Nat.le_refl _) _)
   have HG1 : Hid (w.grownBy (w1.alloc (.cells #[.int .i64 kind,.string T1,.int .u64 n,.int .i64 pos,.string T2] 81)) (some g)) := grown_alloc (grown_of hb1) _
   clear hb1
   go_wp2_with fail
   refine Calls.mono (QI.out _) ?_
   rintro e w9 ⟨rfl,rfl⟩
   have QN : Hid _ := QN8.out _ s H1.out (Or.inr rfl)
   go_wp2_with fail
   refine Calls.mono QN.out ?_
   rintro e w3 ⟨rfl,hg3,H3⟩
   go_wp2
   go_ret
   exact ⟨by first | rfl | simp,grown_trans HG1.out hg3,by rw [HF.out]; exact H3⟩
 ·have HF : Hid (gnameS ts s = gnext ts (gfail ts 80 s)) := by show _ = _; unfold gnameS; rw [← hq]; simp only; rw [if_pos (Or.inl hk)]
  have e' : (kind != 1) = true := by simpa using hk
  clear hq HX
  generalize strOfNums text = T1 at *
  generalize strOfNums doc = T2 at *
  go_enter Tryz.func61,Tryz.ntmps61
  go_wp2_with fail
  refine Calls.mono Q0.out ?_
  rintro e w1 ⟨rfl,hb1⟩
  have H1 : Hid (Gm (w1.alloc (.cells #[.int .i64 kind,.string T1,.int .u64 n,.int .i64 pos,.string T2] 81)) g a len cap ts s) := (H.out.below hb1).below ((Below.refl _ _).alloc (Nat.le_refl _) _)
  have HG1 : Hid (w.grownBy (w1.alloc (.cells #[.int .i64 kind,.string T1,.int .u64 n,.int .i64 pos,.string T2] 81)) (some g)) := grown_alloc (grown_of hb1) _
  clear hb1
  have QF : Hid _ := rgfail_any H1 80 (by omega) (by omega)
  go_wp2_with fail
  refine Calls.mono QF.out ?_
  rintro e w2 ⟨rfl,hg2,H2⟩
  have QN : Hid _ := QN8.out w2 _ H2 (Or.inl rfl)
  go_wp2_with fail
  refine Calls.mono QN.out ?_
  rintro e w3 ⟨rfl,hg3,H3⟩
  go_wp2
  go_ret
  exact ⟨by first | rfl | simp,grown_trans (grown_trans HG1.out hg2) hg3,by rw [HF.out]; exact H3⟩

set_option maxHeartbeats 1000000 in
theorem rginteger_any {w : World} {g : Nat} {a : Option Addr} {len cap : Nat} {ts : List Tq} {s : Gs} (H : Hid (Gm w g a len cap ts s)) (most : Int) (hm0 : 0 ≤ most) (hm1 : most ≤ 18446744073709551615) :
  Calls Tryz.prog 143 #[.pointer (some ⟨g,0,none⟩),.int .u64 most] w fun e w' => e = .returned (.int .i64 (w64 (gnow ts s).n)) ∧ w.grownBy w' (some g) ∧ Gm w' g a len cap ts (gintS ts most s) := by
 have hg := H.out.blk.size
 have Q0 : Hid _ := rgnow_any H
 have HOK : Hid (gnow ts s).ok := H.out.now_ok
 obtain ⟨q,hq⟩ : ∃ q,q = gnow ts s := ⟨_,rfl⟩
 have QN9 : Hid (∀ V s',Gm V g a len cap ts s' → s'.i = s.i → Calls Tryz.prog 59 #[.pointer (some ⟨g,0,none⟩)] V fun e w' => e = .returned q.val ∧ V.grownBy w' (some g) ∧ Gm w' g a len cap ts (gnext ts s')) := fun V s' hV he => by
  have := rgnext_any (show Hid (Gm V g a len cap ts s') from hV)
  rw [show gnow ts s' = q by rw [hq]; unfold gnow; rw [he]] at this
  exact this
 have HX : Hid (∀ s',gintS ts most s = s' → gintS ts most s = s') := fun _ h => h
 rw [← hq] at Q0 HOK
 have hfs : ∀ c,(gfail ts c s).i = s.i := fun c => by unfold gfail; split <;> rfl
 have QN8 : Hid (∀ V s',Gm V g a len cap ts s' → s' = gfail ts 80 s ∨ s' = s → Calls Tryz.prog 59 #[.pointer (some ⟨g,0,none⟩)] V fun e w' => e = .returned q.val ∧ V.grownBy w' (some g) ∧ Gm w' g a len cap ts (gnext ts s')) := fun V s' hV he => QN9.out V s' hV (by rcases he with rfl | rfl; exact hfs 80; rfl)
 clear QN9 hfs
 obtain ⟨kind,text,n,pos,doc⟩ := q
 change Hid (Calls Tryz.prog 38 #[.pointer (some ⟨g,0,none⟩)] w fun e w' => e = .returned (.agg #[.int .i64 kind,.string (strOfNums text),.int .u64 n,.int .i64 pos,.string (strOfNums doc)]) ∧ Below w.heap.size w w') at Q0
 change Hid (∀ V s',Gm V g a len cap ts s' → s' = gfail ts 80 s ∨ s' = s → Calls Tryz.prog 59 #[.pointer (some ⟨g,0,none⟩)] V fun e w' => e = .returned (.agg #[.int .i64 kind,.string (strOfNums text),.int .u64 n,.int .i64 pos,.string (strOfNums doc)]) ∧ V.grownBy w' (some g) ∧ Gm w' g a len cap ts (gnext ts s')) at QN8
 have lf := fun W => tq_fld2 (.int .i64 kind) (.string (strOfNums text)) (.int .u64 n) (.int .i64 pos) (.string (strOfNums doc)) W
 obtain ⟨hn0,hn1⟩ := HOK.out.2.2.1
 simp only at hn0 hn1
 have hts := strOfNums_size text
 rw [← hq]
 by_cases hk : kind = 2
 ·have e' : (kind != 2) = false := by simpa using hk
  by_cases hlt : most < n
  ·have HF : Hid (gintS ts most s = gnext ts (gfail ts 80 s)) := by show _ = _; unfold gintS; rw [← hq]; simp only; rw [if_pos (Or.inr hlt)]
   clear hq HX hk
   generalize strOfNums text = T1 at *
   generalize strOfNums doc = T2 at *
   go_enter Tryz.func143,Tryz.ntmps143
   go_wp2_with fail
   refine Calls.mono Q0.out ?_
   rintro e w1 ⟨rfl,hb1⟩
   have H1 : Hid (Gm (w1.alloc (.cells #[.int .i64 kind,.string T1,.int .u64 n,.int .i64 pos,.string T2] 81)) g a len cap ts s) := (H.out.below hb1).below ((Below.refl _ _).alloc (Nat.le_refl _) _)
   have HG1 : Hid (w.grownBy (w1.alloc (.cells #[.int .i64 kind,.string T1,.int .u64 n,.int .i64 pos,.string T2] 81)) (some g)) := grown_alloc (grown_of hb1) _
   clear hb1
   have QF : Hid _ := rgfail_any H1 80 (by omega) (by omega)
   go_wp2_with fail
   refine Calls.mono QF.out ?_
   rintro e w2 ⟨rfl,hg2,H2⟩
   have QN : Hid _ := QN8.out w2 _ H2 (Or.inl rfl)
   go_wp2_with fail
   refine Calls.mono QN.out ?_
   rintro e w3 ⟨rfl,hg3,H3⟩
   go_wp2
   go_ret
   exact ⟨by first | rfl | simp,grown_trans (grown_trans HG1.out hg2) hg3,by rw [HF.out]; exact H3⟩
  ·have HF : Hid (gintS ts most s = gnext ts s) := by show _ = _; unfold gintS; rw [← hq]; simp only; rw [if_neg (fun h => h.elim (fun h => h hk) (fun h => hlt h))]
   clear hq HX hk
   generalize strOfNums text = T1 at *
   generalize strOfNums doc = T2 at *
   go_enter Tryz.func143,Tryz.ntmps143
   go_wp2_with fail
   refine Calls.mono Q0.out ?_
   rintro e w1 ⟨rfl,hb1⟩
   have H1 : Hid (Gm (w1.alloc (.cells #[.int .i64 kind,.string T1,.int .u64 n,.int .i64 pos,.string T2] 81)) g a len cap ts s) := (H.out.below hb1).below ((Below.refl _ _).alloc (Nat.le_refl _) _)
   have HG1 : Hid (w.grownBy (w1.alloc (.cells #[.int .i64 kind,.string T1,.int .u64 n,.int .i64 pos,.string T2] 81)) (some g)) := grown_alloc (grown_of hb1) _
   clear hb1
   have QN : Hid _ := QN8.out _ s H1.out (Or.inr rfl)
   go_wp2_with fail
   refine Calls.mono QN.out ?_
   rintro e w3 ⟨rfl,hg3,H3⟩
   go_wp2
   go_ret
   exact ⟨by first | rfl | simp,grown_trans HG1.out hg3,by rw [HF.out]; exact H3⟩
 ·have HF : Hid (gintS ts most s = gnext ts (gfail ts 80 s)) := by show _ = _; unfold gintS; rw [← hq]; simp only; rw [if_pos (Or.inl hk)]
  have e' : (kind != 2) = true := by simpa using hk
  clear hq HX
  generalize strOfNums text = T1 at *
  generalize strOfNums doc = T2 at *
  go_enter Tryz.func143,Tryz.ntmps143
  go_wp2_with fail
  refine Calls.mono Q0.out ?_
  rintro e w1 ⟨rfl,hb1⟩
  have H1 : Hid (Gm (w1.alloc (.cells #[.int .i64 kind,.string T1,.int .u64 n,.int .i64 pos,.string T2] 81)) g a len cap ts s) := (H.out.below hb1).below ((Below.refl _ _).alloc (Nat.le_refl _) _)
  have HG1 : Hid (w.grownBy (w1.alloc (.cells #[.int .i64 kind,.string T1,.int .u64 n,.int .i64 pos,.string T2] 81)) (some g)) := grown_alloc (grown_of hb1) _
  clear hb1
  have QF : Hid _ := rgfail_any H1 80 (by omega) (by omega)
  go_wp2_with fail
  refine Calls.mono QF.out ?_
  rintro e w2 ⟨rfl,hg2,H2⟩
  have QN : Hid _ := QN8.out w2 _ H2 (Or.inl rfl)
  go_wp2_with fail
  refine Calls.mono QN.out ?_
  rintro e w3 ⟨rfl,hg3,H3⟩
  go_wp2
  go_ret
  exact ⟨by first | rfl | simp,grown_trans (grown_trans HG1.out hg2) hg3,by rw [HF.out]; exact H3⟩

end Go.Proofs.YtlekfcehmlepkaaGreatDoor
