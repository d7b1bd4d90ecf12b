/- Put together by a program out of these texts of mine: GSm, GSm2, GSm3, GNd. -/
import Derived.Deep.QuietTactic
import Derived.BigQuiet
import Derived.Test.YtlekfcehmlepkaaGreatDoorBunD6

namespace Go.Proofs.YtlekfcehmlepkaaGreatDoor
open Go.RowKit
set_option linter.unusedVariables false
set_option linter.unusedSimpArgs false

theorem gnow_get {ts : List Tq} {s : Gs} {t : Tq} (h : ts[s.i]? = some t) : gnow ts s = t := by unfold gnow; simp [List.getD,h]

set_option maxHeartbeats 1000000 in
theorem rgnow_any {w : World} {g : Nat} {a : Option Addr} {len cap : Nat} {ts : List Tq} {s : Gs} (H : Hid (Gm w g a len cap ts s)) :
  Calls Tryz.prog 38 #[.pointer (some ⟨g,0,none⟩)] w fun e w' => e = .returned (gnow ts s).val ∧ Below w.heap.size w w' := by
 obtain ⟨c0,c1,c2,c3,c4,c5⟩ := H.out.blk.cells
 have hg := H.out.blk.size
 have hil := H.out.lt
 obtain ⟨h1,h2,h3,h4,h5,h6⟩ := H.out.tok
 obtain ⟨b,off,rfl,hlt,hne,hc⟩ := h6 (by omega)
 obtain ⟨t,ht⟩ : ∃ t,ts[s.i]? = some t := ⟨ts[s.i]'(by omega),List.getElem?_eq_getElem (by omega)⟩
 rw [gnow_get ht]
 obtain ⟨kind,text,n,pos,doc⟩ := t
 have d0 := hc s.i _ ht 0 _ rfl
 have d1 := hc s.i _ ht 1 _ rfl
 have d2 := hc s.i _ ht 2 _ rfl
 have d3 := hc s.i _ ht 3 _ rfl
 have d4 := hc s.i _ ht 4 _ rfl
 simp only [Nat.add_zero] at d0 d1 d2 d3 d4
 show Calls Tryz.prog _ _ w fun e w' => e = .returned (.agg #[.int .i64 kind,.string (strOfNums text),.int .u64 n,.int .i64 pos,.string (strOfNums doc)]) ∧ Below w.heap.size w w'
 generalize strOfNums text = T1 at *
 generalize strOfNums doc = T2 at *
 generalize s.i = k at *
 have hkl : (k : Int) < (len : Int) := by omega
 clear hc h5 h6 ht h1 h4 H
 go_enter Tryz.func38,Tryz.ntmps38
 go_wp2
 go_region
 go_wp2
 go_region
 all_goals
  go_wp2
  refine tq_ret rfl w.heap.size _ _ _ _ _ rfl ?_ rfl ⟨rfl,?_⟩
  ·exact heap_alloc_new w _
  ·exact (((Below.refl _ _).alloc (Nat.le_refl _) _).drew).drew

theorem gfail_off (ts : List Tq) (c : Int) (s : Gs) (h : s.e ≠ 0) : gfail ts c s = s := by unfold gfail; rw [if_neg h]

theorem gfail_on (ts : List Tq) (c : Int) (s : Gs) (h : s.e = 0) : gfail ts c s = { s with e := c,pa := (gnow ts s).pos } := by unfold gfail; rw [if_pos h]

set_option maxHeartbeats 1000000 in
theorem rgfail_any {w : World} {g : Nat} {a : Option Addr} {len cap : Nat} {ts : List Tq} {s : Gs} (H : Hid (Gm w g a len cap ts s)) (c : Int) (hc0 : 0 < c) (hc1 : c ≤ 1000) :
  Calls Tryz.prog 39 #[.pointer (some ⟨g,0,none⟩),.int .i64 c] w fun e w' => e = .returned (.tuple #[]) ∧ w.grownBy w' (some g) ∧ Gm w' g a len cap ts (gfail ts c s) := by
 obtain ⟨c0,c1,c2,c3,c4,c5⟩ := H.out.blk.cells
 have hg := H.out.blk.size
 by_cases he : s.e = 0
 ·have Q : Hid _ := rgnow_any H
  have HF : Hid (gfail ts c s = { s with e := c,pa := (gnow ts s).pos }) := gfail_on ts c s he
  have HOK : Hid (gnow ts s).ok := H.out.now_ok
  rw [he] at c4
  obtain ⟨t,ht⟩ : ∃ t,t = gnow ts s := ⟨_,rfl⟩
  rw [← ht] at HF Q HOK
  obtain ⟨kind,text,n,pos,doc⟩ := t
  change Hid (Calls Tryz.prog 38 #[.pointer (some ⟨g,0,none⟩)] w fun e w' => e = .returned (.agg #[.int .i64 kind,.string (strOfNums text),.int .u64 n,.int .i64 pos,.string (strOfNums doc)]) ∧ Below w.heap.size w w') at Q
  clear ht
  have l3 := fun W => tq_fld3 (.int .i64 kind) (.string (strOfNums text)) (.int .u64 n) (.int .i64 pos) (.string (strOfNums doc)) W
  generalize strOfNums text = T1 at *
  generalize strOfNums doc = T2 at *
  go_enter Tryz.func39,Tryz.ntmps39
  go_wp2_with fail
  refine Calls.mono Q.out ?_
  rintro e w1 ⟨rfl,hb1⟩
  have H1 : Hid (Gm w1 g a len cap ts s) := H.out.below hb1
  have HG : Hid (w.grownBy w1 (some g)) := grown_of hb1
  have hg1 := H1.out.blk.size
  obtain ⟨c0,c1,c2,c3,c4,c5⟩ := H1.out.blk.cells
  have f3 := H1.out.blk.free 3
  have f4 := H1.out.blk.free 4
  clear hb1
  go_wp2
  go_end0
  have b1 := set_heap' H1.out.blk 4 (.int .i64 c)
  have b2 := set_heap' b1 3 (.int .i64 pos)
  refine ⟨rfl,grown_trans HG.out (grown_trans (grown_set 4 _) (grown_set 3 _)),?_⟩
  rw [HF.out]
  exact H1.out.turn (grown_trans (grown_set 4 _) (grown_set 3 _)) b2 H1.out.lt H1.out.op0 H1.out.op1 HOK.out.2.2.2.1 (by show 0 ≤ c; omega) hc1 H1.out.n
 ·have e1 : (s.e == 0) = false := by simpa using he
  have HF : Hid (gfail ts c s = s) := gfail_off ts c s he
  go_enter Tryz.func39,Tryz.ntmps39
  go_wp2
  go_end0
  exact ⟨rfl,grown_of (Below.refl _ _),by rw [HF.out]; exact H.out⟩

theorem gnext_on (ts : List Tq) (s : Gs) (h : s.e = 0 ∧ s.i + 1 < ts.length) : gnext ts s = { s with i := s.i + 1 } := by unfold gnext; rw [if_pos h]

theorem gnext_off (ts : List Tq) (s : Gs) (h : ¬ (s.e = 0 ∧ s.i + 1 < ts.length)) : gnext ts s = s := by unfold gnext; rw [if_neg h]

set_option maxHeartbeats 1000000 in
theorem rgnext_any {w : World} {g : Nat} {a : Option Addr} {len cap : Nat} {ts : List Tq} {s : Gs} (H : Hid (Gm w g a len cap ts s)) :
  Calls Tryz.prog 59 #[.pointer (some ⟨g,0,none⟩)] w fun e w' => e = .returned (gnow ts s).val ∧ w.grownBy w' (some g) ∧ Gm w' g a len cap ts (gnext ts s) := by
 have hg := H.out.blk.size
 have hil := H.out.lt
 have hL : ts.length = len := H.out.tok.1
 have hlb := H.out.tok.2.1
 have HA : Hid (Gm (w.alloc (.cells #[.int .i64 0,.string { data := #[] },.int .u64 0,.int .i64 0,.string { data := #[] }] 81)) g a len cap ts s) := H.out.below ((Below.refl _ _).alloc (Nat.le_refl _) _)
 have Q : Hid _ := rgnow_any HA
 obtain ⟨t,ht⟩ : ∃ t,t = gnow ts s := ⟨_,rfl⟩
 rw [← ht] at Q ⊢
 obtain ⟨kind,text,n,pos,doc⟩ := t
 clear ht
 change Hid (Calls Tryz.prog 38 #[.pointer (some ⟨g,0,none⟩)] _ fun e w' => e = .returned (.agg #[.int .i64 kind,.string (strOfNums text),.int .u64 n,.int .i64 pos,.string (strOfNums doc)]) ∧ Below _ _ w') at Q
 show Calls Tryz.prog _ _ w fun e w' => e = .returned (.agg #[.int .i64 kind,.string (strOfNums text),.int .u64 n,.int .i64 pos,.string (strOfNums doc)]) ∧ w.grownBy w' (some g) ∧ Gm w' g a len cap ts (gnext ts s)
 generalize strOfNums text = T1 at *
 generalize strOfNums doc = T2 at *
 go_enter Tryz.func59,Tryz.ntmps59
 go_wp2_with fail
 refine Calls.mono Q.out ?_
 rintro e w1 ⟨rfl,hb1⟩
 have H1 : Hid (Gm w1 g a len cap ts s) := HA.out.below hb1
 have hg1 := H1.out.blk.size
 have HR1 : Hid (w1.heap[w.heap.size]? = some (.cells #[.int .i64 0,.string { data := #[] },.int .u64 0,.int .i64 0,.string { data := #[] }] 81)) := by
  show _ = _
  rw [hb1.block w.heap.size (by simp)]
  exact heap_alloc_new w _
 have hs1 : w.heap.size < w1.heap.size := (Array.getElem?_eq_some_iff.1 HR1.out).1
 have HB1 : Hid (Below w.heap.size w w1) := ((Below.refl _ _).alloc (Nat.le_refl _) _).trans (hb1.mono (by simp))
 obtain ⟨c0,c1,c2,c3,c4,c5⟩ := H1.out.blk.cells
 have f1 := H1.out.blk.free 1
 have hgne : g ≠ w.heap.size := by omega
 clear hb1
 have r0 : w1.cell? ⟨w.heap.size,0,none⟩ = some (.int .i64 0) := by simp [World.cell?,HR1.out]
 have z0 : w1.frozen? ⟨w.heap.size,0,none⟩ = false := by simp [World.frozen?,HR1.out]
 have r1 : w1.cell? ⟨w.heap.size,1,none⟩ = some (.string { data := #[] }) := by simp [World.cell?,HR1.out]
 have z1 : w1.frozen? ⟨w.heap.size,1,none⟩ = false := by simp [World.frozen?,HR1.out]
 have r2 : w1.cell? ⟨w.heap.size,2,none⟩ = some (.int .u64 0) := by simp [World.cell?,HR1.out]
 have z2 : w1.frozen? ⟨w.heap.size,2,none⟩ = false := by simp [World.frozen?,HR1.out]
 have r3 : w1.cell? ⟨w.heap.size,3,none⟩ = some (.int .i64 0) := by simp [World.cell?,HR1.out]
 have z3 : w1.frozen? ⟨w.heap.size,3,none⟩ = false := by simp [World.frozen?,HR1.out]
 have r4 : w1.cell? ⟨w.heap.size,4,none⟩ = some (.string { data := #[] }) := by simp [World.cell?,HR1.out]
 have z4 : w1.frozen? ⟨w.heap.size,4,none⟩ = false := by simp [World.frozen?,HR1.out]
 have HG1 : Hid (w.grownBy w1 (some g)) := grown_of HB1.out
 by_cases he : s.e = 0
 ·rw [he] at c4
  by_cases hi : s.i + 1 < len
  ·have hii : (s.i : Int) < (len : Int) - 1 := by omega
   have HF : Hid (gnext ts s = { s with i := s.i + 1 }) := gnext_on ts s ⟨he,by omega⟩
   go_wp2
   go_quiet (fail)
   rename_i K _ hK
   refine hK _ _ ?_
   go_wp2
   have hgr := five_grown (grown_own (grown_drew (grown_alloc HG1.out (.cells #[.int .i64 kind,.string T1,.int .u64 n,.int .i64 pos,.string T2] 81)) nq) 1 (.int .i64 ((s.i : Int) + 1))) (Nat.le_refl _) (.int .i64 kind) (.string T1) (.int .u64 n) (.int .i64 pos) (.string T2)
   refine tq_ret rfl w.heap.size _ _ _ _ _ rfl (five_put (blk_other (blk_alloc HR1.out _) hgne _ _) _ _ _ _ _) rfl ⟨rfl,hgr,?_⟩
   rw [HF.out]
   have hb := five_other (set_heap' (blk_alloc H1.out.blk (.cells #[.int .i64 kind,.string T1,.int .u64 n,.int .i64 pos,.string T2] 81)) 1 (.int .i64 ((s.i : Int) + 1))) (Ne.symm hgne) (.int .i64 kind) (.string T1) (.int .u64 n) (.int .i64 pos) (.string T2)
   exact H.out.turn hgr hb hi H1.out.op0 H1.out.op1 H1.out.pa H1.out.e0 H1.out.e1 H1.out.n
  ·have hii : ¬ (s.i : Int) < (len : Int) - 1 := by omega
   have HF : Hid (gnext ts s = s) := gnext_off ts s (by omega)
   go_wp2
   go_quiet (fail)
   rename_i K _ hK
   refine hK _ _ ?_
   go_wp2
   have hgr := five_grown (grown_drew (grown_alloc HG1.out (.cells #[.int .i64 kind,.string T1,.int .u64 n,.int .i64 pos,.string T2] 81)) nq) (Nat.le_refl _) (.int .i64 kind) (.string T1) (.int .u64 n) (.int .i64 pos) (.string T2)
   refine tq_ret rfl w.heap.size _ _ _ _ _ rfl (five_put (blk_alloc HR1.out _) _ _ _ _ _) rfl ⟨rfl,hgr,?_⟩
   rw [HF.out]
   have hb := five_other (blk_alloc H1.out.blk (.cells #[.int .i64 kind,.string T1,.int .u64 n,.int .i64 pos,.string T2] 81)) (Ne.symm hgne) (.int .i64 kind) (.string T1) (.int .u64 n) (.int .i64 pos) (.string T2)
   exact H.out.turn hgr hb H1.out.lt H1.out.op0 H1.out.op1 H1.out.pa H1.out.e0 H1.out.e1 H1.out.n
 ·have e1 : (s.e == 0) = false := by simpa using he
  have HF : Hid (gnext ts s = s) := gnext_off ts s (by omega)
  go_wp2
  go_quiet (fail)
  rename_i K _ hK
  refine hK _ _ ?_
  go_wp2
  have hgr := five_grown (grown_drew (grown_alloc HG1.out (.cells #[.int .i64 kind,.string T1,.int .u64 n,.int .i64 pos,.string T2] 81)) nq) (Nat.le_refl _) (.int .i64 kind) (.string T1) (.int .u64 n) (.int .i64 pos) (.string T2)
  refine tq_ret rfl w.heap.size _ _ _ _ _ rfl (five_put (blk_alloc HR1.out _) _ _ _ _ _) rfl ⟨rfl,hgr,?_⟩
  rw [HF.out]
  have hb := five_other (blk_alloc H1.out.blk (.cells #[.int .i64 kind,.string T1,.int .u64 n,.int .i64 pos,.string T2] 81)) (Ne.symm hgne) (.int .i64 kind) (.string T1) (.int .u64 n) (.int .i64 pos) (.string T2)
  exact H.out.turn hgr hb H1.out.lt H1.out.op0 H1.out.op1 H1.out.pa H1.out.e0 H1.out.e1 H1.out.n

theorem gsign_on (ts : List Tq) (t : List Int) (s : Gs) (h : gis ts t s = true) : gsign ts t s = gnext ts s := by unfold gsign; rw [if_pos h]

theorem gsign_off (ts : List Tq) (t : List Int) (s : Gs) (h : gis ts t s = false) : gsign ts t s = s := by unfold gsign; rw [h]; rfl

theorem gword_on (ts : List Tq) (t : List Int) (s : Gs) (h : gisw ts t s = true) : gword ts t s = gnext ts s := by unfold gword; rw [if_pos h]

theorem gword_off (ts : List Tq) (t : List Int) (s : Gs) (h : gisw ts t s = false) : gword ts t s = s := by unfold gword; rw [h]; rfl

set_option maxHeartbeats 1000000 in
theorem rgsign_any {w : World} {g : Nat} {a : Option Addr} {len cap : Nat} {ts : List Tq} {s : Gs} (H : Hid (Gm w g a len cap ts s)) (t : List Int) (hbt : Hid (byts t)) :
  Calls Tryz.prog 41 #[.pointer (some ⟨g,0,none⟩),.string (strOfNums t)] w fun e w' => e = .returned (.bool (gis ts t s)) ∧ w.grownBy w' (some g) ∧ Gm w' g a len cap ts (gsign ts t s) := by
 obtain ⟨c0,c1,c2,c3,c4,c5⟩ := H.out.blk.cells
 have hg := H.out.blk.size
 by_cases he : s.e = 0
 ·have E : gis ts t s = decide ((gnow ts s).kind = 4 ∧ (gnow ts s).text = t) := by unfold gis; simp [he]
  have Q0 : Hid _ := fun V (hV : Below w.heap.size w V) => rgnow_any (H.out.below hV : Hid (Gm V g a len cap ts s))
  have HOK : Hid (gnow ts s).ok := H.out.now_ok
  obtain ⟨q,hq⟩ : ∃ q,q = gnow ts s := ⟨_,rfl⟩
  rw [← hq] at Q0 HOK E
  clear hq
  obtain ⟨kind,text,n,pos,doc⟩ := q
  change Hid (∀ V,Below w.heap.size w V → Calls Tryz.prog 38 #[.pointer (some ⟨g,0,none⟩)] V fun e w' => e = .returned (.agg #[.int .i64 kind,.string (strOfNums text),.int .u64 n,.int .i64 pos,.string (strOfNums doc)]) ∧ Below V.heap.size V w') at Q0
  have l0 := fun W => tq_fld0 (.int .i64 kind) (.string (strOfNums text)) (.int .u64 n) (.int .i64 pos) (.string (strOfNums doc)) W
  have l1 := fun W => tq_fld1 (.int .i64 kind) (.string (strOfNums text)) (.int .u64 n) (.int .i64 pos) (.string (strOfNums doc)) W
  rw [he] at c4
  simp only at E
  by_cases hk : kind = 4
  ·subst hk
   have heq := str_eq HOK.out.2.1 hbt.out
   by_cases htx : text = t
   ·rw [decide_eq_true ⟨rfl,htx⟩] at E
    have e' : (text == t) = true := by simpa using htx
    rw [e'] at heq
    have HE : Hid (gis ts t s = true) := E
    clear E htx e'
    generalize strOfNums text = T1 at *
    generalize strOfNums doc = T2 at *
    generalize strOfNums t = T3 at *
    go_enter Tryz.func41,Tryz.ntmps41
    go_wp2_with fail
    refine Calls.mono (Q0.out _ (Below.refl _ _)) ?_
    rintro e w1 ⟨rfl,hb1⟩
    go_wp2_with fail
    refine Calls.mono (Q0.out _ hb1) ?_
    rintro e w2 ⟨rfl,hb2⟩
    have HB2 : Hid (Below w.heap.size w w2) := hb1.trans (hb2.mono hb1.size)
    clear hb1 hb2
    have H2 : Hid (Gm w2 g a len cap ts s) := H.out.below HB2.out
    have QN : Hid _ := rgnext_any H2
    go_wp2_with fail
    refine Calls.mono QN.out ?_
    rintro e w3 ⟨rfl,hg3,H3⟩
    go_wp2
    go_ret
    exact ⟨by rw [HE.out]; rfl,grown_trans (grown_of HB2.out) hg3,by rw [gsign_on _ _ _ HE.out]; exact H3⟩
   ·rw [decide_eq_false (fun h => htx h.2)] at E
    have e' : (text == t) = false := by simpa using htx
    rw [e'] at heq
    have HE : Hid (gis ts t s = false) := E
    clear E htx e'
    generalize strOfNums text = T1 at *
    generalize strOfNums doc = T2 at *
    generalize strOfNums t = T3 at *
    go_enter Tryz.func41,Tryz.ntmps41
    go_wp2_with fail
    refine Calls.mono (Q0.out _ (Below.refl _ _)) ?_
    rintro e w1 ⟨rfl,hb1⟩
    go_wp2_with fail
    refine Calls.mono (Q0.out _ hb1) ?_
    rintro e w2 ⟨rfl,hb2⟩
    have HB2 : Hid (Below w.heap.size w w2) := hb1.trans (hb2.mono hb1.size)
    clear hb1 hb2
    go_wp2
    go_ret
    exact ⟨by rw [HE.out]; rfl,grown_of HB2.out,by rw [gsign_off _ _ _ HE.out]; exact H.out.below HB2.out⟩
  ·rw [decide_eq_false (fun h => hk h.1)] at E
   have e' : (kind == 4) = false := by simpa using hk
   have HE : Hid (gis ts t s = false) := E
   clear E
   generalize strOfNums text = T1 at *
   generalize strOfNums doc = T2 at *
   generalize strOfNums t = T3 at *
   go_enter Tryz.func41,Tryz.ntmps41
   go_wp2_with fail
   refine Calls.mono (Q0.out _ (Below.refl _ _)) ?_
   rintro e w1 ⟨rfl,hb1⟩
   go_wp2
   go_ret
   exact ⟨by rw [HE.out]; rfl,grown_of hb1,by rw [gsign_off _ _ _ HE.out]; exact H.out.below hb1⟩
 ·have e1 : (s.e == 0) = false := by simpa using he
  have HE : Hid (gis ts t s = false) := by show _ = _; unfold gis; rw [decide_eq_false (fun h => he h.1)]
  generalize strOfNums t = T3 at *
  go_enter Tryz.func41,Tryz.ntmps41
  go_wp2
  go_ret
  exact ⟨by rw [HE.out]; rfl,grown_of (Below.refl _ _),by rw [gsign_off _ _ _ HE.out]; exact H.out.below (Below.refl _ _)⟩

set_option maxHeartbeats 1000000 in
theorem rgisWord_any {w : World} {g : Nat} {a : Option Addr} {len cap : Nat} {ts : List Tq} {s : Gs} (H : Hid (Gm w g a len cap ts s)) (t : List Int) (hbt : Hid (byts t)) :
  Calls Tryz.prog 42 #[.pointer (some ⟨g,0,none⟩),.string (strOfNums t)] w fun e w' => e = .returned (.bool (gisw ts t s)) ∧ Below w.heap.size w w' := by
 obtain ⟨c0,c1,c2,c3,c4,c5⟩ := H.out.blk.cells
 have hg := H.out.blk.size
 by_cases he : s.e = 0
 ·have E : gisw ts t s = decide ((gnow ts s).kind = 1 ∧ (gnow ts s).text = t) := by unfold gisw; simp [he]
  have Q0 : Hid _ := fun V (hV : Below w.heap.size w V) => rgnow_any (H.out.below hV : Hid (Gm V g a len cap ts s))
  have HOK : Hid (gnow ts s).ok := H.out.now_ok
  obtain ⟨q,hq⟩ : ∃ q,q = gnow ts s := ⟨_,rfl⟩
  rw [← hq] at Q0 HOK E
  clear hq
  obtain ⟨kind,text,n,pos,doc⟩ := q
  change Hid (∀ V,Below w.heap.size w V → Calls Tryz.prog 38 #[.pointer (some ⟨g,0,none⟩)] V fun e w' => e = .returned (.agg #[.int .i64 kind,.string (strOfNums text),.int .u64 n,.int .i64 pos,.string (strOfNums doc)]) ∧ Below V.heap.size V w') at Q0
  have l0 := fun W => tq_fld0 (.int .i64 kind) (.string (strOfNums text)) (.int .u64 n) (.int .i64 pos) (.string (strOfNums doc)) W
  have l1 := fun W => tq_fld1 (.int .i64 kind) (.string (strOfNums text)) (.int .u64 n) (.int .i64 pos) (.string (strOfNums doc)) W
  rw [he] at c4
  simp only at E
  by_cases hk : kind = 1
  ·subst hk
   have heq := str_eq HOK.out.2.1 hbt.out
   by_cases htx : text = t
   ·rw [decide_eq_true ⟨rfl,htx⟩] at E
    have e' : (text == t) = true := by simpa using htx
    rw [e'] at heq
    have HE : Hid (gisw ts t s = true) := E
    clear E htx e'
    generalize strOfNums text = T1 at *
    generalize strOfNums doc = T2 at *
    generalize strOfNums t = T3 at *
    go_enter Tryz.func42,Tryz.ntmps42
    go_wp2_with fail
    refine Calls.mono (Q0.out _ (Below.refl _ _)) ?_
    rintro e w1 ⟨rfl,hb1⟩
    go_wp2_with fail
    refine Calls.mono (Q0.out _ hb1) ?_
    rintro e w2 ⟨rfl,hb2⟩
    have HB2 : Hid (Below w.heap.size w w2) := hb1.trans (hb2.mono hb1.size)
    clear hb1 hb2
    go_wp2
    go_ret
    exact ⟨by rw [HE.out]; first | rfl | exact ret_bool (by simp),HB2.out⟩
   ·rw [decide_eq_false (fun h => htx h.2)] at E
    have e' : (text == t) = false := by simpa using htx
    rw [e'] at heq
    have HE : Hid (gisw ts t s = false) := E
    clear E htx e'
    generalize strOfNums text = T1 at *
    generalize strOfNums doc = T2 at *
    generalize strOfNums t = T3 at *
    go_enter Tryz.func42,Tryz.ntmps42
    go_wp2_with fail
    refine Calls.mono (Q0.out _ (Below.refl _ _)) ?_
    rintro e w1 ⟨rfl,hb1⟩
    go_wp2_with fail
    refine Calls.mono (Q0.out _ hb1) ?_
    rintro e w2 ⟨rfl,hb2⟩
    have HB2 : Hid (Below w.heap.size w w2) := hb1.trans (hb2.mono hb1.size)
    clear hb1 hb2
    go_wp2
    go_ret
    exact ⟨by rw [HE.out]; first | rfl | exact ret_bool (by simp),HB2.out⟩
  ·rw [decide_eq_false (fun h => hk h.1)] at E
   have e' : (kind == 1) = false := by simpa using hk
   have HE : Hid (gisw ts t s = false) := E
   clear E
   generalize strOfNums text = T1 at *
   generalize strOfNums doc = T2 at *
   generalize strOfNums t = T3 at *
   go_enter Tryz.func42,Tryz.ntmps42
   go_wp2_with fail
   refine Calls.mono (Q0.out _ (Below.refl _ _)) ?_
   rintro e w1 ⟨rfl,hb1⟩
   go_wp2
   go_ret
   exact ⟨by rw [HE.out]; first | rfl | exact ret_bool (by simp),hb1⟩
 ·have e1 : (s.e == 0) = false := by simpa using he
  have HE : Hid (gisw ts t s = false) := by show _ = _; unfold gisw; rw [decide_eq_false (fun h => he h.1)]
  generalize strOfNums t = T3 at *
  go_enter Tryz.func42,Tryz.ntmps42
  go_wp2
  go_ret
  exact ⟨by rw [HE.out]; first | rfl | exact ret_bool (by simp),(Below.refl _ _)⟩

set_option maxHeartbeats 1000000 in
theorem rgword_any {w : World} {g : Nat} {a : Option Addr} {len cap : Nat} {ts : List Tq} {s : Gs} (H : Hid (Gm w g a len cap ts s)) (t : List Int) (hbt : Hid (byts t)) :
  Calls Tryz.prog 36 #[.pointer (some ⟨g,0,none⟩),.string (strOfNums t)] w fun e w' => e = .returned (.bool (gisw ts t s)) ∧ w.grownBy w' (some g) ∧ Gm w' g a len cap ts (gword ts t s) := by
 have Q : Hid _ := rgisWord_any H t hbt
 cases hE : gisw ts t s with
 | true =>
  rw [hE] at Q
  have HE : Hid (gisw ts t s = true) := hE
  clear hE
  generalize strOfNums t = T3 at *
  go_enter Tryz.func36,Tryz.ntmps36
  go_wp2_with fail
  refine Calls.mono Q.out ?_
  rintro e w1 ⟨rfl,hb1⟩
  have H1 : Hid (Gm w1 g a len cap ts s) := H.out.below hb1
  have QN : Hid _ := rgnext_any H1
  go_wp2_with fail
  refine Calls.mono QN.out ?_
  rintro e w2 ⟨rfl,hg2,H2⟩
  go_wp2
  go_ret
  exact ⟨rfl,grown_trans (grown_of hb1) hg2,by rw [gword_on _ _ _ HE.out]; exact H2⟩
 | false =>
  rw [hE] at Q
  have HE : Hid (gisw ts t s = false) := hE
  clear hE
  generalize strOfNums t = T3 at *
  go_enter Tryz.func36,Tryz.ntmps36
  go_wp2_with fail
  refine Calls.mono Q.out ?_
  rintro e w1 ⟨rfl,hb1⟩
  go_wp2
  go_ret
  exact ⟨rfl,grown_of hb1,by rw [gword_off _ _ _ HE.out]; exact H.out.below hb1⟩

set_option maxHeartbeats 1000000 in
theorem rgwant_any {w : World} {g : Nat} {a : Option Addr} {len cap : Nat} {ts : List Tq} {s : Gs} (H : Hid (Gm w g a len cap ts s)) (t : List Int) (hbt : Hid (byts t)) :
  Calls Tryz.prog 37 #[.pointer (some ⟨g,0,none⟩),.string (strOfNums t)] w fun e w' => e = .returned (.tuple #[]) ∧ w.grownBy w' (some g) ∧ Gm w' g a len cap ts (gwant ts t s) := by
 have Q : Hid _ := rgsign_any H t hbt
 cases hE : gis ts t s with
 | true =>
  rw [hE] at Q
  have HE : Hid (gwant ts t s = gsign ts t s) := by show _ = _; unfold gwant gsign; rw [hE]; rfl
  clear hE
  generalize strOfNums t = T3 at *
  go_enter Tryz.func37,Tryz.ntmps37
  go_wp2_with fail
  refine Calls.mono Q.out ?_
  rintro e w1 ⟨rfl,hg1,H1⟩
  go_wp2
  go_end0
  exact ⟨rfl,hg1,by rw [HE.out]; exact H1⟩
 | false =>
  rw [hE] at Q
  have HE : Hid (gwant ts t s = gfail ts 80 s) := by show _ = _; unfold gwant; rw [hE]; rfl
  rw [gsign_off _ _ _ hE] at Q
  clear hE
  generalize strOfNums t = T3 at *
  go_enter Tryz.func37,Tryz.ntmps37
  go_wp2_with fail
  refine Calls.mono Q.out ?_
  rintro e w1 ⟨rfl,hg1,H1⟩
  have QF : Hid _ := rgfail_any (show Hid (Gm w1 g a len cap ts s) from H1) 80 (by omega) (by omega)
  go_wp2_with fail
  refine Calls.mono QF.out ?_
  rintro e w2 ⟨rfl,hg2,H2⟩
  go_wp2
  go_end0
  exact ⟨rfl,grown_trans hg1 hg2,by rw [HE.out]; exact H2⟩

def gdeep (ts : List Tq) (s : Gs) : Gs := if gis ts [123] s = true ∧ s.op = 30 then gfail ts 81 s else s

theorem gbrace_eq (ts : List Tq) (s : Gs) : gbrace ts s = { gwant ts [123] (gdeep ts s) with op := (gwant ts [123] (gdeep ts s)).op + 1 } := rfl

theorem gfail_op (ts : List Tq) (c : Int) (s : Gs) : (gfail ts c s).op = s.op := by unfold gfail; split <;> rfl

theorem gnext_op (ts : List Tq) (s : Gs) : (gnext ts s).op = s.op := by unfold gnext; split <;> rfl

theorem gwant_op (ts : List Tq) (t : List Int) (s : Gs) : (gwant ts t s).op = s.op := by unfold gwant; split; exact gnext_op ts s; exact gfail_op ts 80 s

theorem gdeep_op (ts : List Tq) (s : Gs) : (gdeep ts s).op = s.op := by unfold gdeep; split; exact gfail_op ts 81 s; rfl

theorem b123 : byts [123] := by unfold byts; decide

theorem brace_end {w w1 : World} {g : Nat} {a : Option Addr} {len cap : Nat} {ts : List Tq} {s : Gs} (h : Gm w1 g a len cap ts s) (hop : s.op ≤ 39) : Gm (w1.setCell ⟨g,2,none⟩ (.int .i64 (s.op + 1))) g a len cap ts { s with op := s.op + 1 } :=
 h.turn (grown_set 2 _) (set_heap' h.blk 2 (.int .i64 (s.op + 1))) h.lt (by show 0 ≤ s.op + 1; have := h.op0; omega) (by show s.op + 1 ≤ 40; omega) h.pa h.e0 h.e1 h.n

set_option maxHeartbeats 1000000 in
theorem rgbrace_any {w : World} {g : Nat} {a : Option Addr} {len cap : Nat} {ts : List Tq} {s : Gs} (H : Hid (Gm w g a len cap ts s)) (hop : s.op ≤ 39) :
  Calls Tryz.prog 111 #[.pointer (some ⟨g,0,none⟩)] w fun e w' => e = .returned (.tuple #[]) ∧ w.grownBy w' (some g) ∧ Gm w' g a len cap ts (gbrace ts s) := by
 obtain ⟨c0,c1,c2,c3,c4,c5⟩ := H.out.blk.cells
 have hg := H.out.blk.size
 have hop0 := H.out.op0
 have HO : Hid ((gwant ts [123] (gdeep ts s)).op = s.op) := by show _ = _; rw [gwant_op,gdeep_op]
 by_cases he : s.e = 0
 ·have E : gis ts [123] s = decide ((gnow ts s).kind = 4 ∧ (gnow ts s).text = [123]) := by unfold gis; simp [he]
  have Q0 : Hid _ := fun V (hV : Below w.heap.size w V) => rgnow_any (H.out.below hV : Hid (Gm V g a len cap ts s))
  have HOK : Hid (gnow ts s).ok := H.out.now_ok
  obtain ⟨q,hq⟩ : ∃ q,q = gnow ts s := ⟨_,rfl⟩
  rw [← hq] at Q0 HOK E
  clear hq
  obtain ⟨kind,text,n,pos,doc⟩ := q
  change Hid (∀ V,Below w.heap.size w V → Calls Tryz.prog 38 #[.pointer (some ⟨g,0,none⟩)] V fun e w' => e = .returned (.agg #[.int .i64 kind,.string (strOfNums text),.int .u64 n,.int .i64 pos,.string (strOfNums doc)]) ∧ Below V.heap.size V w') at Q0
  have l0 := fun W => tq_fld0 (.int .i64 kind) (.string (strOfNums text)) (.int .u64 n) (.int .i64 pos) (.string (strOfNums doc)) W
  have l1 := fun W => tq_fld1 (.int .i64 kind) (.string (strOfNums text)) (.int .u64 n) (.int .i64 pos) (.string (strOfNums doc)) W
  rw [he] at c4
  simp only at E
  by_cases hk : kind = 4
  ·subst hk
   have heq := str_eq HOK.out.2.1 b123
   by_cases htx : text = [123]
   ·rw [decide_eq_true ⟨rfl,htx⟩] at E
    have e' : (text == [123]) = true := by simpa using htx
    rw [e'] at heq
    have heq2 : ((strOfNums text).toList == [123]) = true := by rw [show (strOfNums [123]).toList = [123] by rw [str_list]; rfl] at heq; exact heq
    by_cases h30 : s.op = 30
    ·have HD : Hid (gdeep ts s = gfail ts 81 s) := by show _ = _; unfold gdeep; rw [if_pos ⟨E,h30⟩]
     rw [HD.out] at HO
     have HH : Hid (s.op = 30) := h30
     clear E htx e' heq h30
     generalize strOfNums text = T1 at *
     generalize strOfNums doc = T2 at *
     go_enter Tryz.func111,Tryz.ntmps111
     go_wp2_with fail
     refine Calls.mono (Q0.out _ (Below.refl _ _)) ?_
     rintro e w1 ⟨rfl,hb1⟩
     go_wp2_with fail
     refine Calls.mono (Q0.out _ hb1) ?_
     rintro e w2 ⟨rfl,hb2⟩
     have HB2 : Hid (Below w.heap.size w w2) := hb1.trans (hb2.mono hb1.size)
     have H2 : Hid (Gm w2 g a len cap ts s) := H.out.below HB2.out
     obtain ⟨y0,y1,y2,y3,y4,y5⟩ := H2.out.blk.cells
     have hg2s := H2.out.blk.size
     clear hb1 hb2
     rw [HH.out] at y2
     have QF : Hid _ := rgfail_any H2 81 (by omega) (by omega)
     go_wp2_with fail
     refine Calls.mono QF.out ?_
     rintro e w3 ⟨rfl,hg3,H3⟩
     have QW : Hid _ := rgwant_any (show Hid (Gm w3 g a len cap ts _) from H3) [123] b123
     go_wp2_with fail
     refine Calls.mono QW.out ?_
     rintro e w5 ⟨rfl,hg5,H5⟩
     obtain ⟨d0,d1,d2,d3,d4,d5⟩ := H5.blk.cells
     have hg5s := H5.blk.size
     have f2 := H5.blk.free 2
     rw [HO.out] at d2
     go_wp2
     go_end0
     have hz := brace_end (w := w) H5 (by rw [HO.out]; exact hop)
     rw [HO.out] at hz
     refine ⟨rfl,grown_own (grown_trans (grown_trans (grown_of HB2.out) hg3) hg5) 2 _,?_⟩
     rw [gbrace_eq,HD.out,HO.out]
     exact hz
    ·have HD : Hid (gdeep ts s = s) := by show _ = _; unfold gdeep; rw [if_neg (fun h => h30 h.2)]
     rw [HD.out] at HO
     have e30 : (s.op == 30) = false := by simpa using h30
     clear E htx e' heq
     generalize strOfNums text = T1 at *
     generalize strOfNums doc = T2 at *
     go_enter Tryz.func111,Tryz.ntmps111
     go_wp2_with fail
     refine Calls.mono (Q0.out _ (Below.refl _ _)) ?_
     rintro e w1 ⟨rfl,hb1⟩
     go_wp2_with fail
     refine Calls.mono (Q0.out _ hb1) ?_
     rintro e w2 ⟨rfl,hb2⟩
     have HB2 : Hid (Below w.heap.size w w2) := hb1.trans (hb2.mono hb1.size)
     have H2 : Hid (Gm w2 g a len cap ts s) := H.out.below HB2.out
     obtain ⟨y0,y1,y2,y3,y4,y5⟩ := H2.out.blk.cells
     have hg2s := H2.out.blk.size
     clear hb1 hb2
     have QW : Hid _ := rgwant_any (show Hid (Gm w2 g a len cap ts _) from H2) [123] b123
     go_wp2_with fail
     refine Calls.mono QW.out ?_
     rintro e w5 ⟨rfl,hg5,H5⟩
     obtain ⟨d0,d1,d2,d3,d4,d5⟩ := H5.blk.cells
     have hg5s := H5.blk.size
     have f2 := H5.blk.free 2
     rw [HO.out] at d2
     go_wp2
     go_end0
     have hz := brace_end (w := w) H5 (by rw [HO.out]; exact hop)
     rw [HO.out] at hz
     refine ⟨rfl,grown_own (grown_trans (grown_of HB2.out) hg5) 2 _,?_⟩
     rw [gbrace_eq,HD.out,HO.out]
     exact hz
   ·rw [decide_eq_false (fun h => htx h.2)] at E
    have e' : (text == [123]) = false := by simpa using htx
    rw [e'] at heq
    have heq2 : ((strOfNums text).toList == [123]) = false := by rw [show (strOfNums [123]).toList = [123] by rw [str_list]; rfl] at heq; exact heq
    have HD : Hid (gdeep ts s = s) := by show _ = _; unfold gdeep; rw [if_neg (fun h => by rw [E] at h; exact absurd h.1 (by decide))]
    rw [HD.out] at HO
    clear E htx e' heq
    generalize strOfNums text = T1 at *
    generalize strOfNums doc = T2 at *
    go_enter Tryz.func111,Tryz.ntmps111
    go_wp2_with fail
    refine Calls.mono (Q0.out _ (Below.refl _ _)) ?_
    rintro e w1 ⟨rfl,hb1⟩
    go_wp2_with fail
    refine Calls.mono (Q0.out _ hb1) ?_
    rintro e w2 ⟨rfl,hb2⟩
    have HB2 : Hid (Below w.heap.size w w2) := hb1.trans (hb2.mono hb1.size)
    have H2 : Hid (Gm w2 g a len cap ts s) := H.out.below HB2.out
    obtain ⟨y0,y1,y2,y3,y4,y5⟩ := H2.out.blk.cells
    have hg2s := H2.out.blk.size
    clear hb1 hb2
    have QW : Hid _ := rgwant_any (show Hid (Gm w2 g a len cap ts _) from H2) [123] b123
    go_wp2_with fail
    refine Calls.mono QW.out ?_
    rintro e w5 ⟨rfl,hg5,H5⟩
    obtain ⟨d0,d1,d2,d3,d4,d5⟩ := H5.blk.cells
    have hg5s := H5.blk.size
    have f2 := H5.blk.free 2
    rw [HO.out] at d2
    go_wp2
    go_end0
    have hz := brace_end (w := w) H5 (by rw [HO.out]; exact hop)
    rw [HO.out] at hz
    refine ⟨rfl,grown_own (grown_trans (grown_of HB2.out) hg5) 2 _,?_⟩
    rw [gbrace_eq,HD.out,HO.out]
    exact hz
  ·rw [decide_eq_false (fun h => hk h.1)] at E
   have e' : (kind == 4) = false := by simpa using hk
   have HD : Hid (gdeep ts s = s) := by show _ = _; unfold gdeep; rw [if_neg (fun h => by rw [E] at h; exact absurd h.1 (by decide))]
   rw [HD.out] at HO
   clear E
   generalize strOfNums text = T1 at *
   generalize strOfNums doc = T2 at *
   go_enter Tryz.func111,Tryz.ntmps111
   go_wp2_with fail
   refine Calls.mono (Q0.out _ (Below.refl _ _)) ?_
   rintro e w1 ⟨rfl,hb1⟩
   have H1 : Hid (Gm w1 g a len cap ts s) := H.out.below hb1
   have QW : Hid _ := rgwant_any (show Hid (Gm w1 g a len cap ts _) from H1) [123] b123
   go_wp2_with fail
   refine Calls.mono QW.out ?_
   rintro e w5 ⟨rfl,hg5,H5⟩
   obtain ⟨d0,d1,d2,d3,d4,d5⟩ := H5.blk.cells
   have hg5s := H5.blk.size
   have f2 := H5.blk.free 2
   rw [HO.out] at d2
   go_wp2
   go_end0
   have hz := brace_end (w := w) H5 (by rw [HO.out]; exact hop)
   rw [HO.out] at hz
   refine ⟨rfl,grown_own (grown_trans (grown_of hb1) hg5) 2 _,?_⟩
   rw [gbrace_eq,HD.out,HO.out]
   exact hz
 ·have e1 : (s.e == 0) = false := by simpa using he
  have E : gis ts [123] s = false := by unfold gis; rw [decide_eq_false (fun h => he h.1)]
  have HD : Hid (gdeep ts s = s) := by show _ = _; unfold gdeep; rw [if_neg (fun h => by rw [E] at h; exact absurd h.1 (by decide))]
  rw [HD.out] at HO
  clear E
  go_enter Tryz.func111,Tryz.ntmps111
  have QW : Hid _ := rgwant_any (show Hid (Gm w g a len cap ts _) from H) [123] b123
  go_wp2_with fail
  refine Calls.mono QW.out ?_
  rintro e w5 ⟨rfl,hg5,H5⟩
  obtain ⟨d0,d1,d2,d3,d4,d5⟩ := H5.blk.cells
  have hg5s := H5.blk.size
  have f2 := H5.blk.free 2
  rw [HO.out] at d2
  go_wp2
  go_end0
  have hz := brace_end (w := w) H5 (by rw [HO.out]; exact hop)
  rw [HO.out] at hz
  refine ⟨rfl,grown_own (grown_trans (grown_of (Below.refl _ _)) hg5) 2 _,?_⟩
  rw [gbrace_eq,HD.out,HO.out]
  exact hz

theorem eight_put {w : World} {g : Nat} {e : TypeId} {a0 a1 a2 a3 a4 a5 a6 a7 : Value} (h : w.heap[g]? = some (.cells #[a0,a1,a2,a3,a4,a5,a6,a7] e (0,0))) (v0 v1 v2 v3 v4 v5 v6 v7 : Value) :
  ((((((((w.setCell ⟨g,0,none⟩ v0).setCell ⟨g,1,none⟩ v1).setCell ⟨g,2,none⟩ v2).setCell ⟨g,3,none⟩ v3).setCell ⟨g,4,none⟩ v4).setCell ⟨g,5,none⟩ v5).setCell ⟨g,6,none⟩ v6).setCell ⟨g,7,none⟩ v7).heap[g]? = some (.cells #[v0,v1,v2,v3,v4,v5,v6,v7] e (0,0)) := by
 have h1 : (w.setCell ⟨g,0,none⟩ v0).heap[g]? = some (.cells #[v0,a1,a2,a3,a4,a5,a6,a7] e (0,0)) := set_heap' h 0 v0
 have h2 : (((w.setCell ⟨g,0,none⟩ v0)).setCell ⟨g,1,none⟩ v1).heap[g]? = some (.cells #[v0,v1,a2,a3,a4,a5,a6,a7] e (0,0)) := set_heap' h1 1 v1
 have h3 : (((((w.setCell ⟨g,0,none⟩ v0)).setCell ⟨g,1,none⟩ v1)).setCell ⟨g,2,none⟩ v2).heap[g]? = some (.cells #[v0,v1,v2,a3,a4,a5,a6,a7] e (0,0)) := set_heap' h2 2 v2
 have h4 : (((((((w.setCell ⟨g,0,none⟩ v0)).setCell ⟨g,1,none⟩ v1)).setCell ⟨g,2,none⟩ v2)).setCell ⟨g,3,none⟩ v3).heap[g]? = some (.cells #[v0,v1,v2,v3,a4,a5,a6,a7] e (0,0)) := set_heap' h3 3 v3
 have h5 : (((((((((w.setCell ⟨g,0,none⟩ v0)).setCell ⟨g,1,none⟩ v1)).setCell ⟨g,2,none⟩ v2)).setCell ⟨g,3,none⟩ v3)).setCell ⟨g,4,none⟩ v4).heap[g]? = some (.cells #[v0,v1,v2,v3,v4,a5,a6,a7] e (0,0)) := set_heap' h4 4 v4
 have h6 : (((((((((((w.setCell ⟨g,0,none⟩ v0)).setCell ⟨g,1,none⟩ v1)).setCell ⟨g,2,none⟩ v2)).setCell ⟨g,3,none⟩ v3)).setCell ⟨g,4,none⟩ v4)).setCell ⟨g,5,none⟩ v5).heap[g]? = some (.cells #[v0,v1,v2,v3,v4,v5,a6,a7] e (0,0)) := set_heap' h5 5 v5
 have h7 : (((((((((((((w.setCell ⟨g,0,none⟩ v0)).setCell ⟨g,1,none⟩ v1)).setCell ⟨g,2,none⟩ v2)).setCell ⟨g,3,none⟩ v3)).setCell ⟨g,4,none⟩ v4)).setCell ⟨g,5,none⟩ v5)).setCell ⟨g,6,none⟩ v6).heap[g]? = some (.cells #[v0,v1,v2,v3,v4,v5,v6,a7] e (0,0)) := set_heap' h6 6 v6
 exact set_heap' h7 7 v7

theorem eight_grown {w W : World} {row : Option Nat} (h : w.grownBy W row) {b : Nat} (hb : w.heap.size ≤ b) (v0 v1 v2 v3 v4 v5 v6 v7 : Value) :
  w.grownBy ((((((((W.setCell ⟨b,0,none⟩ v0).setCell ⟨b,1,none⟩ v1).setCell ⟨b,2,none⟩ v2).setCell ⟨b,3,none⟩ v3).setCell ⟨b,4,none⟩ v4).setCell ⟨b,5,none⟩ v5).setCell ⟨b,6,none⟩ v6).setCell ⟨b,7,none⟩ v7) row := by
 have h1 := grown_new h hb 0 v0
 have h2 := grown_new h1 hb 1 v1
 have h3 := grown_new h2 hb 2 v2
 have h4 := grown_new h3 hb 3 v3
 have h5 := grown_new h4 hb 4 v4
 have h6 := grown_new h5 hb 5 v5
 have h7 := grown_new h6 hb 6 v6
 exact grown_new h7 hb 7 v7

theorem eight_other {W : World} {g b : Nat} {x : Option Obj} (h : W.heap[g]? = x) (hne : b ≠ g) (v0 v1 v2 v3 v4 v5 v6 v7 : Value) :
  ((((((((W.setCell ⟨b,0,none⟩ v0).setCell ⟨b,1,none⟩ v1).setCell ⟨b,2,none⟩ v2).setCell ⟨b,3,none⟩ v3).setCell ⟨b,4,none⟩ v4).setCell ⟨b,5,none⟩ v5).setCell ⟨b,6,none⟩ v6).setCell ⟨b,7,none⟩ v7).heap[g]? = x := by
 have h1 := blk_other h hne 0 v0
 have h2 := blk_other h1 hne 1 v1
 have h3 := blk_other h2 hne 2 v2
 have h4 := blk_other h3 hne 3 v3
 have h5 := blk_other h4 hne 4 v4
 have h6 := blk_other h5 hne 5 v5
 have h7 := blk_other h6 hne 6 v6
 exact blk_other h7 hne 7 v7

theorem eight_cells {w : World} {g : Nat} {e : TypeId} {v0 v1 v2 v3 v4 v5 v6 v7 : Value} (h : w.heap[g]? = some (.cells #[v0,v1,v2,v3,v4,v5,v6,v7] e (0,0))) :
  (w.cell? ⟨g,0,none⟩ = some v0 ∧ w.cell? ⟨g,1,none⟩ = some v1 ∧ w.cell? ⟨g,2,none⟩ = some v2 ∧ w.cell? ⟨g,3,none⟩ = some v3 ∧ w.cell? ⟨g,4,none⟩ = some v4 ∧ w.cell? ⟨g,5,none⟩ = some v5 ∧ w.cell? ⟨g,6,none⟩ = some v6 ∧ w.cell? ⟨g,7,none⟩ = some v7) ∧
  (w.frozen? ⟨g,0,none⟩ = false ∧ w.frozen? ⟨g,1,none⟩ = false ∧ w.frozen? ⟨g,2,none⟩ = false ∧ w.frozen? ⟨g,3,none⟩ = false ∧ w.frozen? ⟨g,4,none⟩ = false ∧ w.frozen? ⟨g,5,none⟩ = false ∧ w.frozen? ⟨g,6,none⟩ = false ∧ w.frozen? ⟨g,7,none⟩ = false) := by
 refine ⟨⟨?_,?_,?_,?_,?_,?_,?_,?_⟩,?_,?_,?_,?_,?_,?_,?_,?_⟩ <;> simp [World.cell?,World.frozen?,h]

theorem w64_bd (x : Int) : i64b (w64 x) := by
 unfold i64b w64 wrap64
 omega

theorem set_size (w : World) (p : Addr) (u : Value) : (w.setCell p u).heap.size = w.heap.size := by simp [World.setCell]

end Go.Proofs.YtlekfcehmlepkaaGreatDoor
