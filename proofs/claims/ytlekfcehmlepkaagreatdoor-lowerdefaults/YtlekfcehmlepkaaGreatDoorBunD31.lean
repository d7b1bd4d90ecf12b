/- Put together by a program out of these texts of mine: LQ1, LQ3, LQ4, LPl, LQ5, LQ6, LQ8. -/
import Derived.Test.YtlekfcehmlepkaaGreatDoorBunD30

namespace Go.Proofs.YtlekfcehmlepkaaGreatDoor
open Go.RowKit
set_option linter.unusedVariables false
set_option linter.unusedSimpArgs false

set_option maxRecDepth 100000 in
set_option maxHeartbeats 4000000 in
theorem g1 (S : ByteArray) (s : List Int) (o m t9 k10 : Value) (i0 : Nat) (us : Nat → Value) (W : World) (HS : Hid (Src S s)) (hlen : (s.length : Int) ≤ 100000) (hi0 : i0 ≤ s.length) :
  Goes rP1 (RF S o m (.int .i64 (i0 : Int)) t9 k10 us) W (fun a w => w = W ∧ ∃ us,a = RF S o m (.int .i64 ((lrun lblank s s.length (s.length - i0) i0 : Nat) : Int)) t9 k10 us) Nev Nev := by
 intro Q hN hX hR
 have hsz := HS.out.sz
 obtain ⟨K,hK⟩ : ∃ K,K = lrun lblank s s.length (s.length - i0) i0 := ⟨_,rfl⟩
 rw [← hK] at hN
 have HK : Hid (K = lrun lblank s s.length (s.length - i0) i0) := hK
 have HN : Hid _ := hN
 clear hX hR hK hN
 unfold RF
 conv => arg 2; whnf
 go_wp2
 go_loopw [7] (fun v wr => ∃ i : Nat,v = .int .i64 (i : Int) ∧ i0 ≤ i ∧ i ≤ s.length ∧ Hid (K = lrun lblank s s.length (s.length - i) i) ∧ W = wr) (fun v _ => s.length - (intOf v).toNat)
 case atStart => exact ⟨i0,rfl,by omega,hi0,HK,rfl⟩
 case round =>
  obtain ⟨i,rfl,hii,his,HI,rfl⟩ := hrel
  by_cases hil : i < s.length
  ·have hat := HS.out.at i hil
   have hcb := HS.out.bd i
   have HI' := HI.out
   obtain ⟨m',hm⟩ : ∃ m,s.length - i = m + 1 := ⟨s.length - i - 1,by omega⟩
   rw [hm,lrun,show m' = s.length - (i + 1) by omega] at HI'
   generalize s.getD i 0 = c at hat hcb HI'
   obtain ⟨c0,c255⟩ := hcb
   clear hm HI
   have q := fun W => rblank_any c W c0 c255
   by_cases hbl : lblank c = true
   ·rw [if_pos ⟨hil,hbl⟩] at HI'
    rw [hbl] at q
    have HE : Hid _ := HI'
    have QB : Hid _ := q
    clear HI' q hbl
    go_wp2_with fail
    refine Calls.mono (QB.out _) ?_
    rintro e w1 ⟨rfl,rfl⟩
    go_wp2
    go_roundw
    case rel => first | exact ⟨i + 1,by go_num,by omega,by omega,HE,by first | rfl | trivial⟩ | ((repeat apply Exists.intro); exact ⟨⟨i + 1,by go_num,by omega,by omega,HE,by first | rfl | trivial⟩,rfl⟩)
    case measure => simp [intOf]; omega
   ·have hbl' : lblank c = false := by simpa using hbl
    rw [if_neg (fun h => hbl h.2)] at HI'
    rw [hbl'] at q
    have QB : Hid _ := q
    subst HI'
    clear q hbl hbl'
    go_wp2_with fail
    refine Calls.mono (QB.out _) ?_
    rintro e w1 ⟨rfl,rfl⟩
    go_wp2
    exact HN.out _ _ ⟨rfl,RF.mk _ rfl rfl⟩
  ·obtain rfl : i = s.length := by omega
   have e := HI.out
   rw [Nat.sub_self,lrun] at e
   subst e
   clear HI
   go_wp2
   exact HN.out _ _ ⟨rfl,RF.mk _ rfl rfl⟩

set_option maxRecDepth 100000 in
set_option maxHeartbeats 4000000 in
theorem g2_on (S : ByteArray) (s : List Int) (o m t9 k10 : Value) (i : Nat) (us : Nat → Value) (W : World) (HS : Hid (Src S s)) (hi : i < s.length) :
  Goes rP2 (RF S o m (.int .i64 (i : Int)) t9 k10 us) W (fun a w => w = W ∧ ∃ us,a = RF S o m (.int .i64 (i : Int)) t9 k10 us) Nev Nev := by
 intro Q hN hX hR
 have hsz := HS.out.sz
 have HN : Hid _ := hN
 have hne : ((i : Int) == (s.length : Int)) = false := by simp; omega
 clear hX hR hN
 unfold RF
 conv => arg 2; whnf
 go_wp2
 exact HN.out _ _ ⟨rfl,RF.mk _ rfl rfl⟩

set_option maxRecDepth 100000 in
set_option maxHeartbeats 4000000 in
theorem g2_end (S : ByteArray) (s : List Int) (o m t9 k10 : Value) (us : Nat → Value) (w W : World) (R : List Tk × Int × Int) (out : List Tk) (ms : List Nat) (HS : Hid (Src S s)) (HL : Hid (s.length ≤ 100000)) (hol : out.length ≤ s.length) (hml : ms.length ≤ s.length)
  (HM : Hid (∀ j,ms.getD j 0 ≤ 1000000)) (HTo : Hid (To W w.heap.size o out)) (HMo : Hid (W.ownsRow w.heap.size 3 1 m ms.length (mcells ms))) (HB : Hid (Below w.heap.size w W)) (E : Hid (R = (out ++ [⟨0,[],0,s.length,ldoc s s.length ms⟩],0,0))) :
  Goes rP2 (RF S o m (.int .i64 (s.length : Int)) t9 k10 us) W Nev Nev (Rtn w R) := by
 intro Q hN hX hR
 have hsz := HS.out.sz
 have HR : Hid _ := hR
 have hnl : ((s.length : Int) == (s.length : Int)) = true := by simp
 obtain ⟨a6,c6,rfl⟩ := own_slice HMo.out
 have hdoc := rdoc_any (w := W) (a := a6) (len := ms.length) (cap := c6) (ms := ms) s s.length (Is.of_owns HMo.out) HS.out.bd (by have := HL.out; omega) (Nat.le_refl _) (by have := HL.out; omega) HM
 rw [← HS.out.eq] at hdoc
 have hdb := ldoc_bd s s.length ms (mem_bd HS.out.bd)
 generalize ldoc s s.length ms = D at hdoc E hdb
 have QD : Hid _ := hdoc
 have hTo' := HTo.out.below ((Below.refl W.heap.size W).alloc (Nat.le_refl _) (.cells #[.int .i64 0,.string { data := #[] },.int .u64 0,.int .i64 (s.length : Int),.string (strOfNums D)] 81))
 have HTo' : Hid (To _ _ _ _) := hTo'
 have hB1 := HB.out.alloc HB.out.size (.cells #[.int .i64 0,.string { data := #[] },.int .u64 0,.int .i64 (s.length : Int),.string (strOfNums D)] 81)
 have HB1 : Hid (Below _ _ _) := hB1
 have hn1 : out.length + 1 ≤ 1000000 := by have := HL.out; omega
 have hcl : Hid _ := tok_cells W ⟨0,[],0,s.length,D⟩ #[.int .i64 0,.string { data := #[] },.int .u64 0,.int .i64 (s.length : Int),.string (strOfNums D)] rfl
 have hk : Hid (Tk.ok ⟨0,[],0,s.length,D⟩) := ⟨by simp,hdb⟩
 clear hX hN hR hdoc hTo' hB1 hdb
 unfold RF
 conv => arg 2; whnf
 go_wp2_with fail
 refine Calls.mono QD.out ?_
 rintro e w1 ⟨rfl,rfl⟩
 go_wp2_with (at_builtin; refine wpList_append_tok rfl _ _ rfl w.heap.size _ out ⟨0,[],0,s.length,D⟩ W.heap.size 1 rfl rfl HTo'.out hk.out hcl.out hn1 HB1.out.size ?_; intro v2 w2 hTo2 hgrow2)
 refine HR.out _ _ ⟨_,rfl,?_,?_,rfl,?_,HB1.out.grown hgrow2 HB1.out.size (fun j hj => (HTo'.out.1.lt j hj).1)⟩
 ·rw [E.out]; rfl
 ·rw [E.out]; rfl
 ·rw [E.out]; exact hTo2

set_option maxRecDepth 100000 in
set_option maxHeartbeats 4000000 in
theorem g3_no (S : ByteArray) (s : List Int) (o m t9 k10 : Value) (i : Nat) (us : Nat → Value) (W : World) (HS : Hid (Src S s)) (hlen : (s.length : Int) ≤ 100000) (hi : i < s.length) (k1 : ¬ (i + 1 < s.length ∧ s.getD i 0 = 47 ∧ s.getD (i + 1) 0 = 47)) :
  Goes rP3 (RF S o m (.int .i64 (i : Int)) t9 k10 us) W (fun a w => w = W ∧ ∃ us,a = RF S o m (.int .i64 (i : Int)) t9 k10 us) Nev Nev := by
 intro Q hN hX hR
 have hsz := HS.out.sz
 have HN : Hid _ := hN
 clear hX hR hN
 by_cases hi1n : i + 1 < s.length
 ·have hi1 : (i : Int) + 1 < (s.length : Int) := by omega
  have hs1 := run_cut S i (i + 2) (i : Int) ((i : Int) + 2) rfl (by omega) (by omega) (by omega)
  have htw := HS.out.two i hi1n 47 47 (by omega) (by omega)
  rw [decide_eq_false (fun h => k1 ⟨hi1n,h⟩)] at htw
  change ((S.extract i (i + 2)).toList == [47,47]) = false at htw
  clear k1
  unfold RF
  conv => arg 2; whnf
  go_wp2
  exact HN.out _ _ ⟨rfl,RF.mk _ rfl rfl⟩
 ·have hi1 : ¬ (i : Int) + 1 < (s.length : Int) := by omega
  clear k1
  unfold RF
  conv => arg 2; whnf
  go_wp2
  exact HN.out _ _ ⟨rfl,RF.mk _ rfl rfl⟩

set_option maxRecDepth 100000 in
set_option maxHeartbeats 4000000 in
theorem g3_yes (S : ByteArray) (s : List Int) (o m t9 k10 : Value) (i : Nat) (us : Nat → Value) (W : World) (HS : Hid (Src S s)) (hlen : (s.length : Int) ≤ 100000) (k1 : i + 1 < s.length ∧ s.getD i 0 = 47 ∧ s.getD (i + 1) 0 = 47) :
  Goes rP3 (RF S o m (.int .i64 (i : Int)) t9 k10 us) W Nev (fun a w => w = W ∧ ∃ us,a = RF S o m (.int .i64 ((lrun leol s s.length (s.length - i) i : Nat) : Int)) t9 k10 us) Nev := by
 intro Q hN hX hR
 have hsz := HS.out.sz
 obtain ⟨K,hK⟩ : ∃ K,K = lrun leol s s.length (s.length - i) i := ⟨_,rfl⟩
 rw [← hK] at hX
 have HK : Hid (K = lrun leol s s.length (s.length - i) i) := hK
 have HX : Hid _ := hX
 have hi1 : (i : Int) + 1 < (s.length : Int) := by omega
 have hs1 := run_cut S i (i + 2) (i : Int) ((i : Int) + 2) rfl (by omega) (by omega) (by omega)
 have htw := HS.out.two i k1.1 47 47 (by omega) (by omega)
 rw [decide_eq_true k1.2] at htw
 change ((S.extract i (i + 2)).toList == [47,47]) = true at htw
 clear hX hR hK hN k1
 unfold RF
 conv => arg 2; whnf
 go_wp2
 go_loopw [7] (fun v wr => ∃ j : Nat,v = .int .i64 (j : Int) ∧ i ≤ j ∧ j ≤ s.length ∧ Hid (K = lrun leol s s.length (s.length - j) j) ∧ W = wr) (fun v _ => s.length - (intOf v).toNat)
 case atStart => exact ⟨i,rfl,by omega,by omega,HK,rfl⟩
 case round =>
  obtain ⟨j,rfl,hij,hjs,HJ,rfl⟩ := hrel
  by_cases hjl : j < s.length
  ·have hatj := HS.out.at j hjl
   have HJ' := HJ.out
   obtain ⟨m',hm⟩ : ∃ m,s.length - j = m + 1 := ⟨s.length - j - 1,by omega⟩
   rw [hm,lrun,show m' = s.length - (j + 1) by omega] at HJ'
   by_cases h10 : s.getD j 0 = 10
   ·rw [if_neg (fun h => by rw [h10] at h; exact absurd h.2 (by decide))] at HJ'
    rw [h10] at hatj
    subst HJ'
    clear HJ hm
    go_wp2
    exact HX.out _ _ ⟨rfl,RF.mk _ rfl rfl⟩
   ·have hp : leol (s.getD j 0) = true := decide_eq_true h10
    rw [if_pos ⟨hjl,hp⟩] at HJ'
    have HJ2 : Hid _ := HJ'
    generalize s.getD j 0 = c2 at hatj h10
    have e10 : (c2 != 10) = true := by simpa using h10
    clear HJ HJ' hm hp
    go_wp2
    go_roundw
    case rel => first | exact ⟨j + 1,by go_num,by omega,by omega,HJ2,by first | rfl | trivial⟩ | ((repeat apply Exists.intro); exact ⟨⟨j + 1,by go_num,by omega,by omega,HJ2,by first | rfl | trivial⟩,rfl⟩)
    case measure => simp [intOf]; omega
  ·obtain rfl : j = s.length := by omega
   have e := HJ.out
   rw [Nat.sub_self,lrun] at e
   subst e
   clear HJ
   go_wp2
   exact HX.out _ _ ⟨rfl,RF.mk _ rfl rfl⟩

theorem RF.mk2 {S : ByteArray} {o m iv t9 k10 : Value} {a' : Act} {P : Prop} (us : Nat → Value) (_hu : us = fun k => a'.tmps.getD k undef) (h : a' = RF S o m iv t9 k10 us) (hP : P) : ∃ us,a' = RF S o m iv t9 k10 us ∧ P := ⟨us,h,hP⟩

set_option maxRecDepth 100000 in
set_option maxHeartbeats 4000000 in
theorem g4_no (S : ByteArray) (s : List Int) (o m t9 k10 : Value) (i : Nat) (us : Nat → Value) (W : World) (HS : Hid (Src S s)) (hlen : (s.length : Int) ≤ 100000) (hi : i < s.length) (k1 : ¬ (i + 1 < s.length ∧ s.getD i 0 = 47 ∧ s.getD (i + 1) 0 = 42)) :
  Goes rP4 (RF S o m (.int .i64 (i : Int)) t9 k10 us) W (fun a w => w = W ∧ ∃ us,a = RF S o m (.int .i64 (i : Int)) t9 k10 us) Nev Nev := by
 intro Q hN hX hR
 have hsz := HS.out.sz
 have HN : Hid _ := hN
 clear hX hR hN
 by_cases hi1n : i + 1 < s.length
 ·have hi1 : (i : Int) + 1 < (s.length : Int) := by omega
  have hs1 := run_cut S i (i + 2) (i : Int) ((i : Int) + 2) rfl (by omega) (by omega) (by omega)
  have htw := HS.out.two i hi1n 47 42 (by omega) (by omega)
  rw [decide_eq_false (fun h => k1 ⟨hi1n,h⟩)] at htw
  change ((S.extract i (i + 2)).toList == [47,42]) = false at htw
  clear k1
  unfold RF
  conv => arg 2; whnf
  go_wp2
  exact HN.out _ _ ⟨rfl,RF.mk _ rfl rfl⟩
 ·have hi1 : ¬ (i : Int) + 1 < (s.length : Int) := by omega
  clear k1
  unfold RF
  conv => arg 2; whnf
  go_wp2
  exact HN.out _ _ ⟨rfl,RF.mk _ rfl rfl⟩

set_option maxRecDepth 100000 in
set_option maxHeartbeats 4000000 in
theorem g4_yes (S : ByteArray) (s : List Int) (o m t9 k10 : Value) (i : Nat) (us : Nat → Value) (w W : World) (out : List Tk) (ms : List Nat) (HS : Hid (Src S s)) (hlen : (s.length : Int) ≤ 100000) (k2 : i + 1 < s.length ∧ s.getD i 0 = 47 ∧ s.getD (i + 1) 0 = 42)
  (hml : ms.length ≤ s.length) (HTo : Hid (To W w.heap.size o out)) (HMo : Hid (W.ownsRow w.heap.size 3 1 m ms.length (mcells ms))) (HB : Hid (Below w.heap.size w W)) :
  Goes rP4 (RF S o m (.int .i64 (i : Int)) t9 k10 us) W Nev
   (fun a w' => lcl s (s.length - (i + 2)) (i + 2) + 1 < s.length ∧ (∃ m2 us,a = RF S o m2 (.int .i64 ((lcl s (s.length - (i + 2)) (i + 2) + 2 : Nat) : Int)) t9 k10 us ∧ w'.ownsRow w.heap.size 3 1 m2 (ms ++ [i,lcl s (s.length - (i + 2)) (i + 2) + 1]).length (mcells (ms ++ [i,lcl s (s.length - (i + 2)) (i + 2) + 1]))) ∧ To w' w.heap.size o out ∧ Below w.heap.size w w')
   (fun a w' => ¬ (lcl s (s.length - (i + 2)) (i + 2) + 1 < s.length) ∧ Rtn w ([],(i : Int),51) a w') := by
 intro Q hN hX hR
 have hsz := HS.out.sz
 obtain ⟨K,hK⟩ : ∃ K,K = lcl s (s.length - (i + 2)) (i + 2) := ⟨_,rfl⟩
 rw [← hK] at hX hR
 have HK : Hid (K = lcl s (s.length - (i + 2)) (i + 2)) := hK
 have HX : Hid _ := hX
 have HR : Hid _ := hR
 have hi1 : (i : Int) + 1 < (s.length : Int) := by omega
 have hs1 := run_cut S i (i + 2) (i : Int) ((i : Int) + 2) rfl (by omega) (by omega) (by omega)
 have htw2 := HS.out.two i k2.1 47 42 (by omega) (by omega)
 rw [decide_eq_true k2.2] at htw2
 change ((S.extract i (i + 2)).toList == [47,42]) = true at htw2
 have hkl := k2.1
 clear hX hR hK hN k2
 unfold RF
 conv => arg 2; whnf
 go_wp2
 go_loopw [8] (fun v wr => ∃ j : Nat,v = .int .i64 (j : Int) ∧ i + 2 ≤ j ∧ j ≤ s.length ∧ Hid (K = lcl s (s.length - j) j) ∧ W = wr) (fun v _ => s.length - (intOf v).toNat)
 case atStart => exact ⟨i + 2,by go_num,by omega,by omega,HK,rfl⟩
 case round =>
  obtain ⟨j,rfl,hij,hjs,HJ,rfl⟩ := hrel
  by_cases hjl : j + 1 < s.length
  ·have hs2 := run_cut S j (j + 2) (j : Int) ((j : Int) + 2) rfl (by omega) (by omega) (by omega)
   have htw3 := HS.out.two j hjl 42 47 (by omega) (by omega)
   have hjl' : (j : Int) + 1 < (s.length : Int) := by omega
   have HJ' := HJ.out
   obtain ⟨m',hm⟩ : ∃ m,s.length - j = m + 1 := ⟨s.length - j - 1,by omega⟩
   rw [hm,lcl,show m' = s.length - (j + 1) by omega] at HJ'
   by_cases h10 : s.getD j 0 = 42 ∧ s.getD (j + 1) 0 = 47
   ·rw [if_neg (fun h => h.2 h10)] at HJ'
    rw [decide_eq_true h10] at htw3
    change ((S.extract j (j + 2)).toList == [42,47]) = true at htw3
    subst HJ'
    have hge : ¬ (s.length : Int) ≤ (K : Int) + 1 := by omega
    clear HJ hm
    have HMo' := own_allc HMo.out (.cells #[.int .i64 (i : Int),.int .i64 ((K : Int) + 1)] 3)
    have hB1 := HB.out.alloc HB.out.size (.cells #[.int .i64 (i : Int),.int .i64 ((K : Int) + 1)] 3)
    have hc0 : (W.alloc (.cells #[.int .i64 (i : Int),.int .i64 ((K : Int) + 1)] 3)).cell? ⟨W.heap.size,0,none⟩ = some (.int .i64 (i : Int)) := by rw [World.cell?_alloc_new]; rfl
    have hc1 : (W.alloc (.cells #[.int .i64 (i : Int),.int .i64 ((K : Int) + 1)] 3)).cell? ⟨W.heap.size,1,none⟩ = some (.int .i64 ((K + 1 : Nat) : Int)) := by rw [World.cell?_alloc_new]; rfl
    have HC0 : Hid _ := hc0
    have HC1 : Hid _ := hc1
    have HMoA : Hid (World.ownsRow _ _ _ _ _ _ _) := HMo'
    have HB1 : Hid (Below _ _ _) := hB1
    have hn2 : ms.length + 2 ≤ 1000000 := by omega
    have hTo' := HTo.out.below ((Below.refl W.heap.size W).alloc (Nat.le_refl _) (.cells #[.int .i64 (i : Int),.int .i64 ((K : Int) + 1)] 3))
    have HToA : Hid (To _ _ _ _) := hTo'
    clear hc0 hc1 HMo' hB1 hTo'
    go_wp2_with (at_builtin; refine wpList_append_marks rfl _ _ rfl w.heap.size _ ms i (K + 1) W.heap.size 2 rfl rfl HMoA.out HC0.out HC1.out hn2 HB1.out.size ?_; intro v2 w2 hMo2 hgrow2)
    rw [show ((K : Int) + 2) = ((K + 2 : Nat) : Int) by omega]
    exact HX.out _ _ ⟨hjl,⟨v2,RF.mk2 _ rfl rfl hMo2⟩,⟨own_other HToA.out.1 HMoA.out (by decide) hgrow2,HTo.out.2⟩,HB1.out.grown hgrow2 HB1.out.size (fun j hj => (HMoA.out.lt j hj).1)⟩
   ·rw [if_pos ⟨hjl,h10⟩] at HJ'
    rw [decide_eq_false h10] at htw3
    change ((S.extract j (j + 2)).toList == [42,47]) = false at htw3
    have HJ2 : Hid _ := HJ'
    clear HJ HJ' hm
    go_wp2
    go_roundw
    case rel => first | exact ⟨j + 1,by go_num,by omega,by omega,HJ2,by first | rfl | trivial⟩ | ((repeat apply Exists.intro); exact ⟨⟨j + 1,by go_num,by omega,by omega,HJ2,by first | rfl | trivial⟩,rfl⟩)
    case measure => simp [intOf]; omega
  ·have hjl' : ¬ (j : Int) + 1 < (s.length : Int) := by omega
   have hge : (s.length : Int) ≤ (j : Int) + 1 := by omega
   have e : lcl s (s.length - j) j = j := by
    cases hm : s.length - j with
    | zero => rfl
    | succ m => rw [lcl,if_neg (fun h => hjl h.1)]
   have HJ' := HJ.out
   rw [e] at HJ'
   subst HJ'
   clear HJ e
   go_wp2
   refine HR.out _ _ ⟨hjl,_,rfl,rfl,rfl,rfl,To.nil _ _,HB.out⟩

theorem ltok_ok (s : List Int) (i : Nat) (d : List Int) (t : Tk) (k : Nat) (hi : i < s.length) (hz : ∀ c ∈ s,0 ≤ c ∧ c ≤ 255) (h : ltok s i d = .inl (t,k)) : t.kind ≠ 0 ∧ t.pos = i ∧ i < k ∧ k ≤ s.length ∧ (∀ p,i ≤ p → p < k → s.getD p 0 ≠ 10) ∧ ∀ c ∈ t.text,0 ≤ c ∧ c ≤ 255 := by
 unfold ltok at h
 have hpc : ∀ a b,∀ c ∈ lpc s a b,0 ≤ c ∧ c ≤ 255 := fun a b c hc => hz c (List.mem_of_mem_take (List.mem_of_mem_drop hc))
 by_cases k1 : lletter (s.getD i 0) = true
 ·rw [if_pos k1] at h
  simp only at h
  have hge := lrun_ge lletter s s.length (s.length - (i + 1)) (i + 1)
  have hle := lrun_le lletter s s.length (s.length - (i + 1)) (i + 1) (by omega)
  have hno : ∀ p,i ≤ p → p < lrun lletter s s.length (s.length - (i + 1)) (i + 1) → s.getD p 0 ≠ 10 := by
   intro p h1 h2 h10
   have : lletter (s.getD p 0) = true := by
    by_cases e : p = i
    ·rw [e]; exact k1
    ·exact (lrun_holds lletter s s.length _ _ p (by omega) h2).1
   rw [h10] at this
   exact absurd this (by decide)
  by_cases k2 : lnumb (s.getD i 0) = true
  ·rw [if_pos k2] at h
   split at h
   ·simp only [Sum.inl.injEq,Prod.mk.injEq] at h
    obtain ⟨rfl,rfl⟩ := h
    exact ⟨(by decide : (2 : Int) ≠ 0),rfl,by omega,hle,hno,by simp⟩
   ·simp at h
  ·rw [if_neg k2] at h
   simp only [Sum.inl.injEq,Prod.mk.injEq] at h
   obtain ⟨rfl,rfl⟩ := h
   exact ⟨(by decide : (1 : Int) ≠ 0),rfl,by omega,hle,hno,hpc _ _⟩
 ·rw [if_neg k1] at h
  by_cases k2 : s.getD i 0 = 34 ∨ s.getD i 0 = 39
  ·rw [if_pos k2] at h
   by_cases k3 : (qtake (s.drop i)).2.2 = 0
   ·rw [if_pos k3] at h
    simp only [Sum.inl.injEq,Prod.mk.injEq] at h
    obtain ⟨rfl,rfl⟩ := h
    obtain ⟨n,h1,h2,h3,h4⟩ := qtake_no10 (s.drop i) k3
    rw [List.length_drop] at h2
    rw [h1,Int.toNat_natCast]
    refine ⟨(by decide : (3 : Int) ≠ 0),rfl,by omega,by omega,fun p g1 g2 => ?_,qtake_bd _ (fun c hc => hz c (List.mem_of_mem_drop hc))⟩
    have := h4 (p - i) (by omega)
    rw [getD_drop',show i + (p - i) = p by omega] at this
    exact this
   ·rw [if_neg k3] at h; simp at h
  ·rw [if_neg k2] at h
   by_cases k3 : lsign (s.getD i 0) = true
   ·rw [if_pos k3] at h
    simp only [Sum.inl.injEq,Prod.mk.injEq] at h
    obtain ⟨rfl,rfl⟩ := h
    refine ⟨(by decide : (4 : Int) ≠ 0),rfl,by omega,by omega,fun p g1 g2 h10 => ?_,hpc _ _⟩
    rw [show p = i by omega] at h10
    rw [h10] at k3
    exact absurd k3 (by decide)
   ·rw [if_neg k3] at h; simp at h

theorem tok_facts {w : World} {g : Nat} {v0 v1 v2 v3 v4 : Value} {e : TypeId} (h : w.heap[g]? = some (.cells #[v0,v1,v2,v3,v4] e (0,0))) :
  w.cell? ⟨g,0,none⟩ = some v0 ∧ w.cell? ⟨g,1,none⟩ = some v1 ∧ w.cell? ⟨g,2,none⟩ = some v2 ∧ w.cell? ⟨g,3,none⟩ = some v3 ∧ w.cell? ⟨g,4,none⟩ = some v4 ∧ w.frozen? ⟨g,4,none⟩ = false := by
 refine ⟨?_,?_,?_,?_,?_,?_⟩ <;> simp [World.cell?,World.frozen?,h]

theorem set_heap2 {w : World} {g : Nat} {c : Array Value} {e : TypeId} (h : w.heap[g]? = some (.cells c e (0,0))) (j : Nat) (u : Value) : (w.setCell ⟨g,j,none⟩ u).heap[g]? = some (.cells (c.setIfInBounds j u) e (0,0)) := by
 simp only [World.setCell,Array.getElem?_modify]
 rw [if_pos trivial,h]
 rfl

def TkBlk (W w2 : World) (kd : Int) (tx : List Int) (n : Int) (i : Nat) (D : List Int) : Prop :=
 w2.heap[W.heap.size]? = some (.cells #[.int .i64 kd,.string (strOfNums tx),.int .u64 n,.int .i64 (i : Int),.string (strOfNums D)] 81 (0,0)) ∧ Below W.heap.size W w2

set_option maxRecDepth 100000 in
set_option maxHeartbeats 4000000 in
theorem t1 (S : ByteArray) (s : List Int) (o m t9 k10 : Value) (i : Nat) (us : Nat → Value) (w W : World) (ms : List Nat) (HS : Hid (Src S s)) (HL : Hid (s.length ≤ 100000)) (hi : i < s.length) (hml : ms.length ≤ s.length)
  (HM : Hid (∀ j,ms.getD j 0 ≤ 1000000)) (HMo : Hid (W.ownsRow w.heap.size 3 1 m ms.length (mcells ms))) :
  Goes rT1 (RF S o m (.int .i64 (i : Int)) t9 k10 us) W (fun a w2 => w2 = W.alloc (.cells #[.int .i64 0,.string { data := #[] },.int .u64 0,.int .i64 (i : Int),.string (strOfNums (ldoc s i ms))] 81) ∧ ∃ us,a = RF S o m (.int .i64 (i : Int)) (.pointer (some ⟨W.heap.size,0,none⟩)) k10 us) Nev Nev := by
 intro Q hN hX hR
 have hsz := HS.out.sz
 obtain ⟨a6,c6,rfl⟩ := own_slice HMo.out
 have hdoc := rdoc_any (w := W) (a := a6) (len := ms.length) (cap := c6) (ms := ms) s i (Is.of_owns HMo.out) HS.out.bd (by have := HL.out; omega) (by omega) (by have := HL.out; omega) HM
 rw [← HS.out.eq] at hdoc
 generalize ldoc s i ms = D at hdoc hN
 have QD : Hid _ := hdoc
 have HN : Hid _ := hN
 clear hX hN hR hdoc
 unfold RF
 conv => arg 2; whnf
 go_wp2_with fail
 refine Calls.mono QD.out ?_
 rintro e w1 ⟨rfl,rfl⟩
 go_wp2
 exact HN.out _ _ ⟨rfl,RF.mk _ rfl rfl⟩

set_option maxRecDepth 100000 in
set_option maxHeartbeats 4000000 in
theorem t2 (S : ByteArray) (s : List Int) (o m t9 k10 : Value) (i : Nat) (us : Nat → Value) (W : World) (hi : i < s.length) (hlen : (s.length : Int) ≤ 100000) :
  Goes rT2 (RF S o m (.int .i64 (i : Int)) t9 k10 us) W (fun a w2 => w2 = W ∧ ∃ us,a = RF S o m (.int .i64 (i : Int)) t9 (.int .i64 ((i + 1 : Nat) : Int)) us) Nev Nev := by
 intro Q hN hX hR
 have HN : Hid _ := hN
 clear hX hN hR
 unfold RF
 conv => arg 2; whnf
 go_wp2
 rw [show ((i : Int) + 1) = ((i + 1 : Nat) : Int) by omega]
 exact HN.out _ _ ⟨rfl,RF.mk _ rfl rfl⟩

set_option maxRecDepth 100000 in
set_option maxHeartbeats 4000000 in
theorem t3 (S : ByteArray) (s : List Int) (o m iv : Value) (K i : Nat) (us : Nat → Value) (w W w2 : World) (out : List Tk) (kd : Int) (tx : List Int) (n : Int) (D : List Int) (hB : Hid (TkBlk W w2 kd tx n i D)) (HTo : Hid (To W w.heap.size o out)) (HBl : Hid (Below w.heap.size w W)) (HOK : Hid (Tk.ok ⟨kd,tx,n,i,D⟩)) (hol : out.length ≤ 100000) :
  Goes rT3 (RF S o m iv (.pointer (some ⟨W.heap.size,0,none⟩)) (.int .i64 (K : Int)) us) w2 (fun a w3 => ∃ o2,(∃ us,a = RF S o2 m (.int .i64 (K : Int)) (.pointer (some ⟨W.heap.size,0,none⟩)) (.int .i64 (K : Int)) us) ∧ To w3 w.heap.size o2 (out ++ [⟨kd,tx,n,i,D⟩]) ∧ Below w.heap.size w w3 ∧
   ∀ ms,W.ownsRow w.heap.size 3 1 m ms.length (mcells ms) → w3.ownsRow w.heap.size 3 1 m ms.length (mcells ms)) Nev Nev := by
 intro Q hN hX hR
 have HN : Hid _ := hN
 obtain ⟨g0,g1,g2,g3,g4,_⟩ := tok_facts hB.out.1
 have hn1 : out.length + 1 ≤ 1000000 := by omega
 have hTo2 := HTo.out.below hB.out.2
 have HTA : Hid (To (w2.alloc (.cells #[.int .i64 kd,.string (strOfNums tx),.int .u64 n,.int .i64 (i : Int),.string (strOfNums D)] 81)) w.heap.size o out) := hTo2.below ((Below.refl _ _).alloc (Nat.le_refl _) _)
 have hB2 : Below w.heap.size w w2 := HBl.out.trans (hB.out.2.mono HBl.out.size)
 have HBA : Hid (Below w.heap.size w (w2.alloc (.cells #[.int .i64 kd,.string (strOfNums tx),.int .u64 n,.int .i64 (i : Int),.string (strOfNums D)] 81))) := hB2.alloc hB2.size _
 have HCL : Hid _ := tok_cells w2 ⟨kd,tx,n,i,D⟩ #[.int .i64 kd,.string (strOfNums tx),.int .u64 n,.int .i64 (i : Int),.string (strOfNums D)] rfl
 clear hX hN hR hTo2 hB2
 unfold RF
 conv => arg 2; whnf
 go_wp2_with (at_builtin; refine wpList_append_tok rfl _ _ rfl w.heap.size _ out ⟨kd,tx,n,i,D⟩ w2.heap.size 1 rfl rfl HTA.out HOK.out HCL.out hn1 HBA.out.size ?_; intro o2 w5 hTo5 hgrow5)
 refine HN.out _ _ ⟨o2,RF.mk _ rfl rfl,hTo5,HBA.out.grown hgrow5 HBA.out.size (fun j hj => (HTA.out.1.lt j hj).1),fun ms hms => ?_⟩
 exact own_other (own_allc (own_below hms hB.out.2) _) HTA.out.1 (by decide) hgrow5

set_option maxRecDepth 100000 in
set_option maxHeartbeats 4000000 in
theorem sw_sign (S : ByteArray) (s : List Int) (o m : Value) (i : Nat) (us : Nat → Value) (W : World) (D : List Int) (HS : Hid (Src S s)) (hlen : (s.length : Int) ≤ 100000) (hi : i < s.length) (hl : lletter (s.getD i 0) = false) (hq : ¬ (s.getD i 0 = 34 ∨ s.getD i 0 = 39)) (hs : lsign (s.getD i 0) = true) :
  Goes rSW (RF S o m (.int .i64 (i : Int)) (.pointer (some ⟨W.heap.size,0,none⟩)) (.int .i64 ((i + 1 : Nat) : Int)) us) (W.alloc (.cells #[.int .i64 0,.string { data := #[] },.int .u64 0,.int .i64 (i : Int),.string (strOfNums D)] 81)) (fun a w3 => TkBlk W w3 4 (lpc s i (i + 1)) 0 i D ∧ ∃ us,a = RF S o m (.int .i64 (i : Int)) (.pointer (some ⟨W.heap.size,0,none⟩)) (.int .i64 ((i + 1 : Nat) : Int)) us) Nev Nev := by
 intro Q hN hX hR
 have hsz := HS.out.sz
 have hat := HS.out.at i hi
 have hcb := HS.out.bd i
 have HN : Hid _ := hN
 have hrc := run_cut S i (i + 1) (i : Int) ((i : Int) + 1) rfl (by omega) (by omega) (by omega)
 rw [HS.out.cut i (i + 1)] at hrc
 generalize lpc s i (i + 1) = P at hrc HN hN
 generalize s.getD i 0 = c at hat hcb hl hq hs
 have e34 : (c == 34) = false := by simp; omega
 have e39 : (c == 39) = false := by simp; omega
 have ql := fun W => rletter_any c W hcb.1 hcb.2
 rw [hl] at ql
 have qs := fun W => rsign_any c W
 rw [hs] at qs
 have QL : Hid _ := ql
 have QS : Hid _ := qs
 have hi2 : (i : Int) + 1 ≤ (s.length : Int) := by omega
 rw [show ((i + 1 : Nat) : Int) = (i : Int) + 1 by omega]
 clear hN hX hR ql qs hl hq hs
 unfold RF
 conv => arg 2; whnf
 go_wp2_with fail
 refine Calls.mono (QL.out _) ?_
 rintro e w1 ⟨rfl,rfl⟩
 go_wp2_with fail
 refine Calls.mono (QS.out _) ?_
 rintro e w1 ⟨rfl,rfl⟩
 go_wp2
 go_region
 rw [show (i : Int) + 1 = ((i + 1 : Nat) : Int) by omega]
 exact HN.out _ _ ⟨⟨heap_alloc_new W _,((Below.refl _ _).alloc (Nat.le_refl _) _).drew⟩,RF.mk _ rfl rfl⟩

set_option maxRecDepth 100000 in
set_option maxHeartbeats 4000000 in
theorem sw_none (S : ByteArray) (s : List Int) (o m : Value) (i : Nat) (us : Nat → Value) (W : World) (D : List Int) (HS : Hid (Src S s)) (hlen : (s.length : Int) ≤ 100000) (hi : i < s.length) (hl : lletter (s.getD i 0) = false) (hq : ¬ (s.getD i 0 = 34 ∨ s.getD i 0 = 39)) (hs : lsign (s.getD i 0) = false) :
  Goes rSW (RF S o m (.int .i64 (i : Int)) (.pointer (some ⟨W.heap.size,0,none⟩)) (.int .i64 ((i + 1 : Nat) : Int)) us) (W.alloc (.cells #[.int .i64 0,.string { data := #[] },.int .u64 0,.int .i64 (i : Int),.string (strOfNums D)] 81)) Nev Nev (fun a w3 => a.tmps.getD 2 undef = .slice none 0 0 ∧ a.tmps.getD 3 undef = .int .i64 (i : Int) ∧ a.tmps.getD 4 undef = .int .i64 50 ∧ a.defers = [] ∧ Below W.heap.size W w3) := by
 intro Q hN hX hR
 have hsz := HS.out.sz
 have hat := HS.out.at i hi
 have hcb := HS.out.bd i
 have HR : Hid _ := hR
 generalize s.getD i 0 = c at hat hcb hl hq hs
 have e34 : (c == 34) = false := by simp; omega
 have e39 : (c == 39) = false := by simp; omega
 have ql := fun W => rletter_any c W hcb.1 hcb.2
 rw [hl] at ql
 have qs := fun W => rsign_any c W
 rw [hs] at qs
 have QL : Hid _ := ql
 have QS : Hid _ := qs
 clear hN hX hR ql qs hl hq hs
 unfold RF
 conv => arg 2; whnf
 go_wp2_with fail
 refine Calls.mono (QL.out _) ?_
 rintro e w1 ⟨rfl,rfl⟩
 go_wp2_with fail
 refine Calls.mono (QS.out _) ?_
 rintro e w1 ⟨rfl,rfl⟩
 go_wp2
 exact HR.out _ _ ⟨rfl,rfl,rfl,rfl,(Below.refl _ _).alloc (Nat.le_refl _) _⟩

set_option maxRecDepth 100000 in
set_option maxHeartbeats 4000000 in
theorem sw_name (S : ByteArray) (s : List Int) (o m : Value) (i : Nat) (us : Nat → Value) (W : World) (D : List Int) (HS : Hid (Src S s)) (hlen : (s.length : Int) ≤ 100000) (hi : i < s.length) (hl : lletter (s.getD i 0) = true) (hn : lnumb (s.getD i 0) = false) :
  Goes rSW (RF S o m (.int .i64 (i : Int)) (.pointer (some ⟨W.heap.size,0,none⟩)) (.int .i64 ((i + 1 : Nat) : Int)) us) (W.alloc (.cells #[.int .i64 0,.string { data := #[] },.int .u64 0,.int .i64 (i : Int),.string (strOfNums D)] 81)) (fun a w3 => TkBlk W w3 1 (lpc s i (lrun lletter s s.length (s.length - (i + 1)) (i + 1))) 0 i D ∧ ∃ us,a = RF S o m (.int .i64 (i : Int)) (.pointer (some ⟨W.heap.size,0,none⟩)) (.int .i64 ((lrun lletter s s.length (s.length - (i + 1)) (i + 1) : Nat) : Int)) us) Nev Nev := by
 intro Q hN hX hR
 have hsz := HS.out.sz
 have hat := HS.out.at i hi
 have hcb := HS.out.bd i
 obtain ⟨K,hK⟩ : ∃ K,K = lrun lletter s s.length (s.length - (i + 1)) (i + 1) := ⟨_,rfl⟩
 have hg1 := lrun_ge lletter s s.length (s.length - (i + 1)) (i + 1)
 have hg2 := lrun_le lletter s s.length (s.length - (i + 1)) (i + 1) (by omega)
 rw [← hK] at hg1 hg2
 have HK : Hid (K = lrun lletter s s.length (s.length - (i + 1)) (i + 1)) := hK
 have hrc := run_cut S i K (i : Int) (K : Int) rfl rfl (by omega) (by omega)
 rw [HS.out.cut i K] at hrc
 have hpb : ∀ c ∈ lpc s i K,0 ≤ c ∧ c ≤ 255 := fun c hc => mem_bd HS.out.bd c (List.mem_of_mem_take (List.mem_of_mem_drop hc))
 have hPl := lpc_len s i K (by omega) hg2
 rw [← hK] at hN
 have HN : Hid _ := hN
 generalize lpc s i K = P at hrc HN hN hpb hPl
 generalize s.getD i 0 = c at hat hcb hl hn
 have ql := fun W => rletter_any c W hcb.1 hcb.2
 rw [hl] at ql
 have qn := fun W => rnumber_any c W hcb.1 hcb.2
 rw [hn] at qn
 have QL : Hid _ := ql
 have QN : Hid _ := qn
 clear hN hX hR ql qn hl hn hpb hPl hK
 unfold RF
 conv => arg 2; whnf
 go_wp2_with fail
 refine Calls.mono (QL.out _) ?_
 rintro e w1 ⟨rfl,rfl⟩
 go_wp2
 go_loopw [10] (fun v wr => ∃ j : Nat,v = .int .i64 (j : Int) ∧ i + 1 ≤ j ∧ j ≤ s.length ∧ Hid (K = lrun lletter s s.length (s.length - j) j) ∧ W.alloc (.cells #[.int .i64 0,.string { data := #[] },.int .u64 0,.int .i64 (i : Int),.string (strOfNums D)] 81) = wr) (fun v _ => s.length - (intOf v).toNat)
 case atStart => exact ⟨i + 1,by go_num,by omega,by omega,HK,rfl⟩
 case round =>
  obtain ⟨j,rfl,hij,hjs,HJ,rfl⟩ := hrel
  by_cases hjl : j < s.length
  ·have hatj := HS.out.at j hjl
   obtain ⟨d0,d255⟩ := HS.out.bd j
   have HJ' := HJ.out
   obtain ⟨m',hm⟩ : ∃ m,s.length - j = m + 1 := ⟨s.length - j - 1,by omega⟩
   rw [hm,lrun,show m' = s.length - (j + 1) by omega] at HJ'
   generalize s.getD j 0 = d at hatj d0 d255 HJ'
   have q2 := fun W => rletter_any d W d0 d255
   by_cases hld : lletter d = true
   ·rw [if_pos ⟨hjl,hld⟩] at HJ'
    rw [hld] at q2
    have HJ2 : Hid _ := HJ'
    have Q2 : Hid _ := q2
    clear HJ HJ' hm q2 hld
    go_wp2_with fail
    refine Calls.mono (Q2.out _) ?_
    rintro e w1 ⟨rfl,rfl⟩
    go_wp2
    go_roundw
    case rel => first | exact ⟨j + 1,by go_num,by omega,by omega,HJ2,by first | rfl | trivial⟩ | ((repeat apply Exists.intro); exact ⟨⟨j + 1,by go_num,by omega,by omega,HJ2,by first | rfl | trivial⟩,rfl⟩)
    case measure => simp [intOf]; omega
   ·have hld' : lletter d = false := by simpa using hld
    rw [if_neg (fun h => hld h.2)] at HJ'
    rw [hld'] at q2
    have Q2 : Hid _ := q2
    obtain rfl : j = K := HJ'.symm
    clear HJ HJ' hm q2 hld hld'
    go_wp2_with fail
    refine Calls.mono (Q2.out _) ?_
    rintro e w1 ⟨rfl,rfl⟩
    go_wp2
    go_region
    go_wp2_with fail
    refine Calls.mono (QN.out _) ?_
    rintro e w1 ⟨rfl,rfl⟩
    go_wp2
    exact HN.out _ _ ⟨⟨heap_alloc_new W _,((Below.refl _ _).alloc (Nat.le_refl _) _).drew⟩,RF.mk _ rfl rfl⟩
  ·obtain rfl : j = K := by
    have h := HJ.out
    rw [show s.length - j = 0 by omega,lrun] at h
    exact h.symm
   clear HJ
   go_wp2
   go_region
   go_wp2_with fail
   refine Calls.mono (QN.out _) ?_
   rintro e w1 ⟨rfl,rfl⟩
   go_wp2
   exact HN.out _ _ ⟨⟨heap_alloc_new W _,((Below.refl _ _).alloc (Nat.le_refl _) _).drew⟩,RF.mk _ rfl rfl⟩

set_option maxRecDepth 100000 in
set_option maxHeartbeats 4000000 in
theorem sw_num (S : ByteArray) (s : List Int) (o m : Value) (i : Nat) (us : Nat → Value) (W : World) (D : List Int) (HS : Hid (Src S s)) (hlen : (s.length : Int) ≤ 100000) (hi : i < s.length) (hl : lletter (s.getD i 0) = true) (hn : lnumb (s.getD i 0) = true) (hq : (qnum (lpc s i (lrun lletter s s.length (s.length - (i + 1)) (i + 1)))).2 = true) :
  Goes rSW (RF S o m (.int .i64 (i : Int)) (.pointer (some ⟨W.heap.size,0,none⟩)) (.int .i64 ((i + 1 : Nat) : Int)) us) (W.alloc (.cells #[.int .i64 0,.string { data := #[] },.int .u64 0,.int .i64 (i : Int),.string (strOfNums D)] 81)) (fun a w3 => TkBlk W w3 2 [] (qnum (lpc s i (lrun lletter s s.length (s.length - (i + 1)) (i + 1)))).1 i D ∧ ∃ us,a = RF S o m (.int .i64 (i : Int)) (.pointer (some ⟨W.heap.size,0,none⟩)) (.int .i64 ((lrun lletter s s.length (s.length - (i + 1)) (i + 1) : Nat) : Int)) us) Nev Nev := by
 intro Q hN hX hR
 have hsz := HS.out.sz
 have hat := HS.out.at i hi
 have hcb := HS.out.bd i
 obtain ⟨K,hK⟩ : ∃ K,K = lrun lletter s s.length (s.length - (i + 1)) (i + 1) := ⟨_,rfl⟩
 have hg1 := lrun_ge lletter s s.length (s.length - (i + 1)) (i + 1)
 have hg2 := lrun_le lletter s s.length (s.length - (i + 1)) (i + 1) (by omega)
 rw [← hK] at hg1 hg2
 have HK : Hid (K = lrun lletter s s.length (s.length - (i + 1)) (i + 1)) := hK
 have hrc := run_cut S i K (i : Int) (K : Int) rfl rfl (by omega) (by omega)
 rw [HS.out.cut i K] at hrc
 have hpb : ∀ c ∈ lpc s i K,0 ≤ c ∧ c ≤ 255 := fun c hc => mem_bd HS.out.bd c (List.mem_of_mem_take (List.mem_of_mem_drop hc))
 have hPl := lpc_len s i K (by omega) hg2
 rw [← hK] at hN
 have HN : Hid _ := hN
 have qm := fun W => rnum_any (lpc s i K) W (getD_bd hpb) (by omega)
 rw [← hK] at hq
 rw [hq] at qm
 generalize (qnum (lpc s i K)).1 = nn at qm HN hN
 generalize lpc s i K = P at hrc hpb hPl qm hq
 generalize s.getD i 0 = c at hat hcb hl hn
 have ql := fun W => rletter_any c W hcb.1 hcb.2
 rw [hl] at ql
 have qn := fun W => rnumber_any c W hcb.1 hcb.2
 rw [hn] at qn
 have QL : Hid _ := ql
 have QN : Hid _ := qn
 have QM : Hid _ := qm
 clear hN hX hR ql qn hl hn hpb hPl hK qm hq
 unfold RF
 conv => arg 2; whnf
 go_wp2_with fail
 refine Calls.mono (QL.out _) ?_
 rintro e w1 ⟨rfl,rfl⟩
 go_wp2
 go_loopw [10] (fun v wr => ∃ j : Nat,v = .int .i64 (j : Int) ∧ i + 1 ≤ j ∧ j ≤ s.length ∧ Hid (K = lrun lletter s s.length (s.length - j) j) ∧ W.alloc (.cells #[.int .i64 0,.string { data := #[] },.int .u64 0,.int .i64 (i : Int),.string (strOfNums D)] 81) = wr) (fun v _ => s.length - (intOf v).toNat)
 case atStart => exact ⟨i + 1,by go_num,by omega,by omega,HK,rfl⟩
 case round =>
  obtain ⟨j,rfl,hij,hjs,HJ,rfl⟩ := hrel
  by_cases hjl : j < s.length
  ·have hatj := HS.out.at j hjl
   obtain ⟨d0,d255⟩ := HS.out.bd j
   have HJ' := HJ.out
   obtain ⟨m',hm⟩ : ∃ m,s.length - j = m + 1 := ⟨s.length - j - 1,by omega⟩
   rw [hm,lrun,show m' = s.length - (j + 1) by omega] at HJ'
   generalize s.getD j 0 = d at hatj d0 d255 HJ'
   have q2 := fun W => rletter_any d W d0 d255
   by_cases hld : lletter d = true
   ·rw [if_pos ⟨hjl,hld⟩] at HJ'
    rw [hld] at q2
    have HJ2 : Hid _ := HJ'
    have Q2 : Hid _ := q2
    clear HJ HJ' hm q2 hld
    go_wp2_with fail
    refine Calls.mono (Q2.out _) ?_
    rintro e w1 ⟨rfl,rfl⟩
    go_wp2
    go_roundw
    case rel => first | exact ⟨j + 1,by go_num,by omega,by omega,HJ2,by first | rfl | trivial⟩ | ((repeat apply Exists.intro); exact ⟨⟨j + 1,by go_num,by omega,by omega,HJ2,by first | rfl | trivial⟩,rfl⟩)
    case measure => simp [intOf]; omega
   ·have hld' : lletter d = false := by simpa using hld
    rw [if_neg (fun h => hld h.2)] at HJ'
    rw [hld'] at q2
    have Q2 : Hid _ := q2
    obtain rfl : j = K := HJ'.symm
    clear HJ HJ' hm q2 hld hld'
    go_wp2_with fail
    refine Calls.mono (Q2.out _) ?_
    rintro e w1 ⟨rfl,rfl⟩
    go_wp2
    go_region
    go_wp2_with fail
    refine Calls.mono (QN.out _) ?_
    rintro e w1 ⟨rfl,rfl⟩
    go_wp2_with fail
    refine Calls.mono (QM.out _) ?_
    rintro e w1 ⟨rfl,hb1⟩
    obtain ⟨hbW,hz1,x0,x1,x2,x3,x4,y0,y1,y2⟩ := after_call hb1
    have HH : Hid (w1.heap[W.heap.size]? = _) := (hb1.block W.heap.size (by show W.heap.size < (W.alloc _).heap.size; simp)).trans (heap_alloc_new W _)
    go_wp2
    exact HN.out _ _ ⟨⟨set_heap2 (set_heap2 (set_heap2 HH.out 0 _) 1 _) 2 _,((hbW.setCell (p := ⟨W.heap.size,0,none⟩) (Nat.le_refl _) _).setCell (p := ⟨W.heap.size,1,none⟩) (Nat.le_refl _) _).setCell (p := ⟨W.heap.size,2,none⟩) (Nat.le_refl _) _⟩,RF.mk _ rfl rfl⟩
  ·obtain rfl : j = K := by
    have h := HJ.out
    rw [show s.length - j = 0 by omega,lrun] at h
    exact h.symm
   clear HJ
   go_wp2
   go_region
   go_wp2_with fail
   refine Calls.mono (QN.out _) ?_
   rintro e w1 ⟨rfl,rfl⟩
   go_wp2_with fail
   refine Calls.mono (QM.out _) ?_
   rintro e w1 ⟨rfl,hb1⟩
   obtain ⟨hbW,hz1,x0,x1,x2,x3,x4,y0,y1,y2⟩ := after_call hb1
   have HH : Hid (w1.heap[W.heap.size]? = _) := (hb1.block W.heap.size (by show W.heap.size < (W.alloc _).heap.size; simp)).trans (heap_alloc_new W _)
   go_wp2
   exact HN.out _ _ ⟨⟨set_heap2 (set_heap2 (set_heap2 HH.out 0 _) 1 _) 2 _,((hbW.setCell (p := ⟨W.heap.size,0,none⟩) (Nat.le_refl _) _).setCell (p := ⟨W.heap.size,1,none⟩) (Nat.le_refl _) _).setCell (p := ⟨W.heap.size,2,none⟩) (Nat.le_refl _) _⟩,RF.mk _ rfl rfl⟩

set_option maxRecDepth 100000 in
set_option maxHeartbeats 4000000 in
theorem sw_bad (S : ByteArray) (s : List Int) (o m : Value) (i : Nat) (us : Nat → Value) (W : World) (D : List Int) (HS : Hid (Src S s)) (hlen : (s.length : Int) ≤ 100000) (hi : i < s.length) (hl : lletter (s.getD i 0) = true) (hn : lnumb (s.getD i 0) = true) (hq : (qnum (lpc s i (lrun lletter s s.length (s.length - (i + 1)) (i + 1)))).2 = false) :
  Goes rSW (RF S o m (.int .i64 (i : Int)) (.pointer (some ⟨W.heap.size,0,none⟩)) (.int .i64 ((i + 1 : Nat) : Int)) us) (W.alloc (.cells #[.int .i64 0,.string { data := #[] },.int .u64 0,.int .i64 (i : Int),.string (strOfNums D)] 81)) Nev Nev (fun a w3 => a.tmps.getD 2 undef = .slice none 0 0 ∧ a.tmps.getD 3 undef = .int .i64 (i : Int) ∧ a.tmps.getD 4 undef = .int .i64 52 ∧ a.defers = [] ∧ Below W.heap.size W w3) := by
 intro Q hN hX hR
 have hsz := HS.out.sz
 have hat := HS.out.at i hi
 have hcb := HS.out.bd i
 obtain ⟨K,hK⟩ : ∃ K,K = lrun lletter s s.length (s.length - (i + 1)) (i + 1) := ⟨_,rfl⟩
 have hg1 := lrun_ge lletter s s.length (s.length - (i + 1)) (i + 1)
 have hg2 := lrun_le lletter s s.length (s.length - (i + 1)) (i + 1) (by omega)
 rw [← hK] at hg1 hg2
 have HK : Hid (K = lrun lletter s s.length (s.length - (i + 1)) (i + 1)) := hK
 have hrc := run_cut S i K (i : Int) (K : Int) rfl rfl (by omega) (by omega)
 rw [HS.out.cut i K] at hrc
 have hpb : ∀ c ∈ lpc s i K,0 ≤ c ∧ c ≤ 255 := fun c hc => mem_bd HS.out.bd c (List.mem_of_mem_take (List.mem_of_mem_drop hc))
 have hPl := lpc_len s i K (by omega) hg2
 have HR : Hid _ := hR
 have qm := fun W => rnum_any (lpc s i K) W (getD_bd hpb) (by omega)
 rw [← hK] at hq
 rw [hq] at qm
 generalize (qnum (lpc s i K)).1 = nn at qm
 generalize lpc s i K = P at hrc hpb hPl qm hq
 generalize s.getD i 0 = c at hat hcb hl hn
 have ql := fun W => rletter_any c W hcb.1 hcb.2
 rw [hl] at ql
 have qn := fun W => rnumber_any c W hcb.1 hcb.2
 rw [hn] at qn
 have QL : Hid _ := ql
 have QN : Hid _ := qn
 have QM : Hid _ := qm
 clear hN hX hR ql qn hl hn hpb hPl hK qm hq
 unfold RF
 conv => arg 2; whnf
 go_wp2_with fail
 refine Calls.mono (QL.out _) ?_
 rintro e w1 ⟨rfl,rfl⟩
 go_wp2
 go_loopw [10] (fun v wr => ∃ j : Nat,v = .int .i64 (j : Int) ∧ i + 1 ≤ j ∧ j ≤ s.length ∧ Hid (K = lrun lletter s s.length (s.length - j) j) ∧ W.alloc (.cells #[.int .i64 0,.string { data := #[] },.int .u64 0,.int .i64 (i : Int),.string (strOfNums D)] 81) = wr) (fun v _ => s.length - (intOf v).toNat)
 case atStart => exact ⟨i + 1,by go_num,by omega,by omega,HK,rfl⟩
 case round =>
  obtain ⟨j,rfl,hij,hjs,HJ,rfl⟩ := hrel
  by_cases hjl : j < s.length
  ·have hatj := HS.out.at j hjl
   obtain ⟨d0,d255⟩ := HS.out.bd j
   have HJ' := HJ.out
   obtain ⟨m',hm⟩ : ∃ m,s.length - j = m + 1 := ⟨s.length - j - 1,by omega⟩
   rw [hm,lrun,show m' = s.length - (j + 1) by omega] at HJ'
   generalize s.getD j 0 = d at hatj d0 d255 HJ'
   have q2 := fun W => rletter_any d W d0 d255
   by_cases hld : lletter d = true
   ·rw [if_pos ⟨hjl,hld⟩] at HJ'
    rw [hld] at q2
    have HJ2 : Hid _ := HJ'
    have Q2 : Hid _ := q2
    clear HJ HJ' hm q2 hld
    go_wp2_with fail
    refine Calls.mono (Q2.out _) ?_
    rintro e w1 ⟨rfl,rfl⟩
    go_wp2
    go_roundw
    case rel => first | exact ⟨j + 1,by go_num,by omega,by omega,HJ2,by first | rfl | trivial⟩ | ((repeat apply Exists.intro); exact ⟨⟨j + 1,by go_num,by omega,by omega,HJ2,by first | rfl | trivial⟩,rfl⟩)
    case measure => simp [intOf]; omega
   ·have hld' : lletter d = false := by simpa using hld
    rw [if_neg (fun h => hld h.2)] at HJ'
    rw [hld'] at q2
    have Q2 : Hid _ := q2
    obtain rfl : j = K := HJ'.symm
    clear HJ HJ' hm q2 hld hld'
    go_wp2_with fail
    refine Calls.mono (Q2.out _) ?_
    rintro e w1 ⟨rfl,rfl⟩
    go_wp2
    go_region
    go_wp2_with fail
    refine Calls.mono (QN.out _) ?_
    rintro e w1 ⟨rfl,rfl⟩
    go_wp2_with fail
    refine Calls.mono (QM.out _) ?_
    rintro e w1 ⟨rfl,hb1⟩
    obtain ⟨hbW,hz1,x0,x1,x2,x3,x4,y0,y1,y2⟩ := after_call hb1
    go_wp2
    exact HR.out _ _ ⟨rfl,rfl,rfl,rfl,hbW⟩
  ·obtain rfl : j = K := by
    have h := HJ.out
    rw [show s.length - j = 0 by omega,lrun] at h
    exact h.symm
   clear HJ
   go_wp2
   go_region
   go_wp2_with fail
   refine Calls.mono (QN.out _) ?_
   rintro e w1 ⟨rfl,rfl⟩
   go_wp2_with fail
   refine Calls.mono (QM.out _) ?_
   rintro e w1 ⟨rfl,hb1⟩
   obtain ⟨hbW,hz1,x0,x1,x2,x3,x4,y0,y1,y2⟩ := after_call hb1
   go_wp2
   exact HR.out _ _ ⟨rfl,rfl,rfl,rfl,hbW⟩

end Go.Proofs.YtlekfcehmlepkaaGreatDoor
