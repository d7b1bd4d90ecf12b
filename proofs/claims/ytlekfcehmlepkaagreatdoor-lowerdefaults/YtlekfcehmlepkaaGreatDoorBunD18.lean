/- Put together by a program out of these texts of mine: PCopy. -/
import Derived.Laws.CopyRow
import Derived.Test.YtlekfcehmlepkaaGreatDoorBunD7
import Derived.Test.YtlekfcehmlepkaaGreatDoorBunD9
import Derived.Test.YtlekfcehmlepkaaGreatDoorBunD13
import Derived.Test.YtlekfcehmlepkaaGreatDoorBunD16
import Derived.Test.YtlekfcehmlepkaaGreatDoorBunD17

namespace Go.Proofs.YtlekfcehmlepkaaGreatDoor
open Go.RowKit
set_option linter.unusedVariables false
set_option linter.unusedSimpArgs false

theorem wpOp_one {P : Program} {ops : Array Oper} {Q : Exit → Act → World → Prop} {i : Nat} {K : Act → World → Prop} {a : Act} {w : World} {o : Oper} (ho : ops[i]? = some o)
  (h : ∀ Q' : Exit → Act → World → Prop,(∀ a w,K a w → Q' .normal a w) → wpList P ops Q' [o] a w) : wpOp P ops Q i K a w := by
 have h1 := h (fun e a w => match e with | .normal => K a w | e => Q e a w) (fun _ _ h => h)
 unfold wpOp
 simp only [ho]
 simp only [wpList] at h1
 split
 ·rename_i hw
  rw [if_pos hw] at h1
  refine h1.imp (fun h2 => ?_) (fun h2 => ⟨h2.1,h2.2⟩)
  unfold Oper.wp at *
  generalize (execOp a.eval o).run P w = r at *
  cases r with
  | ok n w' =>
   cases n <;> simp only [Oper.upon] at h2 ⊢ <;>
    first
     | exact h2
     | exact Calls.mono h2 (fun e w'' he => by cases e <;> exact he)
  | halt x w' => cases x <;> simp only [Oper.upon] at h2 ⊢ <;> exact h2
 ·rename_i hw
  rw [if_neg hw] at h1
  exact h1

theorem poclone_any (S : ByteArray) (w : World) (hlen : S.size ≤ 2147483647) :
  Calls Tryz.prog 19 #[.string S] w fun e w' => e = .returned (.string S) ∧ Below w.heap.size w w' := by
 have Q : Hid _ := Sh.stringslite_Clone S w (by omega)
 go_enter Tryz.func19,Tryz.ntmps19
 go_wp2_with fail
 refine Calls.mono Q.out ?_
 rintro e w1 ⟨rfl,h1⟩
 go_wp2
 go_ret
 exact ⟨rfl,h1⟩

def Self (gd : Nat) (V : World) : Prop := V.heap[gd]? = some (.cells #[.func (.func 181) #[] #[.pointer (some ⟨gd,0,none⟩)]] 166 (0,0))

def CpEnd (V : World) (kids : List Tn) (e : Ending) (V' : World) : Prop := ∃ v us,e = .returned v ∧ Nl V' V.heap.size v us ∧ bares us = bares kids ∧ Below V.heap.size V V'

theorem Tryz.infoNode2 : (Tryz.prog.info? 28).map (fun i => (i.zero,i.size,i.bytes)) = some (some (.agg #[.int .i64 0,.string { data := #[] },.int .i64 0,.int .i64 0,.int .i64 0,.int .i64 0,.string { data := #[] },.slice none 0 0]),8,96) := by kernel_rfl

def row8 (kd : Int) (T : ByteArray) (n m a pos : Int) (D : ByteArray) (v : Value) : List Value := [.int .i64 kd,.string T,.int .i64 n,.int .i64 m,.int .i64 a,.int .i64 pos,.string D,v]

def upw (us : Nat → Value) (d : Nat) (v : Value) : Nat → Value := fun k => if k = d then v else us k

theorem flat8c : ∀ (ts : List Tn) (i : Nat) (t : Tn),ts[i]? = some t → ∀ (j : Nat) (u : Value),t.cells[j]? = some u → (ts.flatMap Tn.cells)[i * 8 + j]? = some u
 | [],i,t,h,_,_,_ => by simp at h
 | x :: ts,0,t,h,j,u,hj => by
  simp at h
  subst h
  rw [List.flatMap_cons,List.getElem?_append_left (by simpa using (List.getElem?_eq_some_iff.1 hj).1)]
  simpa using hj
 | x :: ts,i + 1,t,h,j,u,hj => by
  have ih := flat8c ts i t (by simpa using h) j u hj
  rw [List.flatMap_cons,List.getElem?_append_right (by rw [cells8]; omega),cells8,show (i + 1) * 8 + j - 8 = i * 8 + j by omega]
  exact ih

theorem row_setCell {w : World} {g : Nat} {cs : Array Value} {t : TypeId} (h : w.heap[g]? = some (.cells cs t (0,0))) (j : Nat) (v : Value) : (w.setCell ⟨g,j,none⟩ v).heap[g]? = some (.cells (cs.setIfInBounds j v) t (0,0)) := by
 rw [setCell_eq_setRow w g j cs t (0,0) v h]
 exact setRow_heap w g cs _ t _ h

theorem setCell_same {w : World} {g : Nat} {cs : Array Value} {t : TypeId} (h : w.heap[g]? = some (.cells cs t (0,0))) (j : Nat) (v : Value) (hj : cs[j]? = some v) : w.setCell ⟨g,j,none⟩ v = w := by
 rw [setCell_eq_setRow w g j cs t (0,0) v h]
 have e : cs.setIfInBounds j v = cs := by
  apply Array.ext_getElem?
  intro i
  rw [Array.getElem?_setIfInBounds]
  split
  ·rename_i hji
   subst hji
   split
   ·exact hj.symm
   ·rename_i hlt
    rw [Array.getElem?_eq_none (by omega)] at hj
    cases hj
  ·rfl
 rw [e]
 exact setRow_self w g cs t (0,0) h

theorem cell_some {w : World} {g : Nat} {cs : Array Value} {t : TypeId} (h : w.heap[g]? = some (.cells cs t (0,0))) (j : Nat) (hj : j < cs.size) : ∃ x,w.cell? ⟨g,j,none⟩ = some x :=
 ⟨cs[j],by simp [World.cell?,h,hj]⟩

def setCells (g : Nat) : Nat → World → List Value → World
 | _,w,[] => w
 | o,w,v :: r => setCells g (o + 1) (w.setCell ⟨g,o,none⟩ v) r

theorem setCells8 (g : Nat) (t : TypeId) : ∀ (vs : List Value) (o : Nat) (cur : Array Value) (w : World),w.heap[g]? = some (.cells cur t (0,0)) → o + vs.length ≤ cur.size →
  setCells g o w vs = w.setRow g (cur.toList.take o ++ vs ++ cur.toList.drop (o + vs.length)).toArray
 | [],o,cur,w,hg,_ => by
  simp only [setCells,List.append_nil,List.length_nil,Nat.add_zero,List.take_append_drop,Array.toArray_toList]
  rw [setRow_self w g cur t (0,0) hg]
 | v :: rest,o,cur,w,hg,hl => by
  have hi : o < cur.size := by simp at hl; omega
  have ih := setCells8 g t rest (o + 1) (cur.setIfInBounds o v) (w.setRow g (cur.setIfInBounds o v)) (setRow_heap w g cur _ t _ hg) (by simp at hl ⊢; omega)
  rw [setCells,setCell_eq_setRow w g o cur t (0,0) v hg,ih,setRow_setRow]
  congr 2
  have e := list_seg_step cur.toList o v rest (by simp at hl ⊢; omega)
  simpa [Array.toList_setIfInBounds,Nat.add_assoc] using e

theorem Nl.slice {w : World} {base : Nat} {v : Value} {us : List Tn} (h : Nl w base v us) : ∃ ad n cap,v = .slice ad n cap := by
 rcases h with ⟨h,_⟩ | ⟨g,h,_⟩
 ·exact ⟨_,_,_,h⟩
 ·exact ⟨_,_,_,h⟩

structure CpI (V : World) (kids : List Tn) (k : Nat) (wr : World) : Prop where
 below : Below V.heap.size V wr
 row : ∃ us rest,us.length = k ∧ bares us = bares (kids.take k) ∧ rest.length = (kids.length - k) * 8 ∧ wr.heap[V.heap.size]? = some (.cells (us.flatMap Tn.cells ++ rest).toArray 28 (0,0)) ∧ ∀ u ∈ us,TnOk wr u ∧ ∀ b ∈ u.blocks,V.heap.size + 1 ≤ b

theorem CpI.start {V W1 : World} {kids : List Tn} {xs : List Value} (h : W1.ownsRow V.heap.size 28 8 (.slice (some ⟨V.heap.size,0,none⟩) kids.length kids.length) kids.length xs) (h0 : 0 < kids.length) (hB : Below V.heap.size V W1) : CpI V kids 0 W1 := by
 refine ⟨hB,[],?_⟩
 rcases h.2 with ⟨h1,_⟩ | ⟨g,cap,cur,h1,h2,h3,h4,h5,h6,h7⟩
 ·cases h1
 ·simp only [Value.slice.injEq,Option.some.injEq,Addr.mk.injEq,and_true,true_and] at h1
  obtain ⟨rfl,rfl⟩ := h1
  exact ⟨cur.toList,rfl,rfl,by simp [h6],by simpa using h3,by simp⟩

theorem CpI.done {V wr : World} {kids : List Tn} (h : CpI V kids kids.length wr) (hn : kids.length ≤ 65536) : CpEnd V kids (.returned (.slice (some ⟨V.heap.size,0,none⟩) kids.length kids.length)) wr := by
 obtain ⟨us,rest,h1,h2,h3,h4,h5⟩ := h.row
 have hr : rest = [] := List.eq_nil_of_length_eq_zero (by rw [h3]; omega)
 subst hr
 rw [List.append_nil] at h4
 rw [List.take_length] at h2
 refine ⟨_,us,rfl,.inr ⟨V.heap.size,by rw [h1],Nat.le_refl _,by omega,h4,fun u hu => ⟨(h5 u hu).1,fun b hb => ?_⟩⟩,h2,h.below⟩
 have := (h5 u hu).2 b hb
 omega

theorem CpI.next {V wr w5 : World} {kids : List Tn} {k g : Nat} (h : CpI V kids k wr) (hk : k < kids.length) {kd : Int} {tx : List Int} {n m a pos : Int} {dc : List Int} {ad : Option Addr} {cap : Nat} {ks : List Tn} (hkid : kids[k]? = some (.mk kd tx n m a pos dc ad cap ks)) (ht : TnOk V (.mk kd tx n m a pos dc ad cap ks))
  (hb : Below wr.heap.size wr w5) (hg : V.heap.size < g) {v : Value} {vs : List Tn} (hv : Nl w5 (g + 1) v vs) (hvs : bares vs = bares ks) :
  ∃ ad' cap',v = .slice ad' ks.length cap' ∧ ∃ cur : Array Value,w5.heap[V.heap.size]? = some (.cells cur 28 (0,0)) ∧ k * 8 + 8 ≤ cur.size ∧
   CpI V kids (k + 1) (w5.setRow V.heap.size (cur.toList.take (k * 8) ++ row8 kd (strOfNums tx) n m a pos (strOfNums dc) (.slice ad' ks.length cap') ++ cur.toList.drop (k * 8 + 8)).toArray) := by
 have hl : vs.length = ks.length := by rw [← bares_len vs,hvs,bares_len]
 obtain ⟨us,rest,h1,h2,h3,h4,h5⟩ := h.row
 have hlt : V.heap.size < wr.heap.size := one_lt h4
 have hlt5 : V.heap.size < w5.heap.size := Nat.lt_of_lt_of_le hlt hb.size
 have h45 := (hb.block _ hlt).trans h4
 have hfl := flat8_len us
 have key : ∀ ad' cap',v = .slice ad' vs.length cap' → TnOk w5 (.mk kd tx n m a pos dc ad' cap' vs) → (∀ b ∈ (Tn.mk kd tx n m a pos dc ad' cap' vs).blocks,V.heap.size + 1 ≤ b) →
   ∃ ad' cap',v = .slice ad' ks.length cap' ∧ ∃ cur : Array Value,w5.heap[V.heap.size]? = some (.cells cur 28 (0,0)) ∧ k * 8 + 8 ≤ cur.size ∧
   CpI V kids (k + 1) (w5.setRow V.heap.size (cur.toList.take (k * 8) ++ row8 kd (strOfNums tx) n m a pos (strOfNums dc) (.slice ad' ks.length cap') ++ cur.toList.drop (k * 8 + 8)).toArray) := by
  intro ad' cap' e1 e2 e3
  refine ⟨ad',cap',by rw [e1,hl],_,h45,by simp [hfl,h1,h3]; omega,?_⟩
  have hks : ∀ j,V.heap.size + 1 ≤ j → j < w5.heap.size → (w5.setRow V.heap.size ((us.flatMap Tn.cells ++ rest).toArray.toList.take (k * 8) ++ row8 kd (strOfNums tx) n m a pos (strOfNums dc) (.slice ad' ks.length cap') ++ (us.flatMap Tn.cells ++ rest).toArray.toList.drop (k * 8 + 8)).toArray).heap[j]? = w5.heap[j]? := fun j h1 h2 => setRow_other _ _ _ _ (by omega)
  have mv : ∀ u : Tn,TnOk w5 u → (∀ b ∈ u.blocks,V.heap.size + 1 ≤ b) → TnOk (w5.setRow V.heap.size ((us.flatMap Tn.cells ++ rest).toArray.toList.take (k * 8) ++ row8 kd (strOfNums tx) n m a pos (strOfNums dc) (.slice ad' ks.length cap') ++ (us.flatMap Tn.cells ++ rest).toArray.toList.drop (k * 8 + 8)).toArray) u := fun u hu hub => hu.movedB (B := V.heap.size + 1) (by simp) hks hub
  refine ⟨(h.below.trans (hb.mono h.below.size)).trans ⟨rfl,rfl,rfl,by simp,fun j hj => setRow_other _ _ _ _ (by omega)⟩,us ++ [.mk kd tx n m a pos dc ad' cap' vs],rest.drop 8,by simp [h1],?_,by rw [List.length_drop,h3]; omega,?_,?_⟩
  ·rw [bares_map] at h2 ⊢
   rw [bares_map] at h2 ⊢
   rw [List.take_add_one,hkid,List.map_append,List.map_append,h2]
   simp [Tn.bare,hvs]
  ·rw [setRow_heap _ _ _ _ _ _ h45]
   congr 3
   simp only [List.toList_toArray]
   rw [List.take_append_of_le_length (by omega),List.take_of_length_le (by omega),List.drop_append,List.drop_eq_nil_of_le (by omega),hfl,h1,show k * 8 + 8 - k * 8 = 8 by omega]
   simp [Tn.cells,hl,row8]
  ·intro u hu
   rcases List.mem_append.1 hu with hu | hu
   ·obtain ⟨g1,g2⟩ := h5 u hu
    exact ⟨mv u (g1.under hb) g2,g2⟩
   ·simp only [List.mem_cons,List.not_mem_nil,or_false] at hu
    subst hu
    exact ⟨mv _ e2 e3,e3⟩
 cases ht with
 | mk hkind htext htl hnn hm ha hpos hdoc hdl hkl hcap hnone hmem hkids =>
 rcases hv with ⟨rfl,rfl⟩ | ⟨q,rfl,q2,q3,q4,q5⟩
 ·refine key none 0 rfl (.mk hkind htext htl hnn hm ha hpos hdoc hdl (by simp) (by simp) (fun _ => rfl) (fun hp => by simp at hp) (fun i t hi => by simp at hi)) ?_
  intro b hb
  simp [Tn.blocks,blocksL] at hb
 ·refine key (some ⟨q,0,none⟩) vs.length rfl (.mk hkind htext htl hnn hm ha hpos hdoc hdl (by omega) (Nat.le_refl _) (fun e => by cases e) (fun hp => ⟨q,0,rfl,one_lt q4,fun i t hi j u hj => ?_⟩) (fun i t hi => (q5 t (List.mem_of_getElem? hi)).1)) ?_
  ·have hf := flat8c vs i t hi j u hj
   rw [Nat.zero_add]
   simp only [World.cell?,q4]
   simpa using hf
  ·intro b hb
   simp only [Tn.blocks,List.cons_append,List.nil_append,List.mem_cons] at hb
   rcases hb with rfl | hb
   ·omega
   ·have := blocksL_all (P := fun b => V.heap.size + 1 ≤ b) (fun t ht b hb => by have := (q5 t ht).2 b hb; omega) b hb
    exact this

def cSl (g gd : Nat) (T D : ByteArray) (kv : Value) (ks : List Tn) (w : World) (i : Nat) (v : Value) : Prop :=
 match i with
 | 0 => v = .pointer (some ⟨g,1,none⟩)
 | 1 => v = .string T
 | 2 => v = .string T
 | 3 => v = .pointer (some ⟨g,6,none⟩)
 | 4 => v = .string D
 | 5 => v = .string D
 | 6 => v = .func (.func 181) #[] #[.pointer (some ⟨gd,0,none⟩)]
 | 7 => v = .pointer (some ⟨g,7,none⟩)
 | 8 => v = kv
 | 9 => ∃ vs,Nl w (g + 1) v vs ∧ bares vs = bares ks
 | 10 => v = .pointer (some ⟨g,1,none⟩)
 | 12 => v = .pointer (some ⟨g,6,none⟩)
 | 14 => v = .pointer (some ⟨g,7,none⟩)
 | _ => True

theorem cSl.keep {g gd : Nat} {T D : ByteArray} {kv : Value} {ks : List Tn} {w w' : World} (hs : w.heap.size ≤ w'.heap.size) (hg : ∀ k,g + 1 ≤ k → k < w.heap.size → w'.heap[k]? = w.heap[k]?) (i : Nat) (v : Value) (h : cSl g gd T D kv ks w i v) : cSl g gd T D kv ks w' i v := by
 unfold cSl at *
 split at h
 ·exact h
 ·exact h
 ·exact h
 ·exact h
 ·exact h
 ·exact h
 ·exact h
 ·exact h
 ·exact h
 ·obtain ⟨vs,h1,h2⟩ := h
  exact ⟨vs,h1.moved (Nat.le_refl _) hs hg,h2⟩
 ·exact h
 ·exact h
 ·exact h
 ·trivial

def cdst (i : Nat) : Nat :=
 match i with
 | 11 => 1011
 | 12 => 31
 | 13 => 1013
 | 14 => 32
 | 15 => 1015
 | i => if i ≤ 10 then i + 20 else i + 2000

theorem cdst_inj (i j : Nat) (h : cdst i = cdst j) : i = j := by
 unfold cdst at h
 split at h <;> split at h <;> (try split at h) <;> (try split at h) <;> omega

def cF (p : Nat → Value) (g gd : Nat) (us : Nat → Value) : Act := { tmps := (p 0 :: .pointer (some ⟨gd,0,none⟩) :: p 2 :: p 3 :: p 4 :: p 5 :: .pointer (some ⟨g,0,none⟩) :: p 7 :: p 8 :: p 9 :: p 10 :: p 11 :: p 12 :: p 13 :: p 14 :: p 15 :: p 16 :: p 17 :: p 18 :: p 19 :: us 20 :: us 21 :: us 22 :: us 23 :: us 24 :: us 25 :: us 26 :: us 27 :: us 28 :: us 29 :: us 30 :: us 31 :: us 32 :: p 33 :: p 34 :: p 35 :: p 36 :: p 37 :: p 38 :: []).toArray,defers := [] }

def cI (wr : World) (p : Nat → Value) (gd : Nat) (kd n m a pos : Int) (T D : ByteArray) (kv : Value) (ks : List Tn) (L : Nat → Bool) (x : Act) (w : World) : Prop :=
 Below wr.heap.size wr w ∧ ∃ us,x = cF p wr.heap.size gd us ∧ (∀ i,L i = true → cSl wr.heap.size gd T D kv ks w i (us (cdst i))) ∧ (w.heap[wr.heap.size]? = some (.cells #[.int .i64 kd,.string T,.int .i64 n,.int .i64 m,.int .i64 a,.int .i64 pos,.string D,if L 15 = true then us 29 else kv] 28 (0,0))) ∧ (L 15 = true → L 8 = true ∧ L 9 = true)

theorem cI.put {wr : World} {p : Nat → Value} {gd : Nat} {kd n m a pos : Int} {T D : ByteArray} {kv : Value} {ks : List Tn} {L : Nat → Bool} {w w' : World} {us : Nat → Value}
  (hB : Below wr.heap.size wr w) (hS : ∀ i,L i = true → cSl wr.heap.size gd T D kv ks w i (us (cdst i))) (hC : w.heap[wr.heap.size]? = some (.cells #[.int .i64 kd,.string T,.int .i64 n,.int .i64 m,.int .i64 a,.int .i64 pos,.string D,if L 15 = true then us 29 else kv] 28 (0,0))) (hO : L 15 = true → L 8 = true ∧ L 9 = true)
  (i : Nat) (hL : L i = false) (hi : i ≠ 15) (v : Value) (x : Act) (hx : x = cF p wr.heap.size gd (upw us (cdst i) v)) (hb : Below w.heap.size w w') (hv : cSl wr.heap.size gd T D kv ks w' i v) :
  cI wr p gd kd n m a pos T D kv ks (fun k => if k = i then true else L k) x w' := by
 refine ⟨hB.trans (hb.mono hB.size),_,hx,fun j hj => ?_,?_,fun h => ?_⟩
 ·by_cases hji : j = i
  ·subst hji
   simpa [upw] using hv
  ·have hne : cdst j ≠ cdst i := fun e => hji (cdst_inj _ _ e)
   have hj' : L j = true := by simpa [hji] using hj
   have := cSl.keep (w' := w') hb.size (fun k _ hk => hb.block k hk) j _ (hS j hj')
   simpa [upw,hne] using this
 ·rw [(hb.block _ (one_lt hC)).trans hC]
  have h15 : (if (15 : Nat) = i then true else L 15) = L 15 := if_neg (Ne.symm hi)
  simp only [h15]
  by_cases h : L 15 = true
  ·have h9 := (hO h).2
   have hi9 : i ≠ 9 := fun e => by subst e; rw [h9] at hL; cases hL
   have : (29 : Nat) ≠ cdst i := fun e => hi9 (cdst_inj 9 i e).symm
   simp [h,upw,this]
  ·simp [h]
 ·have h15 : L 15 = true := by simpa [Ne.symm hi] using h
  have h2 := hO h15
  simp only [h2.1,h2.2]
  constructor <;> split <;> rfl

def cOk (wr : World) (p : Nat → Value) (gd : Nat) (kd n m a pos : Int) (T D : ByteArray) (kv : Value) (ks : List Tn) (i : Nat) (o : Oper) : Prop :=
 ∀ (OPS : Array Oper) (Q : Exit → Act → World → Prop) (L : Nat → Bool) (us : Nat → Value) (w : World),Below wr.heap.size wr w → (∀ i,L i = true → cSl wr.heap.size gd T D kv ks w i (us (cdst i))) → w.heap[wr.heap.size]? = some (.cells #[.int .i64 kd,.string T,.int .i64 n,.int .i64 m,.int .i64 a,.int .i64 pos,.string D,if L 15 = true then us 29 else kv] 28 (0,0)) → (L 15 = true → L 8 = true ∧ L 9 = true) → OPS[i]? = some o → L i = false → (∀ e ∈ o.after,Region.binds .any e = true → L e.on = true) →
  wpOp Tryz.prog OPS Q i (fun a' w' => cI wr p gd kd n m a pos T D kv ks (fun k => if k = i then true else L k) a' w') (cF p wr.heap.size gd us) w

def cAll (wr : World) (p : Nat → Value) (gd : Nat) (kd n m a pos : Int) (T D : ByteArray) (kv : Value) (ks : List Tn) : Nat → List Oper → Prop
 | _,[] => True
 | k,o :: l => cOk wr p gd kd n m a pos T D kv ks k o ∧ cAll wr p gd kd n m a pos T D kv ks (k + 1) l

theorem cAll_get {wr : World} {p : Nat → Value} {gd : Nat} {kd n m a pos : Int} {T D : ByteArray} {kv : Value} {ks : List Tn} : ∀ {l : List Oper} {k : Nat},cAll wr p gd kd n m a pos T D kv ks k l → ∀ (j : Nat) (o : Oper),l[j]? = some o → cOk wr p gd kd n m a pos T D kv ks (k + j) o
 | [],k,_,j,o,h => by simp at h
 | o0 :: l,k,h,0,o,ho => by simp at ho; subst ho; exact h.1
 | o0 :: l,k,h,j + 1,o,ho => by
  have := cAll_get h.2 j o (by simpa using ho)
  rw [show k + (j + 1) = k + 1 + j by omega]
  exact this

theorem cstep {wr : World} {p : Nat → Value} {gd : Nat} {kd n m a pos : Int} {T D : ByteArray} {kv : Value} {ks : List Tn} {Q : Exit → Act → World → Prop} {l : List Oper} (h : cAll wr p gd kd n m a pos T D kv ks 0 l) (L : Nat → Bool) (x : Act) (w : World) (i : Nat) (o : Oper) (hI : cI wr p gd kd n m a pos T D kv ks L x w) (ho : l.toArray[i]? = some o) (hL : L i = false) (hd : ∀ e ∈ o.after,Region.binds .any e = true → L e.on = true) :
  wpOp Tryz.prog l.toArray Q i (fun a' w' => cI wr p gd kd n m a pos T D kv ks (fun k => if k = i then true else L k) a' w') x w := by
 obtain ⟨hB,us,rfl,hS,hC,hO⟩ := hI
 have hk := cAll_get h i o (by simpa using ho)
 rw [Nat.zero_add] at hk
 exact hk _ _ L us w hB hS hC hO ho hL hd

theorem cell_of_row {w : World} {g : Nat} {cs : Array Value} {t : TypeId} (h : w.heap[g]? = some (.cells cs t (0,0))) (j : Nat) (v : Value) (hj : cs[j]? = some v) : w.cell? ⟨g,j,none⟩ = some v := by
 simp only [World.cell?,h]
 simpa using hj

theorem free_of_row {w : World} {g : Nat} {cs : Array Value} {t : TypeId} (h : w.heap[g]? = some (.cells cs t (0,0))) (j : Nat) : w.frozen? ⟨g,j,none⟩ = false := by
 simp [World.frozen?,h]

theorem cregion {id : Nat} {l : List Oper} {Q : Exit → Act → World → Prop} {x : Act} {W : World} (wr : World) (gd : Nat) (kd n m a pos : Int) (T D : ByteArray) (kv : Value) (ks : List Tn) (hW : W = wr.alloc (.cells #[.int .i64 kd,.string T,.int .i64 n,.int .i64 m,.int .i64 a,.int .i64 pos,.string D,kv] 28))
  (hx : x = cF (fun k => x.tmps.toList.getD k undef) wr.heap.size gd (fun k => x.tmps.toList.getD k undef)) (hlex : lexOkB 0 l = true) (hlen : l.length = 16) (hall : ∀ p,cAll wr p gd kd n m a pos T D kv ks 0 l)
  (hend : ∀ us w5,Below wr.heap.size wr w5 → w5.heap[wr.heap.size]? = some (.cells #[.int .i64 kd,.string T,.int .i64 n,.int .i64 m,.int .i64 a,.int .i64 pos,.string D,us 29] 28 (0,0)) → (∃ vs,Nl w5 (wr.heap.size + 1) (us 29) vs ∧ bares vs = bares ks) → Q .normal (cF (fun k => x.tmps.toList.getD k undef) wr.heap.size gd us) w5) :
  (Code.region id l.toArray true).wp Tryz.prog Q x W := by
 subst hW
 refine wp_region_inv' rfl hlex (cI wr (fun k => x.tmps.toList.getD k undef) gd kd n m a pos T D kv ks) ?_ (cstep (hall _)) ?_
 ·refine ⟨((Below.refl _ _).alloc (Nat.le_refl _) _).drew,_,hx,(fun i h => by cases h),?_,(fun h => by cases h)⟩
  exact (alloc_at wr _ rfl).trans (by simp)
 ·rintro L x' w5 ⟨hB,us,rfl,hS,hC,hO⟩ hL
  have h15 : L 15 = true := hL 15 (by omega)
  have h9 := hS 9 (hL 9 (by omega))
  rw [if_pos h15] at hC
  exact hend us w5 hB hC h9

set_option maxRecDepth 10000 in
set_option maxHeartbeats 8000000 in
theorem pcpl_any {w : World} {ad : Option Addr} {cap : Nat} {kids : List Tn} (hk : Kl w ad cap kids) (hn : tnums kids ≤ 65536) (hsh : tbyts kids ≤ 2147483647) (gd : Nat)
  (hf : ∀ (i : Nat) (kd : Int) (tx : List Int) (n m a p : Int) (dc : List Int) (ad2 : Option Addr) (cap2 : Nat) (ks : List Tn),kids[i]? = some (.mk kd tx n m a p dc ad2 cap2 ks) → ∀ V,Below w.heap.size w V → Self gd V → Calls Tryz.prog 181 #[.slice ad2 ks.length cap2,.pointer (some ⟨gd,0,none⟩)] V (CpEnd V ks))
  (V : World) (hB : Below w.heap.size w V) (hS : Self gd V) :
  Calls Tryz.prog 181 #[.slice ad kids.length cap,.pointer (some ⟨gd,0,none⟩)] V (CpEnd V kids) := by
 have hkl := hk.hlen
 have HMem : Hid _ := hk.hmem
 have HAll : Hid _ := hk.hall
 have HF : Hid _ := hf
 have HB : Hid (Below w.heap.size w V) := hB
 have HS : Hid (Self gd V) := hS
 have hln := tnums_len kids
 have hln2 : kids.length ≤ 65536 := by omega
 clear hk hf hB hS hln hn
 by_cases h0 : kids.length = 0
 ·have hz : kids = [] := List.eq_nil_of_length_eq_zero h0
  subst hz
  go_enter Tryz.func181,Tryz.ntmps181
  go_wp2
  go_ret
  exact ⟨_,[],rfl,.inl ⟨rfl,rfl⟩,rfl,Below.refl _ _⟩
 ·obtain ⟨i0,hi,hz0,hz1,hz2⟩ := info_parts Tryz.infoNode2
  obtain ⟨W1,hrun,r1,r2⟩ := run_make_full (P := Tryz.prog) V V.heap.size 26 28 i0 _ 8 Tryz.underlying26 hi hz0 hz1 .i64 .i64 kids.length (by rw [hz2]; omega) (by unfold maxLen; omega) (Nat.le_refl _)
  have hB1 : Below V.heap.size V W1 := (Below.refl _ _).grown r2 (Nat.le_refl _) (fun k h => by cases h)
  have hI0 : CpI V kids 0 W1 := CpI.start r1 (by omega) hB1
  have HI0 : Hid (CpI V kids 0 W1) := hI0
  clear hi hz0 hz1 hz2 r1 r2 hB1 hI0
  have h01 : ¬ ((kids.length : Int) = 0) := by omega
  go_enter Tryz.func181,Tryz.ntmps181
  go_wp2
  go_loopw [15] (fun v wr => ∃ k : Nat,v = .int .i64 (k : Int) ∧ k ≤ kids.length ∧ Hid (CpI V kids k wr)) (fun v _ => kids.length - (intOf v).toNat)
  case atStart => exact ⟨0,rfl,by omega,HI0⟩
  case round =>
   obtain ⟨k,rfl,hk,HK⟩ := hrel
   by_cases hkl2 : k < kids.length
   ·obtain ⟨b,off,rfl,hlt,hc⟩ := HMem.out (by omega)
    obtain ⟨⟨kd,tx,n2,m2,a2,pos2,doc2,ad2,cap2,ks⟩,hkid⟩ : ∃ t,kids[k]? = some t := ⟨kids[k]'hkl2,List.getElem?_eq_getElem hkl2⟩
    have hBB : Below w.heap.size w wr := HB.out.trans (HK.out.below.mono HB.out.size)
    have HBr : Hid (Below w.heap.size w wr) := hBB
    have hSr : Self gd wr := (HK.out.below.block _ (one_lt HS.out)).trans HS.out
    have HSr : Hid (Self gd wr) := hSr
    have hgd : gd < wr.heap.size := one_lt hSr
    have hVr : V.heap.size < wr.heap.size := by obtain ⟨_,_,_,_,_,h4,_⟩ := HK.out.row; exact one_lt h4
    obtain ⟨c0,c1,c2,c3,c4,c5,c6,c7⟩ := kid_cells hlt hBB hc hkid
    have HFk : Hid _ := HF.out k kd tx n2 m2 a2 pos2 doc2 ad2 cap2 ks hkid
    have hby := (tnums_at kids k _ hkid).2
    rw [tbyt] at hby
    have hbk := tbyts_pos ks
    have hT1 : (strOfNums tx).size ≤ 2147483647 := by rw [strOfNums_size]; omega
    have hD1 : (strOfNums doc2).size ≤ 2147483647 := by rw [strOfNums_size]; omega
    have HN : Hid (∀ (w5 : World) (v : Value) (vs : List Tn),Below wr.heap.size wr w5 → Nl w5 (wr.heap.size + 1) v vs → bares vs = bares ks → ∃ ad' cap',v = .slice ad' ks.length cap' ∧ ∃ cur : Array Value,w5.heap[V.heap.size]? = some (.cells cur 28 (0,0)) ∧ k * 8 + 8 ≤ cur.size ∧
     CpI V kids (k + 1) (w5.setRow V.heap.size (cur.toList.take (k * 8) ++ row8 kd (strOfNums tx) n2 m2 a2 pos2 (strOfNums doc2) (.slice ad' ks.length cap') ++ cur.toList.drop (k * 8 + 8)).toArray)) := fun w5 v vs h1 h2 h3 => HK.out.next hkl2 hkid ((HAll.out k _ hkid).under HB.out) h1 hVr h2 h3
    clear hby hbk hkid hc hBB hSr
    generalize strOfNums tx = T at c1 hT1 HN
    generalize strOfNums doc2 = D at c6 hD1 HN
    go_wp2_with fail
    clear c0 c1 c2 c3 c4 c5 c6 c7
    refine cregion wr gd kd n2 m2 a2 pos2 T D (.slice ad2 ks.length cap2) ks rfl rfl (by kernel_rfl) rfl ?_ ?_
    ·intro p
     clear HN HK HMem HAll HF HB HS hlt hVr
     refine ⟨?_,?_,?_,?_,?_,?_,?_,?_,?_,?_,?_,?_,?_,?_,?_,?_,trivial⟩
     ·intro OPS Q L us w6 hB hS hC hO ho hL hd
      refine wpOp_one ho ?_
      intro Q' hQ'
      have HQ : Hid (∀ a' w',cI wr p gd kd n2 m2 a2 pos2 T D (.slice ad2 ks.length cap2) ks (fun k => if k = 0 then true else L k) a' w' → Q' .normal a' w') := hQ'
      clear hQ'
      have H : Hid _ := And.intro hB (And.intro hS (And.intro hC (And.intro hO hL)))
      have hgl : wr.heap.size < w6.heap.size := one_lt hC
      clear hB hS hC hO hL hd ho
      unfold cF
      go_wp2
      exact HQ.out _ _ (cI.put H.out.1 H.out.2.1 H.out.2.2.1 H.out.2.2.2.1 0 H.out.2.2.2.2 (by decide) _ _ (by simp [cF,upw,cdst]) (Below.refl _ _) rfl)
     ·intro OPS Q L us w6 hB hS hC hO ho hL hd
      refine wpOp_one ho ?_
      intro Q' hQ'
      have HQ : Hid (∀ a' w',cI wr p gd kd n2 m2 a2 pos2 T D (.slice ad2 ks.length cap2) ks (fun k => if k = 1 then true else L k) a' w' → Q' .normal a' w') := hQ'
      clear hQ'
      have H : Hid _ := And.intro hB (And.intro hS (And.intro hC (And.intro hO hL)))
      have hgl : wr.heap.size < w6.heap.size := one_lt hC
      have hu : us 20 = .pointer (some ⟨wr.heap.size,1,none⟩) := hS 0 (hd ⟨0,.data⟩ (by simp) rfl)
      have hc : w6.cell? ⟨wr.heap.size,1,none⟩ = some (.string T) := cell_of_row hC 1 _ rfl
      clear hB hS hC hO hL hd ho
      unfold cF
      simp only [hu]
      go_wp2
      exact HQ.out _ _ (cI.put H.out.1 H.out.2.1 H.out.2.2.1 H.out.2.2.2.1 1 H.out.2.2.2.2 (by decide) _ _ (by simp [cF,upw,cdst,hu]) (Below.refl _ _) rfl)
     ·intro OPS Q L us w6 hB hS hC hO ho hL hd
      refine wpOp_one ho ?_
      intro Q' hQ'
      have HQ : Hid (∀ a' w',cI wr p gd kd n2 m2 a2 pos2 T D (.slice ad2 ks.length cap2) ks (fun k => if k = 2 then true else L k) a' w' → Q' .normal a' w') := hQ'
      clear hQ'
      have H : Hid _ := And.intro hB (And.intro hS (And.intro hC (And.intro hO hL)))
      have hgl : wr.heap.size < w6.heap.size := one_lt hC
      have hu : us 21 = .string T := hS 1 (hd ⟨1,.data⟩ (by simp) rfl)
      have Q0 : Hid _ := poclone_any T w6 hT1
      clear hB hS hC hO hL hd ho
      unfold cF
      simp only [hu]
      go_wp2_with fail
      refine Calls.mono Q0.out ?_
      rintro e w7 ⟨rfl,hb⟩
      have HA : Hid _ := hb
      clear hb
      go_wp2
      exact HQ.out _ _ (cI.put H.out.1 H.out.2.1 H.out.2.2.1 H.out.2.2.2.1 2 H.out.2.2.2.2 (by decide) _ _ (by simp [cF,upw,cdst,hu]) HA.out rfl)
     ·intro OPS Q L us w6 hB hS hC hO ho hL hd
      refine wpOp_one ho ?_
      intro Q' hQ'
      have HQ : Hid (∀ a' w',cI wr p gd kd n2 m2 a2 pos2 T D (.slice ad2 ks.length cap2) ks (fun k => if k = 3 then true else L k) a' w' → Q' .normal a' w') := hQ'
      clear hQ'
      have H : Hid _ := And.intro hB (And.intro hS (And.intro hC (And.intro hO hL)))
      have hgl : wr.heap.size < w6.heap.size := one_lt hC
      clear hB hS hC hO hL hd ho
      unfold cF
      go_wp2
      exact HQ.out _ _ (cI.put H.out.1 H.out.2.1 H.out.2.2.1 H.out.2.2.2.1 3 H.out.2.2.2.2 (by decide) _ _ (by simp [cF,upw,cdst]) (Below.refl _ _) rfl)
     ·intro OPS Q L us w6 hB hS hC hO ho hL hd
      refine wpOp_one ho ?_
      intro Q' hQ'
      have HQ : Hid (∀ a' w',cI wr p gd kd n2 m2 a2 pos2 T D (.slice ad2 ks.length cap2) ks (fun k => if k = 4 then true else L k) a' w' → Q' .normal a' w') := hQ'
      clear hQ'
      have H : Hid _ := And.intro hB (And.intro hS (And.intro hC (And.intro hO hL)))
      have hgl : wr.heap.size < w6.heap.size := one_lt hC
      have hu : us 23 = .pointer (some ⟨wr.heap.size,6,none⟩) := hS 3 (hd ⟨3,.data⟩ (by simp) rfl)
      have hc : w6.cell? ⟨wr.heap.size,6,none⟩ = some (.string D) := cell_of_row hC 6 _ rfl
      clear hB hS hC hO hL hd ho
      unfold cF
      simp only [hu]
      go_wp2
      exact HQ.out _ _ (cI.put H.out.1 H.out.2.1 H.out.2.2.1 H.out.2.2.2.1 4 H.out.2.2.2.2 (by decide) _ _ (by simp [cF,upw,cdst,hu]) (Below.refl _ _) rfl)
     ·intro OPS Q L us w6 hB hS hC hO ho hL hd
      refine wpOp_one ho ?_
      intro Q' hQ'
      have HQ : Hid (∀ a' w',cI wr p gd kd n2 m2 a2 pos2 T D (.slice ad2 ks.length cap2) ks (fun k => if k = 5 then true else L k) a' w' → Q' .normal a' w') := hQ'
      clear hQ'
      have H : Hid _ := And.intro hB (And.intro hS (And.intro hC (And.intro hO hL)))
      have hgl : wr.heap.size < w6.heap.size := one_lt hC
      have hu : us 24 = .string D := hS 4 (hd ⟨4,.data⟩ (by simp) rfl)
      have Q0 : Hid _ := poclone_any D w6 hD1
      clear hB hS hC hO hL hd ho
      unfold cF
      simp only [hu]
      go_wp2_with fail
      refine Calls.mono Q0.out ?_
      rintro e w7 ⟨rfl,hb⟩
      have HA : Hid _ := hb
      clear hb
      go_wp2
      exact HQ.out _ _ (cI.put H.out.1 H.out.2.1 H.out.2.2.1 H.out.2.2.2.1 5 H.out.2.2.2.2 (by decide) _ _ (by simp [cF,upw,cdst,hu]) HA.out rfl)
     ·intro OPS Q L us w6 hB hS hC hO ho hL hd
      refine wpOp_one ho ?_
      intro Q' hQ'
      have HQ : Hid (∀ a' w',cI wr p gd kd n2 m2 a2 pos2 T D (.slice ad2 ks.length cap2) ks (fun k => if k = 6 then true else L k) a' w' → Q' .normal a' w') := hQ'
      clear hQ'
      have H : Hid _ := And.intro hB (And.intro hS (And.intro hC (And.intro hO hL)))
      have hgl : wr.heap.size < w6.heap.size := one_lt hC
      have hself : w6.cell? ⟨gd,0,none⟩ = some (.func (.func 181) #[] #[.pointer (some ⟨gd,0,none⟩)]) := one_cell_of ((hB.block _ hgd).trans HSr.out)
      have hgd6 : gd < w6.heap.size := Nat.lt_of_lt_of_le hgd hB.size
      clear hB hS hC hO hL hd ho
      unfold cF
      go_wp2
      exact HQ.out _ _ (cI.put H.out.1 H.out.2.1 H.out.2.2.1 H.out.2.2.2.1 6 H.out.2.2.2.2 (by decide) _ _ (by simp [cF,upw,cdst]) (Below.refl _ _) rfl)
     ·intro OPS Q L us w6 hB hS hC hO ho hL hd
      refine wpOp_one ho ?_
      intro Q' hQ'
      have HQ : Hid (∀ a' w',cI wr p gd kd n2 m2 a2 pos2 T D (.slice ad2 ks.length cap2) ks (fun k => if k = 7 then true else L k) a' w' → Q' .normal a' w') := hQ'
      clear hQ'
      have H : Hid _ := And.intro hB (And.intro hS (And.intro hC (And.intro hO hL)))
      have hgl : wr.heap.size < w6.heap.size := one_lt hC
      clear hB hS hC hO hL hd ho
      unfold cF
      go_wp2
      exact HQ.out _ _ (cI.put H.out.1 H.out.2.1 H.out.2.2.1 H.out.2.2.2.1 7 H.out.2.2.2.2 (by decide) _ _ (by simp [cF,upw,cdst]) (Below.refl _ _) rfl)
     ·intro OPS Q L us w6 hB hS hC hO ho hL hd
      refine wpOp_one ho ?_
      intro Q' hQ'
      have HQ : Hid (∀ a' w',cI wr p gd kd n2 m2 a2 pos2 T D (.slice ad2 ks.length cap2) ks (fun k => if k = 8 then true else L k) a' w' → Q' .normal a' w') := hQ'
      clear hQ'
      have H : Hid _ := And.intro hB (And.intro hS (And.intro hC (And.intro hO hL)))
      have hgl : wr.heap.size < w6.heap.size := one_lt hC
      have hu : us 27 = .pointer (some ⟨wr.heap.size,7,none⟩) := hS 7 (hd ⟨7,.data⟩ (by simp) rfl)
      have h15 : L 15 ≠ true := fun e => by have := (hO e).1; rw [this] at hL; cases hL
      have hc : w6.cell? ⟨wr.heap.size,7,none⟩ = some (.slice ad2 ks.length cap2) := cell_of_row hC 7 _ (by simp [h15])
      clear h15
      clear hB hS hC hO hL hd ho
      unfold cF
      simp only [hu]
      go_wp2
      exact HQ.out _ _ (cI.put H.out.1 H.out.2.1 H.out.2.2.1 H.out.2.2.2.1 8 H.out.2.2.2.2 (by decide) _ _ (by simp [cF,upw,cdst,hu]) (Below.refl _ _) rfl)
     ·intro OPS Q L us w6 hB hS hC hO ho hL hd
      refine wpOp_one ho ?_
      intro Q' hQ'
      have HQ : Hid (∀ a' w',cI wr p gd kd n2 m2 a2 pos2 T D (.slice ad2 ks.length cap2) ks (fun k => if k = 9 then true else L k) a' w' → Q' .normal a' w') := hQ'
      clear hQ'
      have H : Hid _ := And.intro hB (And.intro hS (And.intro hC (And.intro hO hL)))
      have hgl : wr.heap.size < w6.heap.size := one_lt hC
      have hu1 : us 26 = .func (.func 181) #[] #[.pointer (some ⟨gd,0,none⟩)] := hS 6 (hd ⟨6,.data⟩ (by simp) rfl)
      have hu2 : us 28 = .slice ad2 ks.length cap2 := hS 8 (hd ⟨8,.data⟩ (by simp) rfl)
      have hBw : Below w.heap.size w w6 := HBr.out.trans (hB.mono HBr.out.size)
      have Q0 : Hid _ := HFk.out w6 hBw ((hB.block _ hgd).trans HSr.out)
      clear hB hS hC hO hL hd ho hBw
      unfold cF
      simp only [hu1,hu2]
      go_wp2_with fail
      refine Calls.mono Q0.out ?_
      rintro e w7 ⟨v,vs,rfl,hv,hvs,hb⟩
      have HA : Hid (Below w6.heap.size w6 w7) := hb
      have HV : Hid (∃ vs,Nl w7 (wr.heap.size + 1) v vs ∧ bares vs = bares ks) := ⟨vs,hv.low hgl,hvs⟩
      clear hb hv hvs
      go_wp2
      exact HQ.out _ _ (cI.put H.out.1 H.out.2.1 H.out.2.2.1 H.out.2.2.2.1 9 H.out.2.2.2.2 (by decide) _ _ (by simp [cF,upw,cdst,hu1,hu2]) HA.out HV.out)
     ·intro OPS Q L us w6 hB hS hC hO ho hL hd
      refine wpOp_one ho ?_
      intro Q' hQ'
      have HQ : Hid (∀ a' w',cI wr p gd kd n2 m2 a2 pos2 T D (.slice ad2 ks.length cap2) ks (fun k => if k = 10 then true else L k) a' w' → Q' .normal a' w') := hQ'
      clear hQ'
      have H : Hid _ := And.intro hB (And.intro hS (And.intro hC (And.intro hO hL)))
      have hgl : wr.heap.size < w6.heap.size := one_lt hC
      clear hB hS hC hO hL hd ho
      unfold cF
      go_wp2
      exact HQ.out _ _ (cI.put H.out.1 H.out.2.1 H.out.2.2.1 H.out.2.2.2.1 10 H.out.2.2.2.2 (by decide) _ _ (by simp [cF,upw,cdst]) (Below.refl _ _) rfl)
     ·intro OPS Q L us w6 hB hS hC hO ho hL hd
      refine wpOp_one ho ?_
      intro Q' hQ'
      have HQ : Hid (∀ a' w',cI wr p gd kd n2 m2 a2 pos2 T D (.slice ad2 ks.length cap2) ks (fun k => if k = 11 then true else L k) a' w' → Q' .normal a' w') := hQ'
      clear hQ'
      have H : Hid _ := And.intro hB (And.intro hS (And.intro hC (And.intro hO hL)))
      have hgl : wr.heap.size < w6.heap.size := one_lt hC
      have hu1 : us 30 = .pointer (some ⟨wr.heap.size,1,none⟩) := hS 10 (hd ⟨10,.data⟩ (by simp) rfl)
      have hu2 : us 22 = .string T := hS 2 (hd ⟨2,.data⟩ (by simp) rfl)
      have hc : w6.cell? ⟨wr.heap.size,1,none⟩ = some (.string T) := cell_of_row hC 1 _ rfl
      have hfz : w6.frozen? ⟨wr.heap.size,1,none⟩ = false := free_of_row hC 1
      have hsame : w6.setCell ⟨wr.heap.size,1,none⟩ (.string T) = w6 := setCell_same hC 1 _ rfl
      clear hB hS hC hO hL hd ho
      unfold cF
      simp only [hu1,hu2]
      go_wp2
      exact HQ.out _ _ (cI.put H.out.1 H.out.2.1 H.out.2.2.1 H.out.2.2.2.1 11 H.out.2.2.2.2 (by decide) undef _ (by simp [cF,upw,cdst,hu1,hu2]) (Below.refl _ _) trivial)
     ·intro OPS Q L us w6 hB hS hC hO ho hL hd
      refine wpOp_one ho ?_
      intro Q' hQ'
      have HQ : Hid (∀ a' w',cI wr p gd kd n2 m2 a2 pos2 T D (.slice ad2 ks.length cap2) ks (fun k => if k = 12 then true else L k) a' w' → Q' .normal a' w') := hQ'
      clear hQ'
      have H : Hid _ := And.intro hB (And.intro hS (And.intro hC (And.intro hO hL)))
      have hgl : wr.heap.size < w6.heap.size := one_lt hC
      clear hB hS hC hO hL hd ho
      unfold cF
      go_wp2
      exact HQ.out _ _ (cI.put H.out.1 H.out.2.1 H.out.2.2.1 H.out.2.2.2.1 12 H.out.2.2.2.2 (by decide) _ _ (by simp [cF,upw,cdst]) (Below.refl _ _) rfl)
     ·intro OPS Q L us w6 hB hS hC hO ho hL hd
      refine wpOp_one ho ?_
      intro Q' hQ'
      have HQ : Hid (∀ a' w',cI wr p gd kd n2 m2 a2 pos2 T D (.slice ad2 ks.length cap2) ks (fun k => if k = 13 then true else L k) a' w' → Q' .normal a' w') := hQ'
      clear hQ'
      have H : Hid _ := And.intro hB (And.intro hS (And.intro hC (And.intro hO hL)))
      have hgl : wr.heap.size < w6.heap.size := one_lt hC
      have hu1 : us 31 = .pointer (some ⟨wr.heap.size,6,none⟩) := hS 12 (hd ⟨12,.data⟩ (by simp) rfl)
      have hu2 : us 25 = .string D := hS 5 (hd ⟨5,.data⟩ (by simp) rfl)
      have hc : w6.cell? ⟨wr.heap.size,6,none⟩ = some (.string D) := cell_of_row hC 6 _ rfl
      have hfz : w6.frozen? ⟨wr.heap.size,6,none⟩ = false := free_of_row hC 6
      have hsame : w6.setCell ⟨wr.heap.size,6,none⟩ (.string D) = w6 := setCell_same hC 6 _ rfl
      clear hB hS hC hO hL hd ho
      unfold cF
      simp only [hu1,hu2]
      go_wp2
      exact HQ.out _ _ (cI.put H.out.1 H.out.2.1 H.out.2.2.1 H.out.2.2.2.1 13 H.out.2.2.2.2 (by decide) undef _ (by simp [cF,upw,cdst,hu1,hu2]) (Below.refl _ _) trivial)
     ·intro OPS Q L us w6 hB hS hC hO ho hL hd
      refine wpOp_one ho ?_
      intro Q' hQ'
      have HQ : Hid (∀ a' w',cI wr p gd kd n2 m2 a2 pos2 T D (.slice ad2 ks.length cap2) ks (fun k => if k = 14 then true else L k) a' w' → Q' .normal a' w') := hQ'
      clear hQ'
      have H : Hid _ := And.intro hB (And.intro hS (And.intro hC (And.intro hO hL)))
      have hgl : wr.heap.size < w6.heap.size := one_lt hC
      clear hB hS hC hO hL hd ho
      unfold cF
      go_wp2
      exact HQ.out _ _ (cI.put H.out.1 H.out.2.1 H.out.2.2.1 H.out.2.2.2.1 14 H.out.2.2.2.2 (by decide) _ _ (by simp [cF,upw,cdst]) (Below.refl _ _) rfl)
     ·intro OPS Q L us w6 hB hS hC hO ho hL hd
      refine wpOp_one ho ?_
      intro Q' hQ'
      have HQ : Hid (∀ a' w',cI wr p gd kd n2 m2 a2 pos2 T D (.slice ad2 ks.length cap2) ks (fun k => if k = 15 then true else L k) a' w' → Q' .normal a' w') := hQ'
      clear hQ'
      have H : Hid _ := And.intro hB (And.intro hS (And.intro hC (And.intro hO hL)))
      have hgl : wr.heap.size < w6.heap.size := one_lt hC
      have hu1 : us 32 = .pointer (some ⟨wr.heap.size,7,none⟩) := hS 14 (hd ⟨14,.data⟩ (by simp) rfl)
      have h8 : L 8 = true := hd ⟨8,.phase⟩ (by simp) rfl
      have h9 : L 9 = true := hd ⟨9,.data⟩ (by simp) rfl
      obtain ⟨vs,hv,hvs⟩ : ∃ vs,Nl w6 (wr.heap.size + 1) (us 29) vs ∧ bares vs = bares ks := hS 9 h9
      obtain ⟨ad3,n3,cap3,hu2⟩ := hv.slice
      have hc : w6.cell? ⟨wr.heap.size,7,none⟩ = some (if L 15 = true then us 29 else .slice ad2 ks.length cap2) := cell_of_row hC 7 _ rfl
      have hfz : w6.frozen? ⟨wr.heap.size,7,none⟩ = false := free_of_row hC 7
      have hrow := row_setCell hC 7 (us 29)
      have H89 : Hid _ := And.intro h8 h9
      have HR : Hid _ := hrow
      clear hB hS hC hO hL hd ho hv hvs h8 h9 hrow
      unfold cF
      simp only [hu1,hu2]
      go_wp2
      refine HQ.out _ _ ⟨H.out.1.setCell (Nat.le_refl _) _,us,by simp [cF,hu1,hu2],fun j hj => ?_,?_,fun _ => by simp [H89.out.1,H89.out.2]⟩
      ·by_cases hj15 : j = 15
       ·subst hj15
        trivial
       ·have hj' : L j = true := by simpa [hj15] using hj
        refine cSl.keep (by simp) (fun k hk1 hk2 => heap_setCell_other _ _ _ _ (by simp; omega)) j _ (H.out.2.1 j hj')
      ·rw [← hu2,HR.out]
       simp
    ·intro us w5 hB5 hC5 hN5
     clear HFk HSr hT1 hD1
     obtain ⟨vs,hv5,hvs5⟩ := hN5
     obtain ⟨ad',cap',hu29,cur,hcur,hsz,hnx⟩ := HN.out w5 _ vs hB5 hv5 hvs5
     rw [hu29] at hC5
     have HX : Hid _ := hnx
     have d0 := cell_of_row hC5 0 _ rfl
     have d1 := cell_of_row hC5 1 _ rfl
     have d2 := cell_of_row hC5 2 _ rfl
     have d3 := cell_of_row hC5 3 _ rfl
     have d4 := cell_of_row hC5 4 _ rfl
     have d5 := cell_of_row hC5 5 _ rfl
     have d6 := cell_of_row hC5 6 _ rfl
     have d7 := cell_of_row hC5 7 _ rfl
     have hg5 : wr.heap.size < w5.heap.size := one_lt hC5
     have hW := setCells8 V.heap.size 28 [.int .i64 kd,.string T,.int .i64 n2,.int .i64 m2,.int .i64 a2,.int .i64 pos2,.string D,.slice ad' ks.length cap'] (k * 8) cur w5 hcur (by simpa using hsz)
     have HX2 : Hid (CpI V kids (k + 1) (setCells V.heap.size (k * 8) w5 [.int .i64 kd,.string T,.int .i64 n2,.int .i64 m2,.int .i64 a2,.int .i64 pos2,.string D,.slice ad' ks.length cap'])) := by
      show CpI _ _ _ _
      rw [hW]
      exact HX.out
     have hV5 : V.heap.size < w5.heap.size := one_lt hcur
     have f0 := free_of_row hcur (k * 8)
     have f1 := free_of_row hcur (k * 8 + 1)
     have f2 := free_of_row hcur (k * 8 + 2)
     have f3 := free_of_row hcur (k * 8 + 3)
     have f4 := free_of_row hcur (k * 8 + 4)
     have f5 := free_of_row hcur (k * 8 + 5)
     have f6 := free_of_row hcur (k * 8 + 6)
     have f7 := free_of_row hcur (k * 8 + 7)
     obtain ⟨x0,e0⟩ := cell_some hcur (k * 8) (by omega)
     obtain ⟨x1,e1⟩ := cell_some hcur (k * 8 + 1) (by omega)
     obtain ⟨x2,e2⟩ := cell_some hcur (k * 8 + 2) (by omega)
     obtain ⟨x3,e3⟩ := cell_some hcur (k * 8 + 3) (by omega)
     obtain ⟨x4,e4⟩ := cell_some hcur (k * 8 + 4) (by omega)
     obtain ⟨x5,e5⟩ := cell_some hcur (k * 8 + 5) (by omega)
     obtain ⟨x6,e6⟩ := cell_some hcur (k * 8 + 6) (by omega)
     obtain ⟨x7,e7⟩ := cell_some hcur (k * 8 + 7) (by omega)
     clear hC5 hv5 hvs5 hcur hsz hnx HN HX hW
     simp only [cF,List.toList_toArray,List.getD_cons_succ,List.getD_cons_zero]
     go_wp2
     go_roundw
     case rel => first | exact ⟨k + 1,by go_num,by omega,HX2⟩ | ((repeat apply Exists.intro); exact ⟨⟨k + 1,by go_num,by omega,HX2⟩,rfl⟩)
     case measure => simp [intOf]; omega
   ·obtain rfl : k = kids.length := by omega
    go_wp2
    go_ret
    exact HK.out.done hln2

theorem pcpy_any {w : World} (gd : Nat) {t : Tn} (h : TnOk w t) : tnum t ≤ 65536 → tbyt t ≤ 2147483647 → ∀ (kd : Int) (tx : List Int) (n m a p : Int) (dc : List Int) (ad2 : Option Addr) (cap2 : Nat) (ks : List Tn),t = .mk kd tx n m a p dc ad2 cap2 ks → ∀ V,Below w.heap.size w V → Self gd V → Calls Tryz.prog 181 #[.slice ad2 ks.length cap2,.pointer (some ⟨gd,0,none⟩)] V (CpEnd V ks) := by
 induction h with
 | @mk kind text n m a pos doc ad cap kids hkind htext htl hn hm ha hpos hdoc hdl hkl hcap hnone hmem hkids ih =>
  intro hnum hbyt kd tx n' m' a' p dc ad2 cap2 ks e V hB hS
  simp only [Tn.mk.injEq] at e
  obtain ⟨_,_,_,_,_,_,_,rfl,rfl,rfl⟩ := e
  rw [tnum] at hnum
  rw [tbyt] at hbyt
  refine pcpl_any ⟨hkl,hcap,hnone,hmem,hkids⟩ (by omega) (by omega) gd (fun i kd tx n m a p dc ad2 cap2 ks hi V hB hS => ?_) V hB hS
  have h1 := tnums_at kids i _ hi
  exact ih i _ hi (by omega) (by omega) kd tx n m a p dc ad2 cap2 ks rfl V hB hS

set_option maxRecDepth 10000 in
set_option maxHeartbeats 2000000 in
theorem pcopied_any {w : World} {ad : Option Addr} {cap : Nat} {kids : List Tn} (hk : Kl w ad cap kids) (hn : tnums kids ≤ 65536) (hb : tbyts kids ≤ 2147483647) :
  Calls Tryz.prog 164 #[.slice ad kids.length cap] w (CpEnd w kids) := by
 have hA : Below w.heap.size w (w.alloc (.cells #[.func (.func 181) #[] #[.pointer (some ⟨w.heap.size,0,none⟩)]] 166)) := (Below.refl _ _).alloc (Nat.le_refl _) _
 have q := pcpl_any hk hn hb w.heap.size (fun i kd tx n m a p dc ad2 cap2 ks hi V hB hS => by
  have h1 := tnums_at kids i _ hi
  exact pcpy_any w.heap.size (hk.hall i _ hi) (by omega) (by omega) kd tx n m a p dc ad2 cap2 ks rfl V hB hS) _ hA (alloc_at _ _ rfl)
 have hmf : ∀ (fn : Fn) (first cap : Array Value) (w : World),(Instr.makeFunc fn first cap).run Tryz.prog w = .ok (.func fn first cap) w := fun _ _ _ _ => rfl
 have HQ : Hid _ := q
 have HA : Hid _ := hA
 clear q hk hA
 go_enter Tryz.func164,Tryz.ntmps164
 go_wp2_with fail
 refine Calls.mono HQ.out ?_
 rintro e U ⟨v,us,rfl,h1,h2,h3⟩
 have H : Hid _ := And.intro h1 (And.intro h2 h3)
 clear h1 h2 h3
 go_wp2
 go_ret
 obtain ⟨h1,h2,h3⟩ := H.out
 exact ⟨v,us,rfl,h1.low HA.out.size,h2,HA.out.trans (h3.mono HA.out.size)⟩

end Go.Proofs.YtlekfcehmlepkaaGreatDoor
