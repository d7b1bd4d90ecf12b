/- Put together by a program out of these texts of mine: Inv, PInv, PTake0, PTake1. -/
import Derived.Orders
import Derived.Test.YtlekfcehmlepkaaGreatDoorBunD1
import Derived.Test.YtlekfcehmlepkaaGreatDoorBunD12

namespace Go.Proofs.YtlekfcehmlepkaaGreatDoor
open Go.RowKit
set_option linter.unusedVariables false
set_option linter.unusedSimpArgs false

theorem filter_less {p q : Nat → Bool} : ∀ (l : List Nat) (i : Nat),(∀ x,q x = true → p x = true) → i ∈ l → p i = true → q i = false → (l.filter q).length < (l.filter p).length
 | [],i,_,h,_,_ => by cases h
 | x :: r,i,hm,hi,hp,hq => by
  have le : (r.filter q).length ≤ (r.filter p).length := by
   clear hi
   induction r with
   | nil => simp
   | cons y r ih =>
    by_cases hy : q y = true
    ·rw [List.filter_cons_of_pos hy,List.filter_cons_of_pos (hm y hy)]; simp; exact ih
    ·rw [List.filter_cons_of_neg hy]
     by_cases hy2 : p y = true
     ·rw [List.filter_cons_of_pos hy2]; simp; omega
     ·rw [List.filter_cons_of_neg hy2]; exact ih
  by_cases hx : x = i
  ·subst hx
   rw [List.filter_cons_of_pos hp,List.filter_cons_of_neg (by simp [hq])]
   simp; omega
  ·have hir : i ∈ r := by
    rcases List.mem_cons.1 hi with h | h
    ·exact absurd h.symm hx
    ·exact h
   have := filter_less r i hm hir hp hq
   by_cases hy : q x = true
   ·rw [List.filter_cons_of_pos hy,List.filter_cons_of_pos (hm x hy)]; simp; exact this
   ·rw [List.filter_cons_of_neg hy]
    by_cases hy2 : p x = true
    ·rw [List.filter_cons_of_pos hy2]; simp; omega
    ·rw [List.filter_cons_of_neg hy2]; exact this

theorem getD_set (l : Array Bool) (i k : Nat) (hi : i < l.size) (d : Bool) : (l.setIfInBounds i true).getD k d = if k = i then true else l.getD k d := by
 by_cases hk : k = i
 ·subst hk; simp [hi]
 ·rw [if_neg hk]
  simp [Array.getD_eq_getD_getElem?,Array.getElem?_setIfInBounds,Ne.symm hk]

theorem wp_region_inv {P : Program} {id : Nat} {Q : Exit → Act → World → Prop} {a : Act} {w : World} {ops : Array Oper} (hm : P.follows .mixedOrders = true)
  (hlex : ∀ (i : Nat) (o : Oper),ops[i]? = some o → ∀ e ∈ o.after,Region.binds .any e = true → e.on < i)
  (I : (Nat → Bool) → Act → World → Prop) (h0 : I (fun _ => false) a { w with drawn := w.drawn + 1 })
  (hstep : ∀ (L : Nat → Bool) (a : Act) (w : World) (i : Nat) (o : Oper),I L a w → ops[i]? = some o → L i = false → (∀ e ∈ o.after,Region.binds .any e = true → L e.on = true) → wpOp P ops Q i (fun a' w' => I (fun k => if k = i then true else L k) a' w') a w)
  (hend : ∀ (L : Nat → Bool) (a : Act) (w : World),I L a w → (∀ i,i < ops.size → L i = true) → Q .normal a w) :
  (Code.region id ops true).wp P Q a w := by
 refine wp_region_any hm ?_
 have all_of_nil : ∀ listed : Array Bool,listed.size = ops.size → Region.ready .any ops listed = [] → ∀ i,i < ops.size → listed.getD i false = true := by
  intro listed hs hr i
  induction i using Nat.strongRecOn with
  | _ i ih =>
   intro hi
   by_cases hl : listed.getD i false = true
   ·exact hl
   ·exfalso
    have : i ∈ Region.ready .any ops listed := by
     rw [mem_ready]
     refine ⟨?_,ops[i],Array.getElem?_eq_getElem hi,fun e he hb => ?_⟩
     ·simp [Array.getD_eq_getD_getElem?,hs,hi] at hl ⊢; exact hl
     ·have hlt := hlex i _ (Array.getElem?_eq_getElem hi) e he hb
      exact ih e.on hlt (by omega)
    rw [hr] at this
    cases this
 have main : ∀ (fuel : Nat) (listed : Array Bool) (a : Act) (w : World),listed.size = ops.size → ((List.range ops.size).filter fun i => !listed.getD i false).length ≤ fuel → I (fun k => listed.getD k false) a w → wpAny P .any ops Q fuel listed a w := by
  intro fuel
  induction fuel with
  | zero =>
   intro listed a w hs hf hI
   have hnil : ((List.range ops.size).filter fun i => !listed.getD i false) = [] := List.eq_nil_of_length_eq_zero (by omega)
   have hall : ∀ i,i < ops.size → listed.getD i false = true := fun i hi => by
    have := List.filter_eq_nil_iff.1 hnil i (List.mem_range.2 hi)
    simpa using this
   refine ⟨?_,hend _ _ _ hI hall⟩
   cases hr : Region.ready .any ops listed with
   | nil => rfl
   | cons i r =>
    have hi : i ∈ Region.ready .any ops listed := by rw [hr]; exact List.mem_cons_self ..
    obtain ⟨h1,o,ho,_⟩ := mem_ready.1 hi
    have hlt : i < ops.size := (Array.getElem?_eq_some_iff.1 ho).1
    have := hall i hlt
    simp [Array.getD_eq_getD_getElem?,hs,hlt] at this h1
    rw [this] at h1; cases h1
  | succ fuel ih =>
   intro listed a w hs hf hI
   refine ⟨fun hr => hend _ _ _ hI (all_of_nil listed hs hr),fun i hi => ?_⟩
   obtain ⟨h1,o,ho,hd⟩ := mem_ready.1 hi
   have hlt : i < ops.size := (Array.getElem?_eq_some_iff.1 ho).1
   have h1' : listed.getD i false = false := by
    simp [Array.getD_eq_getD_getElem?,hs,hlt] at h1 ⊢; exact h1
   refine wpOp_mono ?_ (hstep _ a w i o hI ho h1' hd)
   intro a' w' hI'
   refine ih _ a' w' (by simpa using hs) ?_ ?_
   ·have := filter_less (p := fun k => !listed.getD k false) (q := fun k => !(listed.setIfInBounds i true).getD k false) (List.range ops.size) i (fun x hx => by
     rw [getD_set _ _ _ (by omega)] at hx
     by_cases hxi : x = i
     ·simp [hxi] at hx
     ·simpa [hxi] using hx) (List.mem_range.2 hlt) (by simp only [h1',Bool.not_false]) (by simp [getD_set _ _ _ (show i < listed.size by omega)])
    omega
   ·have e : (fun k => (listed.setIfInBounds i true).getD k false) = fun k => if k = i then true else listed.getD k false := by
     funext k; exact getD_set _ _ _ (by omega) _
    rw [e]; exact hI'
 refine main ops.size (Array.replicate ops.size false) a _ (by simp) ?_ ?_
 ·exact Nat.le_trans (List.length_filter_le _ _) (by simp)
 ·have e : (fun k => (Array.replicate ops.size false).getD k false) = fun _ => false := by
   funext k
   rw [Array.getD_eq_getD_getElem?,Array.getElem?_replicate]
   split <;> rfl
  rw [e]; exact h0

def lexOkB : Nat → List Oper → Bool
 | _,[] => true
 | k,o :: l => (o.after.all fun e => decide (e.on < k)) && lexOkB (k + 1) l

theorem lexOk_of : ∀ {l : List Oper} {k : Nat},lexOkB k l = true → ∀ (j : Nat) (o : Oper),l[j]? = some o → ∀ e ∈ o.after,e.on < k + j
 | [],k,_,j,o,h => by simp at h
 | o0 :: l,k,h,0,o,ho => by
  simp at ho
  subst ho
  rw [lexOkB,Bool.and_eq_true] at h
  intro e he
  have := Array.all_eq_true_iff_forall_mem.1 h.1 e he
  simpa using this
 | o0 :: l,k,h,j + 1,o,ho => by
  rw [lexOkB,Bool.and_eq_true] at h
  intro e he
  have := lexOk_of h.2 j o (by simpa using ho) e he
  omega

theorem wp_region_inv' {P : Program} {id : Nat} {Q : Exit → Act → World → Prop} {a : Act} {w : World} {l : List Oper} (hm : P.follows .mixedOrders = true) (hlex : lexOkB 0 l = true)
  (I : (Nat → Bool) → Act → World → Prop) (h0 : I (fun _ => false) a { w with drawn := w.drawn + 1 })
  (hstep : ∀ (L : Nat → Bool) (a : Act) (w : World) (i : Nat) (o : Oper),I L a w → l.toArray[i]? = some o → L i = false → (∀ e ∈ o.after,Region.binds .any e = true → L e.on = true) → wpOp P l.toArray Q i (fun a' w' => I (fun k => if k = i then true else L k) a' w') a w)
  (hend : ∀ (L : Nat → Bool) (a : Act) (w : World),I L a w → (∀ i,i < l.length → L i = true) → Q .normal a w) :
  (Code.region id l.toArray true).wp P Q a w :=
 wp_region_inv hm (fun i o ho e he _ => by have := lexOk_of hlex i o (by simpa using ho) e he; omega) I h0 hstep (fun L a w h hl => hend L a w h (fun i hi => hl i (by simpa using hi)))

theorem wpOp_list {P : Program} {ops : Array Oper} {Q : Exit → Act → World → Prop} {i : Nat} {K : Act → World → Prop} {a : Act} {w : World} {o : Oper} (ho : ops[i]? = some o)
  (h : ∀ Q' : Exit → Act → World → Prop,(∀ a w,K a w → Q' .normal a w) → wpList P ops Q' [o] a w) : wpOp P ops Q i K a w := by
 have h1 := h (fun e a w => match e with | .normal => K a w | e => Q e a w) (fun _ _ h => h)
 unfold wpOp
 simp only [ho]
 simp only [wpList] at h1
 split
 ·rename_i hw
  rw [if_pos hw] at h1
  refine h1.imp (fun h2 => ?_) (fun h2 => ⟨h2.1,h2.2⟩)
  unfold Oper.wp at *
  generalize (execOp a.eval o).run P w = r at *
  cases r with
  | ok n w' =>
   cases n <;> simp only [Oper.upon] at h2 ⊢ <;>
    first
     | exact h2
     | exact Calls.mono h2 (fun e w'' he => by cases e <;> exact he)
  | halt x w' => cases x <;> simp only [Oper.upon] at h2 ⊢ <;> exact h2
 ·rename_i hw
  rw [if_neg hw] at h1
  exact h1

theorem wpAny_rest {P : Program} {ops : Array Oper} {Q : Exit → Act → World → Prop} {fuel : Nat} {listed : Array Bool} {a : Act} {w : World} (n : Nat) (hf : (ops.toList.drop n).length = fuel) (hs : Region.noSelect ops = true) (hB : Region.lexFrom .any ops (ops.toList.drop n).length n listed = true)
  (h : wpQuiet P ops (fun w' => ∃ x : Ext w,w' = x.val) (fun a' => ∀ w',(∃ x : Ext w,w' = x.val) → Q .normal a' w') (ops.toList.drop n) a) : wpAny P .any ops Q fuel listed a w := by
 subst hf
 refine wpAny_of_quiet (C := fun w' => ∃ x : Ext w,w' = x.val) (Q := fun a' => ∀ w',(∃ x : Ext w,w' = x.val) → Q .normal a' w') (fun _ _ h h' => h' _ h) _ _ _ _ ⟨⟨w,Below.refl _ _⟩,rfl⟩ ?_
 exact wpAnyQ_lex hs _ n _ _ (fun j => by rw [List.getElem?_drop]; simp) hB h

structure Rl where
 tx : Option (Tn → Bool)
 fr : Int
 to : Int
 span : Bool
 most : Int
 doc : Bool
 kd : Option (List Tn → Bool)

inductive Sk where
 | val (v : Value)
 | ask (p : List Tn → Bool)
 | ints (zs : List Int)
 | rule (r : Rl)
 | all (rs : List Rl)

def TxIs (B : Nat) (w : World) (v : Value) : Option (Tn → Bool) → Prop
 | none => v = .nilFunc
 | some p => AskN B w v p

def KdIs (B : Nat) (w : World) (v : Value) : Option (List Tn → Bool) → Prop
 | none => v = .nilFunc
 | some p => AskL B w v p

def RlCells (B : Nat) (w : World) (r : Rl) (cs : List Value) : Prop :=
 ∃ ft fk,cs = [ft,.int .i64 r.fr,.int .i64 r.to,.bool r.span,.int .i64 r.most,.bool r.doc,fk] ∧ TxIs B w ft r.tx ∧ KdIs B w fk r.kd

def AllIs (B : Nat) (w : World) : List Rl → List Value → Prop
 | [],cs => cs = []
 | r :: rs,cs => ∃ ft fk rest,cs = ft :: .int .i64 r.fr :: .int .i64 r.to :: .bool r.span :: .int .i64 r.most :: .bool r.doc :: fk :: rest ∧ TxIs B w ft r.tx ∧ KdIs B w fk r.kd ∧ AllIs B w rs rest

def zrl : List Value := [.nilFunc,.int .i64 0,.int .i64 0,.bool false,.int .i64 0,.bool false,.nilFunc]

def Sk.holds (B : Nat) (w : World) : Sk → Value → Prop
 | .val u,v => v = u
 | .ask p,v => AskL B w v p
 | .ints zs,v => ∃ b,v = .slice (some ⟨b,0,none⟩) zs.length zs.length ∧ B ≤ b ∧ b < w.heap.size ∧ Ib w b zs
 | .rule r,v => ∃ cs,v = .agg cs.toArray ∧ RlCells B w r cs
 | .all rs,v => ∃ cs,v = .agg (zrl ++ cs).toArray ∧ AllIs B w rs cs

theorem TxIs.sin {B : Nat} {w V : World} {v : Value} {o : Option (Tn → Bool)} (h : TxIs B w v o) (hs : Sin B w V) : TxIs B V v o := by
 cases o with
 | none => exact h
 | some p => exact AskN.sin h hs

theorem KdIs.sin {B : Nat} {w V : World} {v : Value} {o : Option (List Tn → Bool)} (h : KdIs B w v o) (hs : Sin B w V) : KdIs B V v o := by
 cases o with
 | none => exact h
 | some p => exact AskL.sin h hs

theorem RlCells.sin {B : Nat} {w V : World} {r : Rl} {cs : List Value} (h : RlCells B w r cs) (hs : Sin B w V) : RlCells B V r cs := by
 obtain ⟨ft,fk,h1,h2,h3⟩ := h
 exact ⟨ft,fk,h1,h2.sin hs,h3.sin hs⟩

theorem AllIs.sin {B : Nat} {w V : World} (hs : Sin B w V) : ∀ {rs : List Rl} {cs : List Value},AllIs B w rs cs → AllIs B V rs cs
 | [],cs,h => h
 | r :: rs,cs,⟨ft,fk,rest,h1,h2,h3,h4⟩ => ⟨ft,fk,rest,h1,h2.sin hs,h3.sin hs,AllIs.sin hs h4⟩

theorem TxIs.one {B : Nat} {w : World} {v : Value} {o : Option (Tn → Bool)} (h : TxIs B w v o) : v.oneCell' = true := by
 cases o with
 | none => cases (show v = .nilFunc from h); rfl
 | some p => obtain ⟨k,caps,rfl,_⟩ := h; rfl

theorem KdIs.one {B : Nat} {w : World} {v : Value} {o : Option (List Tn → Bool)} (h : KdIs B w v o) : v.oneCell' = true := by
 cases o with
 | none => cases (show v = .nilFunc from h); rfl
 | some p => obtain ⟨k,caps,rfl,_⟩ := h; rfl

theorem AllIs.one {B : Nat} {w : World} : ∀ {rs : List Rl} {cs : List Value},AllIs B w rs cs → cs.all (·.oneCell') = true ∧ cs.length = 7 * rs.length
 | [],cs,h => by cases (show cs = [] from h); exact ⟨rfl,rfl⟩
 | r :: rs,cs,⟨ft,fk,rest,h1,h2,h3,h4⟩ => by
  have ih := AllIs.one h4
  subst h1
  constructor
  ·simp only [List.all_cons,h2.one,h3.one,ih.1,Bool.and_true,Bool.true_and]
   rfl
  ·simp only [List.length_cons,ih.2]; omega

theorem AllIs.get {B : Nat} {w : World} : ∀ {rs : List Rl} {cs : List Value},AllIs B w rs cs → ∀ (k : Nat) (r : Rl),rs[k]? = some r → ∃ ft fk,TxIs B w ft r.tx ∧ KdIs B w fk r.kd ∧ ∀ j u,[ft,.int .i64 r.fr,.int .i64 r.to,.bool r.span,.int .i64 r.most,.bool r.doc,fk][j]? = some u → cs[k * 7 + j]? = some u
 | [],cs,h,k,r,hk => by simp at hk
 | r0 :: rs,cs,⟨ft,fk,rest,h1,h2,h3,h4⟩,k,r,hk => by
  subst h1
  cases k with
  | zero =>
   simp at hk
   subst hk
   refine ⟨ft,fk,h2,h3,fun j u hj => ?_⟩
   rw [Nat.zero_mul,Nat.zero_add]
   have hjl : j < 7 := by
    have := (List.getElem?_eq_some_iff.1 hj).1
    simpa using this
   rcases (show j = 0 ∨ j = 1 ∨ j = 2 ∨ j = 3 ∨ j = 4 ∨ j = 5 ∨ j = 6 by omega) with rfl | rfl | rfl | rfl | rfl | rfl | rfl
   all_goals exact hj
  | succ k =>
   obtain ⟨ft',fk',g1,g2,g3⟩ := AllIs.get h4 k r (by simpa using hk)
   refine ⟨ft',fk',g1,g2,fun j u hj => ?_⟩
   rw [show (k + 1) * 7 + j = (k * 7 + j) + 1 + 1 + 1 + 1 + 1 + 1 + 1 by omega]
   simp only [List.getElem?_cons_succ]
   exact g3 j u hj

theorem Sk.holds_sin {B : Nat} {w V : World} {s : Sk} {v : Value} (h : s.holds B w v) (hs : Sin B w V) : s.holds B V v := by
 cases s with
 | val u => exact h
 | ask p => exact AskL.sin h hs
 | ints zs =>
  obtain ⟨b,h1,h2,h3,h4⟩ := h
  exact ⟨b,h1,h2,Nat.lt_of_lt_of_le h3 hs.size,h4.of_block (hs.block b h2 h3)⟩
 | rule r =>
  obtain ⟨cs,h1,h2⟩ := h
  exact ⟨cs,h1,h2.sin hs⟩
 | all rs =>
  obtain ⟨cs,h1,h2⟩ := h
  exact ⟨cs,h1,AllIs.sin hs h2⟩

def upb (L : Nat → Bool) (i : Nat) : Nat → Bool := fun k => if k = i then true else L k

def upv (us : Nat → Value) (d : Nat) (v : Value) : Nat → Value := fun k => if k = d then v else us k

def Ist (B : Nat) (base : World) (F : (Nat → Value) → Act) (dst : Nat → Nat) (tab : Nat → Sk) (X : (Nat → Bool) → (Nat → Value) → World → Prop) (L : Nat → Bool) (a : Act) (w : World) : Prop :=
 Below base.heap.size base w ∧ ∃ us,a = F us ∧ (∀ i,L i = true → (tab i).holds B w (us (dst i))) ∧ X L us w

theorem Ist.put {B : Nat} {base : World} {F : (Nat → Value) → Act} {dst : Nat → Nat} {tab : Nat → Sk} {X : (Nat → Bool) → (Nat → Value) → World → Prop} {L : Nat → Bool} {us : Nat → Value} {w w' : World} (hd : ∀ i j,dst i = dst j → i = j)
  (hS : ∀ i,L i = true → (tab i).holds B w (us (dst i))) (i : Nat) (v : Value) (a' : Act) (ha : a' = F (upv us (dst i) v)) (hs : Sin B w w') (hb : Below base.heap.size base w') (hv : (tab i).holds B w' v) (hX : X (upb L i) (upv us (dst i) v) w') :
  Ist B base F dst tab X (fun k => if k = i then true else L k) a' w' := by
 refine ⟨hb,_,ha,fun j hj => ?_,hX⟩
 by_cases hji : j = i
 ·subst hji
  simpa [upv] using hv
 ·have hne : dst j ≠ dst i := fun e => hji (hd _ _ e)
  have hj' : L j = true := by simpa [hji] using hj
  have := Sk.holds_sin (s := tab j) (hS j hj') hs
  simpa [upv,hne] using this

set_option maxRecDepth 10000 in
set_option maxHeartbeats 1000000 in
theorem pwithin_any (V : World) (g : Nat) (ft fk : Value) (fr to most x : Int) (span doc : Bool) (t : TypeId)
  (hg : V.heap[g]? = some (.cells #[ft,.int .i64 fr,.int .i64 to,.bool span,.int .i64 most,.bool doc,fk] t (0,0))) :
  Calls Tryz.prog 93 #[.int .i64 x,.pointer (some ⟨g,0,none⟩)] V fun e V' => e = .returned (.bool (decide (fr ≤ x) && decide (x ≤ to))) ∧ V = V' := by
 have c1 := blk_cell hg 1 _ rfl
 have c2 := blk_cell hg 2 _ rfl
 clear hg
 by_cases h1 : fr ≤ x
 ·by_cases h2 : x ≤ to
  ·rw [decide_eq_true h1,decide_eq_true h2]
   go_enter Tryz.func93,Tryz.ntmps93
   go_wp2
   go_ret
   exact ⟨rfl,rfl⟩
  ·rw [decide_eq_true h1,decide_eq_false h2]
   go_enter Tryz.func93,Tryz.ntmps93
   go_wp2
   go_ret
   exact ⟨rfl,rfl⟩
 ·rw [decide_eq_false h1]
  go_enter Tryz.func93,Tryz.ntmps93
  go_wp2
  go_ret
  exact ⟨rfl,rfl⟩

def pdocOk (s : List Int) : Bool := (s.getLast? == some 10) && decide ((s.length : Int) ≤ 10000)

theorem hsuf10 (s : List Int) (hs : byts s) : Lib.hasSuffix (strOfNums s).data.toList [10] = (s.getLast? == some 10) := by
 rw [strOfNums_data]
 unfold Lib.hasSuffix
 rcases List.eq_nil_or_concat s with rfl | ⟨r,c,rfl⟩
 ·rfl
 ·have hc := hs c (by simp)
  rw [Bool.eq_iff_iff]
  simp only [List.concat_eq_append,List.map_append,List.map_cons,List.map_nil,List.getLast?_append,List.getLast?_singleton]
  constructor
  ·intro h
   have h2 : [10] <:+ (r.map fun n => UInt8.ofNat n.toNat) ++ [UInt8.ofNat c.toNat] := by simpa using h
   obtain ⟨q,hq⟩ := h2
   have h3 := congrArg List.getLast? hq
   simp at h3
   have : c = 10 := u8_inj hc (by omega) (by rw [← h3]; rfl)
   subst this
   simp
  ·intro h
   have : c = 10 := by simpa using h
   subst this
   have h2 : [10] <:+ (r.map fun n => UInt8.ofNat n.toNat) ++ [UInt8.ofNat (10 : Int).toNat] := ⟨_,rfl⟩
   simp

set_option maxRecDepth 10000 in
set_option maxHeartbeats 1000000 in
theorem pisdoc_any (s : List Int) (V : World) (hs : Hid (byts s)) (hl : (s.length : Int) ≤ 9223372036854775807) :
  Calls Tryz.prog 94 #[.string (strOfNums s)] V fun e V' => e = .returned (.bool (pdocOk s)) ∧ V = V' := by
 have q := Sh.strings_HasSuffix (strOfNums s) { data := #[10] } V (by rw [strOfNums_size]; omega)
 rw [show ({ data := #[10] } : ByteArray).data.toList = [10] from rfl,hsuf10 s hs.out] at q
 unfold pdocOk
 have hsz : ((strOfNums s).size : Int) = (s.length : Int) := by rw [strOfNums_size]
 rw [← hsz] at hl ⊢
 generalize (s.getLast? == some 10) = R at q ⊢
 generalize strOfNums s = S at q hl ⊢
 have Q : Hid _ := q
 clear q hsz
 cases R with
 | false =>
  go_enter Tryz.func94,Tryz.ntmps94
  go_wp2_with fail
  refine Calls.mono Q.out ?_
  rintro e w1 ⟨rfl,rfl⟩
  go_wp2
  go_ret
  exact ⟨rfl,rfl⟩
 | true =>
  go_enter Tryz.func94,Tryz.ntmps94
  go_wp2_with fail
  refine Calls.mono Q.out ?_
  rintro e w1 ⟨rfl,rfl⟩
  go_wp2
  go_ret
  exact ⟨by first | rfl | simp,rfl⟩

def ptxt (o : Option (Tn → Bool)) (t : Tn) : Bool := match o with | none => t.text == [] | some p => p t

def pkds (o : Option (List Tn → Bool)) (l : List Tn) : Bool := match o with | none => l.length == 0 | some p => p l

set_option maxRecDepth 10000 in
set_option maxHeartbeats 1000000 in
theorem ptakest_any {V : World} {t : Tn} {o : Option (Tn → Bool)} (B : Nat) (ft fk : Value) (fr to most : Int) (span doc : Bool) (htx : TxIs B V ft o) (hfk : fk.oneCell' = true) (hT : TTab V) (h : TnOk V t) (hsh : TnShort t) :
  Calls Tryz.prog 95 #[.agg #[ft,.int .i64 fr,.int .i64 to,.bool span,.int .i64 most,.bool doc,fk],t.val] V fun e V' => e = .returned (.bool (ptxt o t)) ∧ Below V.heap.size V V' := by
 cases o with
 | none =>
  cases (show ft = .nilFunc from htx)
  have hby : byts t.text := by cases h; assumption
  show Calls _ _ _ _ fun e V' => e = .returned (.bool (t.text == [])) ∧ Below V.heap.size V V'
  have e0 := weq2 t.text [] hby (by unfold byts; decide) _ (str_lit [] [] rfl)
  obtain ⟨kind,text,n,m,a,pos,dc,ad,cap,kids⟩ := t
  change Calls Tryz.prog 95 #[_,.agg #[.int .i64 kind,.string (strOfNums text),.int .i64 n,.int .i64 m,.int .i64 a,.int .i64 pos,.string (strOfNums dc),.slice ad kids.length cap]] V fun e V' => e = .returned (.bool (text == [])) ∧ Below V.heap.size V V'
  change ((strOfNums text).toList == []) = (text == []) at e0
  generalize (text == []) = R at e0 ⊢
  generalize strOfNums text = T1 at e0 ⊢
  generalize strOfNums dc = T2
  have HBA : Hid (Below V.heap.size V ((V.alloc (.cells #[.nilFunc,.int .i64 fr,.int .i64 to,.bool span,.int .i64 most,.bool doc,fk] 95)).alloc (.cells #[.int .i64 kind,.string T1,.int .i64 n,.int .i64 m,.int .i64 a,.int .i64 pos,.string T2,.slice ad kids.length cap] 28))) := ((Below.refl _ _).alloc (Nat.le_refl _) _).alloc (by simp only [World.size_alloc]; omega) _
  clear h hsh hby htx
  have hrun : ∀ w,(binOp .eql 29 .nilFunc .nilFunc).run Tryz.prog w = .ok (.bool true) w := fun w => by kernel_rfl
  go_enter Tryz.func95,Tryz.ntmps95
  go_wp2
  go_ret
  exact ⟨rfl,HBA.out⟩
 | some p =>
  obtain ⟨k,caps,rfl,hin,hask⟩ := htx
  show Calls _ _ _ _ fun e V' => e = .returned (.bool (p t)) ∧ Below V.heap.size V V'
  have q := fun W (hW : Below V.heap.size V W) => hask W t (Sin.of hW (Nat.le_refl _)) (hT.below hW (Nat.le_refl _)) (h.under hW) hsh
  generalize p t = R at q ⊢
  obtain ⟨kind,text,n,m,a,pos,dc,ad,cap,kids⟩ := t
  change Calls Tryz.prog 95 #[.agg #[.func (.func k) #[] caps,.int .i64 fr,.int .i64 to,.bool span,.int .i64 most,.bool doc,fk],.agg #[.int .i64 kind,.string (strOfNums text),.int .i64 n,.int .i64 m,.int .i64 a,.int .i64 pos,.string (strOfNums dc),.slice ad kids.length cap]] V fun e V' => e = .returned (.bool R) ∧ Below V.heap.size V V'
  change ∀ W,Below V.heap.size V W → Calls Tryz.prog k ((#[Value.agg #[.int .i64 kind,.string (strOfNums text),.int .i64 n,.int .i64 m,.int .i64 a,.int .i64 pos,.string (strOfNums dc),.slice ad kids.length cap]] : Array Value) ++ caps) W (fun e V' => e = .returned (.bool R) ∧ Below W.heap.size W V') at q
  generalize strOfNums text = T1 at q ⊢
  generalize strOfNums dc = T2 at q ⊢
  have HBA : Hid (Below V.heap.size V ((V.alloc (.cells #[.func (.func k) #[] caps,.int .i64 fr,.int .i64 to,.bool span,.int .i64 most,.bool doc,fk] 95)).alloc (.cells #[.int .i64 kind,.string T1,.int .i64 n,.int .i64 m,.int .i64 a,.int .i64 pos,.string T2,.slice ad kids.length cap] 28))) := ((Below.refl _ _).alloc (Nat.le_refl _) _).alloc (by simp only [World.size_alloc]; omega) _
  have Q : Hid _ := q _ HBA.out
  clear h hsh hask q
  unfold Goin at hin
  have hrun : ∀ w,(binOp .eql 29 (.func (.func k) #[] caps) .nilFunc).run Tryz.prog w = .ok (.bool false) w := fun w => by kernel_rfl
  go_enter Tryz.func95,Tryz.ntmps95
  go_wp2_with fail
  refine Calls.mono Q.out ?_
  rintro e w1 ⟨rfl,hb⟩
  have HB : Hid (Below V.heap.size V w1) := HBA.out.trans (hb.mono HBA.out.size)
  clear hb
  go_wp2
  go_ret
  exact ⟨rfl,HB.out⟩

set_option maxRecDepth 10000 in
set_option maxHeartbeats 1000000 in
theorem ptakesk_any {V : World} {ad : Option Addr} {cap : Nat} {kids : List Tn} {o : Option (List Tn → Bool)} (B : Nat) (ft fk : Value) (fr to most : Int) (span doc : Bool) (hkd : KdIs B V fk o) (hft : ft.oneCell' = true) (hT : TTab V) (hk : Kl V ad cap kids) (hs : ∀ (i : Nat) (t : Tn),kids[i]? = some t → TnShort t) :
  Calls Tryz.prog 96 #[.agg #[ft,.int .i64 fr,.int .i64 to,.bool span,.int .i64 most,.bool doc,fk],.slice ad kids.length cap] V fun e V' => e = .returned (.bool (pkds o kids)) ∧ Below V.heap.size V V' := by
 have hl := hk.hlen
 cases o with
 | none =>
  cases (show fk = .nilFunc from hkd)
  show Calls _ _ _ _ fun e V' => e = .returned (.bool (kids.length == 0)) ∧ Below V.heap.size V V'
  have HBA : Hid (Below V.heap.size V (V.alloc (.cells #[ft,.int .i64 fr,.int .i64 to,.bool span,.int .i64 most,.bool doc,.nilFunc] 95))) := (Below.refl _ _).alloc (Nat.le_refl _) _
  have e0 : ((kids.length : Int) == 0) = (kids.length == 0) := by rw [Bool.eq_iff_iff]; simp
  clear hk hs hkd
  generalize (kids.length == 0) = R at e0 ⊢
  generalize kids.length = N at *
  have hrun : ∀ w,(binOp .eql 93 .nilFunc .nilFunc).run Tryz.prog w = .ok (.bool true) w := fun w => by kernel_rfl
  go_enter Tryz.func96,Tryz.ntmps96
  go_wp2
  go_ret
  exact ⟨rfl,HBA.out⟩
 | some p =>
  obtain ⟨k,caps,rfl,hin,hask⟩ := hkd
  show Calls _ _ _ _ fun e V' => e = .returned (.bool (p kids)) ∧ Below V.heap.size V V'
  have q := fun W (hW : Below V.heap.size V W) => hask W ad cap kids (Sin.of hW (Nat.le_refl _)) (hT.below hW (Nat.le_refl _)) (hk.under hW) hs
  generalize p kids = R at q ⊢
  have HBA : Hid (Below V.heap.size V (V.alloc (.cells #[ft,.int .i64 fr,.int .i64 to,.bool span,.int .i64 most,.bool doc,.func (.func k) #[] caps] 95))) := (Below.refl _ _).alloc (Nat.le_refl _) _
  have Q : Hid _ := q _ HBA.out
  clear hk hs hask q
  generalize kids.length = N at *
  unfold Goin at hin
  have hrun : ∀ w,(binOp .eql 93 (.func (.func k) #[] caps) .nilFunc).run Tryz.prog w = .ok (.bool false) w := fun w => by kernel_rfl
  go_enter Tryz.func96,Tryz.ntmps96
  go_wp2_with fail
  refine Calls.mono Q.out ?_
  rintro e w1 ⟨rfl,hb⟩
  have HB : Hid (Below V.heap.size V w1) := HBA.out.trans (hb.mono HBA.out.size)
  clear hb
  go_wp2
  go_ret
  exact ⟨rfl,HB.out⟩

theorem tk_cells {V w1 : World} {c1 c2 : Array Value} {t1 t2 : TypeId} (hb : Below ((V.alloc (.cells c1 t1)).alloc (.cells c2 t2)).heap.size ((V.alloc (.cells c1 t1)).alloc (.cells c2 t2)) w1) :
  (∀ i v,c1[i]? = some v → w1.cell? ⟨V.heap.size,i,none⟩ = some v) ∧ (∀ i v,c2[i]? = some v → w1.cell? ⟨V.heap.size + 1,i,none⟩ = some v) := by
 refine ⟨fun i v h => ?_,fun i v h => ?_⟩
 ·exact blk_cell ((hb.block _ (by simp only [World.size_alloc]; omega)).trans (alloc_old (alloc_at V (.cells c1 t1) rfl))) i v h
 ·exact blk_cell ((hb.block _ (by simp only [World.size_alloc]; omega)).trans (alloc_at _ _ (by simp))) i v h

set_option maxRecDepth 20000 in
set_option maxHeartbeats 8000000 in
theorem ptakes_raw (V : World) (ft fk : Value) (fr to most kind n m a pos : Int) (span rdoc : Bool) (T1 T2 : ByteArray) (ad : Option Addr) (N cap : Nat) (hft : ft.oneCell' = true) (hfk : fk.oneCell' = true) (W1 W2 D0 D1 X K : Bool)
  (hd0 : (T2.toList == []) = D0)
  (q1 : ∀ U,Below ((V.alloc (.cells #[ft,.int .i64 fr,.int .i64 to,.bool span,.int .i64 most,.bool rdoc,fk] 95)).alloc (.cells #[.int .i64 kind,.string T1,.int .i64 n,.int .i64 m,.int .i64 a,.int .i64 pos,.string T2,.slice ad N cap] 28)).heap.size ((V.alloc (.cells #[ft,.int .i64 fr,.int .i64 to,.bool span,.int .i64 most,.bool rdoc,fk] 95)).alloc (.cells #[.int .i64 kind,.string T1,.int .i64 n,.int .i64 m,.int .i64 a,.int .i64 pos,.string T2,.slice ad N cap] 28)) U → Calls Tryz.prog 93 #[.int .i64 n,.pointer (some ⟨V.heap.size,0,none⟩)] U fun e U' => e = .returned (.bool W1) ∧ U = U')
  (q2 : ∀ U,Below ((V.alloc (.cells #[ft,.int .i64 fr,.int .i64 to,.bool span,.int .i64 most,.bool rdoc,fk] 95)).alloc (.cells #[.int .i64 kind,.string T1,.int .i64 n,.int .i64 m,.int .i64 a,.int .i64 pos,.string T2,.slice ad N cap] 28)).heap.size ((V.alloc (.cells #[ft,.int .i64 fr,.int .i64 to,.bool span,.int .i64 most,.bool rdoc,fk] 95)).alloc (.cells #[.int .i64 kind,.string T1,.int .i64 n,.int .i64 m,.int .i64 a,.int .i64 pos,.string T2,.slice ad N cap] 28)) U → Calls Tryz.prog 93 #[.int .i64 m,.pointer (some ⟨V.heap.size,0,none⟩)] U fun e U' => e = .returned (.bool W2) ∧ U = U')
  (q3 : ∀ U,Calls Tryz.prog 94 #[.string T2] U fun e U' => e = .returned (.bool D1) ∧ U = U')
  (q4 : ∀ U,Below V.heap.size V U → Calls Tryz.prog 95 #[.agg #[ft,.int .i64 fr,.int .i64 to,.bool span,.int .i64 most,.bool rdoc,fk],.agg #[.int .i64 kind,.string T1,.int .i64 n,.int .i64 m,.int .i64 a,.int .i64 pos,.string T2,.slice ad N cap]] U fun e U' => e = .returned (.bool X) ∧ Below U.heap.size U U')
  (q5 : ∀ U,Below V.heap.size V U → Calls Tryz.prog 96 #[.agg #[ft,.int .i64 fr,.int .i64 to,.bool span,.int .i64 most,.bool rdoc,fk],.slice ad N cap] U fun e U' => e = .returned (.bool K) ∧ Below U.heap.size U U') :
  Calls Tryz.prog 48 #[.agg #[ft,.int .i64 fr,.int .i64 to,.bool span,.int .i64 most,.bool rdoc,fk],.agg #[.int .i64 kind,.string T1,.int .i64 n,.int .i64 m,.int .i64 a,.int .i64 pos,.string T2,.slice ad N cap]] V fun e V' => e = .returned (.bool (decide (0 ≤ pos) && (decide (0 ≤ a) && (decide (a ≤ most) && (W1 && (((m == 0) || (span && W2)) && ((D0 || (rdoc && D1)) && (X && K)))))))) ∧ Below V.heap.size V V' := by
 have hmf : ∀ (fn : Fn) (first cap : Array Value) (w : World),(Instr.makeFunc fn first cap).run Tryz.prog w = .ok (.func fn first cap) w := fun _ _ _ _ => rfl
 have HBA : Hid (Below V.heap.size V ((V.alloc (.cells #[ft,.int .i64 fr,.int .i64 to,.bool span,.int .i64 most,.bool rdoc,fk] 95)).alloc (.cells #[.int .i64 kind,.string T1,.int .i64 n,.int .i64 m,.int .i64 a,.int .i64 pos,.string T2,.slice ad N cap] 28))) := ((Below.refl _ _).alloc (Nat.le_refl _) _).alloc (by simp only [World.size_alloc]; omega) _
 have Q1 : Hid _ := q1 _ (Below.refl _ _)
 have Q2 : Hid _ := q2 _ (Below.refl _ _)
 have Q3 : Hid _ := q3
 have Q4 : Hid _ := q4
 have Q5 : Hid _ := q5
 clear q1 q2 q3 q4 q5
 by_cases h1 : 0 ≤ pos
 case neg =>
  rw [decide_eq_false h1]
  go_enter Tryz.func48,Tryz.ntmps48
  go_wp2
  go_ret
  exact ⟨rfl,HBA.out⟩
 by_cases h2 : 0 ≤ a
 case neg =>
  rw [decide_eq_true h1,decide_eq_false h2]
  go_enter Tryz.func48,Tryz.ntmps48
  go_wp2
  go_ret
  exact ⟨rfl,HBA.out⟩
 by_cases h3 : a ≤ most
 case neg =>
  rw [decide_eq_true h1,decide_eq_true h2,decide_eq_false h3]
  go_enter Tryz.func48,Tryz.ntmps48
  go_wp2
  go_ret
  exact ⟨rfl,HBA.out⟩
 rw [decide_eq_true h1,decide_eq_true h2,decide_eq_true h3,Bool.true_and,Bool.true_and,Bool.true_and]
 cases W1
 case false =>
  go_enter Tryz.func48,Tryz.ntmps48
  go_wp2_with fail
  refine Calls.mono Q1.out ?_
  rintro e w1 ⟨rfl,rfl⟩
  go_wp2
  go_ret
  exact ⟨rfl,HBA.out⟩
 generalize e5 : (m == 0) = M0
 cases M0 with
 | true =>
  cases D0 with
  | true =>
   cases X with
   | false =>
    go_enter Tryz.func48,Tryz.ntmps48
    go_wp2_with fail
    refine Calls.mono Q1.out ?_
    rintro e w1 ⟨rfl,rfl⟩
    go_wp2_with fail
    refine Calls.mono (Q4.out _ HBA.out) ?_
    rintro e w1 ⟨rfl,hb1⟩
    have HB1 : Hid (Below V.heap.size V w1) := HBA.out.trans (hb1.mono HBA.out.size)
    clear hb1
    go_wp2
    go_ret
    exact ⟨rfl,HB1.out⟩
   | true =>
    go_enter Tryz.func48,Tryz.ntmps48
    go_wp2_with fail
    refine Calls.mono Q1.out ?_
    rintro e w1 ⟨rfl,rfl⟩
    go_wp2_with fail
    refine Calls.mono (Q4.out _ HBA.out) ?_
    rintro e w1 ⟨rfl,hb1⟩
    have HB1 : Hid (Below V.heap.size V w1) := HBA.out.trans (hb1.mono HBA.out.size)
    obtain ⟨g1,g2⟩ := tk_cells hb1
    have r0 := g1 0 _ rfl
    have r1 := g1 1 _ rfl
    have r2 := g1 2 _ rfl
    have r3 := g1 3 _ rfl
    have r4 := g1 4 _ rfl
    have r5 := g1 5 _ rfl
    have r6 := g1 6 _ rfl
    have n0 := g2 0 _ rfl
    have n1 := g2 1 _ rfl
    have n2 := g2 2 _ rfl
    have n3 := g2 3 _ rfl
    have n4 := g2 4 _ rfl
    have n5 := g2 5 _ rfl
    have n6 := g2 6 _ rfl
    have n7 := g2 7 _ rfl
    clear hb1 g1 g2
    go_wp2_with fail
    refine Calls.mono (Q5.out _ HB1.out) ?_
    rintro e w2 ⟨rfl,hb2⟩
    have HB2 : Hid (Below V.heap.size V w2) := HB1.out.trans (hb2.mono HB1.out.size)
    clear hb2
    go_wp2
    go_ret
    exact ⟨rfl,HB2.out⟩
  | false =>
   cases rdoc with
   | false =>
    go_enter Tryz.func48,Tryz.ntmps48
    go_wp2_with fail
    refine Calls.mono Q1.out ?_
    rintro e w1 ⟨rfl,rfl⟩
    go_wp2
    go_ret
    exact ⟨rfl,HBA.out⟩
   | true =>
    cases D1 with
    | false =>
     go_enter Tryz.func48,Tryz.ntmps48
     go_wp2_with fail
     refine Calls.mono Q1.out ?_
     rintro e w1 ⟨rfl,rfl⟩
     go_wp2_with fail
     refine Calls.mono (Q3.out _) ?_
     rintro e w1 ⟨rfl,rfl⟩
     go_wp2
     go_ret
     exact ⟨rfl,HBA.out⟩
    | true =>
     cases X with
     | false =>
      go_enter Tryz.func48,Tryz.ntmps48
      go_wp2_with fail
      refine Calls.mono Q1.out ?_
      rintro e w1 ⟨rfl,rfl⟩
      go_wp2_with fail
      refine Calls.mono (Q3.out _) ?_
      rintro e w1 ⟨rfl,rfl⟩
      go_wp2_with fail
      refine Calls.mono (Q4.out _ HBA.out) ?_
      rintro e w1 ⟨rfl,hb1⟩
      have HB1 : Hid (Below V.heap.size V w1) := HBA.out.trans (hb1.mono HBA.out.size)
      clear hb1
      go_wp2
      go_ret
      exact ⟨rfl,HB1.out⟩
     | true =>
      go_enter Tryz.func48,Tryz.ntmps48
      go_wp2_with fail
      refine Calls.mono Q1.out ?_
      rintro e w1 ⟨rfl,rfl⟩
      go_wp2_with fail
      refine Calls.mono (Q3.out _) ?_
      rintro e w1 ⟨rfl,rfl⟩
      go_wp2_with fail
      refine Calls.mono (Q4.out _ HBA.out) ?_
      rintro e w1 ⟨rfl,hb1⟩
      have HB1 : Hid (Below V.heap.size V w1) := HBA.out.trans (hb1.mono HBA.out.size)
      obtain ⟨g1,g2⟩ := tk_cells hb1
      have r0 := g1 0 _ rfl
      have r1 := g1 1 _ rfl
      have r2 := g1 2 _ rfl
      have r3 := g1 3 _ rfl
      have r4 := g1 4 _ rfl
      have r5 := g1 5 _ rfl
      have r6 := g1 6 _ rfl
      have n0 := g2 0 _ rfl
      have n1 := g2 1 _ rfl
      have n2 := g2 2 _ rfl
      have n3 := g2 3 _ rfl
      have n4 := g2 4 _ rfl
      have n5 := g2 5 _ rfl
      have n6 := g2 6 _ rfl
      have n7 := g2 7 _ rfl
      clear hb1 g1 g2
      go_wp2_with fail
      refine Calls.mono (Q5.out _ HB1.out) ?_
      rintro e w2 ⟨rfl,hb2⟩
      have HB2 : Hid (Below V.heap.size V w2) := HB1.out.trans (hb2.mono HB1.out.size)
      clear hb2
      go_wp2
      go_ret
      exact ⟨rfl,HB2.out⟩
 | false =>
  cases span with
  | false =>
   go_enter Tryz.func48,Tryz.ntmps48
   go_wp2_with fail
   refine Calls.mono Q1.out ?_
   rintro e w1 ⟨rfl,rfl⟩
   go_wp2
   go_ret
   exact ⟨rfl,HBA.out⟩
  | true =>
   cases W2 with
   | false =>
    go_enter Tryz.func48,Tryz.ntmps48
    go_wp2_with fail
    refine Calls.mono Q1.out ?_
    rintro e w1 ⟨rfl,rfl⟩
    go_wp2_with fail
    refine Calls.mono Q2.out ?_
    rintro e w1 ⟨rfl,rfl⟩
    go_wp2
    go_ret
    exact ⟨rfl,HBA.out⟩
   | true =>
    cases D0 with
    | true =>
     cases X with
     | false =>
      go_enter Tryz.func48,Tryz.ntmps48
      go_wp2_with fail
      refine Calls.mono Q1.out ?_
      rintro e w1 ⟨rfl,rfl⟩
      go_wp2_with fail
      refine Calls.mono Q2.out ?_
      rintro e w1 ⟨rfl,rfl⟩
      go_wp2_with fail
      refine Calls.mono (Q4.out _ HBA.out) ?_
      rintro e w1 ⟨rfl,hb1⟩
      have HB1 : Hid (Below V.heap.size V w1) := HBA.out.trans (hb1.mono HBA.out.size)
      clear hb1
      go_wp2
      go_ret
      exact ⟨rfl,HB1.out⟩
     | true =>
      go_enter Tryz.func48,Tryz.ntmps48
      go_wp2_with fail
      refine Calls.mono Q1.out ?_
      rintro e w1 ⟨rfl,rfl⟩
      go_wp2_with fail
      refine Calls.mono Q2.out ?_
      rintro e w1 ⟨rfl,rfl⟩
      go_wp2_with fail
      refine Calls.mono (Q4.out _ HBA.out) ?_
      rintro e w1 ⟨rfl,hb1⟩
      have HB1 : Hid (Below V.heap.size V w1) := HBA.out.trans (hb1.mono HBA.out.size)
      obtain ⟨g1,g2⟩ := tk_cells hb1
      have r0 := g1 0 _ rfl
      have r1 := g1 1 _ rfl
      have r2 := g1 2 _ rfl
      have r3 := g1 3 _ rfl
      have r4 := g1 4 _ rfl
      have r5 := g1 5 _ rfl
      have r6 := g1 6 _ rfl
      have n0 := g2 0 _ rfl
      have n1 := g2 1 _ rfl
      have n2 := g2 2 _ rfl
      have n3 := g2 3 _ rfl
      have n4 := g2 4 _ rfl
      have n5 := g2 5 _ rfl
      have n6 := g2 6 _ rfl
      have n7 := g2 7 _ rfl
      clear hb1 g1 g2
      go_wp2_with fail
      refine Calls.mono (Q5.out _ HB1.out) ?_
      rintro e w2 ⟨rfl,hb2⟩
      have HB2 : Hid (Below V.heap.size V w2) := HB1.out.trans (hb2.mono HB1.out.size)
      clear hb2
      go_wp2
      go_ret
      exact ⟨rfl,HB2.out⟩
    | false =>
     cases rdoc with
     | false =>
      go_enter Tryz.func48,Tryz.ntmps48
      go_wp2_with fail
      refine Calls.mono Q1.out ?_
      rintro e w1 ⟨rfl,rfl⟩
      go_wp2_with fail
      refine Calls.mono Q2.out ?_
      rintro e w1 ⟨rfl,rfl⟩
      go_wp2
      go_ret
      exact ⟨rfl,HBA.out⟩
     | true =>
      cases D1 with
      | false =>
       go_enter Tryz.func48,Tryz.ntmps48
       go_wp2_with fail
       refine Calls.mono Q1.out ?_
       rintro e w1 ⟨rfl,rfl⟩
       go_wp2_with fail
       refine Calls.mono Q2.out ?_
       rintro e w1 ⟨rfl,rfl⟩
       go_wp2_with fail
       refine Calls.mono (Q3.out _) ?_
       rintro e w1 ⟨rfl,rfl⟩
       go_wp2
       go_ret
       exact ⟨rfl,HBA.out⟩
      | true =>
       cases X with
       | false =>
        go_enter Tryz.func48,Tryz.ntmps48
        go_wp2_with fail
        refine Calls.mono Q1.out ?_
        rintro e w1 ⟨rfl,rfl⟩
        go_wp2_with fail
        refine Calls.mono Q2.out ?_
        rintro e w1 ⟨rfl,rfl⟩
        go_wp2_with fail
        refine Calls.mono (Q3.out _) ?_
        rintro e w1 ⟨rfl,rfl⟩
        go_wp2_with fail
        refine Calls.mono (Q4.out _ HBA.out) ?_
        rintro e w1 ⟨rfl,hb1⟩
        have HB1 : Hid (Below V.heap.size V w1) := HBA.out.trans (hb1.mono HBA.out.size)
        clear hb1
        go_wp2
        go_ret
        exact ⟨rfl,HB1.out⟩
       | true =>
        go_enter Tryz.func48,Tryz.ntmps48
        go_wp2_with fail
        refine Calls.mono Q1.out ?_
        rintro e w1 ⟨rfl,rfl⟩
        go_wp2_with fail
        refine Calls.mono Q2.out ?_
        rintro e w1 ⟨rfl,rfl⟩
        go_wp2_with fail
        refine Calls.mono (Q3.out _) ?_
        rintro e w1 ⟨rfl,rfl⟩
        go_wp2_with fail
        refine Calls.mono (Q4.out _ HBA.out) ?_
        rintro e w1 ⟨rfl,hb1⟩
        have HB1 : Hid (Below V.heap.size V w1) := HBA.out.trans (hb1.mono HBA.out.size)
        obtain ⟨g1,g2⟩ := tk_cells hb1
        have r0 := g1 0 _ rfl
        have r1 := g1 1 _ rfl
        have r2 := g1 2 _ rfl
        have r3 := g1 3 _ rfl
        have r4 := g1 4 _ rfl
        have r5 := g1 5 _ rfl
        have r6 := g1 6 _ rfl
        have n0 := g2 0 _ rfl
        have n1 := g2 1 _ rfl
        have n2 := g2 2 _ rfl
        have n3 := g2 3 _ rfl
        have n4 := g2 4 _ rfl
        have n5 := g2 5 _ rfl
        have n6 := g2 6 _ rfl
        have n7 := g2 7 _ rfl
        clear hb1 g1 g2
        go_wp2_with fail
        refine Calls.mono (Q5.out _ HB1.out) ?_
        rintro e w2 ⟨rfl,hb2⟩
        have HB2 : Hid (Below V.heap.size V w2) := HB1.out.trans (hb2.mono HB1.out.size)
        clear hb2
        go_wp2
        go_ret
        exact ⟨rfl,HB2.out⟩

end Go.Proofs.YtlekfcehmlepkaaGreatDoor
