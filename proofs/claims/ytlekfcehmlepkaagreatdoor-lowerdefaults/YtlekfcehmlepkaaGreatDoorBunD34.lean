/- Put together by a program out of these texts of mine: XTab, XJoin, NPf, XFld. -/
import Derived.Lib.LaidTab
import Derived.Deep.Cut
import Derived.Deep.RegionWith
import Derived.Lib.AppendStr
import Derived.Test.YtlekfcehmlepkaaGreatDoorBunD5
import Derived.Test.YtlekfcehmlepkaaGreatDoorBunD8
import Derived.Test.YtlekfcehmlepkaaGreatDoorBunD9
import Derived.Test.YtlekfcehmlepkaaGreatDoorBunD10
import Derived.Test.YtlekfcehmlepkaaGreatDoorBunD19

namespace Go.Proofs.YtlekfcehmlepkaaGreatDoor
open Go.RowKit
set_option linter.unusedVariables false
set_option linter.unusedSimpArgs false

def pwVal : Array Value := (nwords.map fun z => Value.string (strOfNums z)).toArray

def STab (w : World) : Prop := ∃ t fr,w.heap[0]? = some (.cells pwVal t fr)

def LoTab (w : World) : Prop := TTab w ∧ STab w

theorem LoTab.below {w w' : World} (h : LoTab w) {B : Nat} (hb : Below B w w') (hB : w.heap.size ≤ B) : LoTab w' :=
 ⟨h.1.below hb hB,by
  obtain ⟨t,fr,h2⟩ := h.2
  exact ⟨t,fr,(hb.block _ (Nat.lt_of_lt_of_le (Array.getElem?_eq_some_iff.1 h2).1 hB)).trans h2⟩⟩

theorem cells_of_strs {H : Type} {enc : TypeId × Value → H} {P : Program} {w : World} {base : Nat} {sp : Nat → Bool} {held : Bool} {fuel : Nat} {t e : TypeId} {n : Nat} {cs : List Value} {zs : List (List UInt8)} {p : List MemPlace}
  (ht : P.underlying t = some (.array n e)) (he : P.underlying e = some .string) (hce : P.cellsOf e = 1) (hct : P.cellsOf t = n)
  (h : DataW.trod enc P w base sp held fuel t cs = some (.agg (zs.map fun z => .lit (.string z)),p)) : cs = zs.map fun z => Value.string ⟨z.toArray⟩ := by
 cases fuel with
 | zero => simp [DataW.trod] at h
 | succ fuel =>
  simp only [DataW.trod,ht,hce,hct,Nat.mul_one] at h
  split at h
  ·rename_i hl
   obtain ⟨xs,hm,hx⟩ := Option.map_eq_some_iff.1 h
   have hxs : xs.map (·.1) = zs.map fun z => (DataW.lit (.string z) : DataW H) := by
    have := congrArg Prod.fst hx
    simpa using this
   have hxl : xs.length = n := by simpa using Lib.mapM_length hm
   have hzl : zs.length = n := by
    have := congrArg List.length hxs
    simp at this
    omega
   apply List.ext_getElem?
   intro i
   by_cases hi : i < n
   ·obtain ⟨b,hb,hf⟩ := Lib.mapM_at hm i i (by simp [hi])
    obtain ⟨z,hc,rfl,_⟩ := DataW.trod_string he hf
    have h1 : cs[i]? = some (.string z) := by
     have := congrArg (·[0]?) hc
     simpa [List.getElem?_take,List.getElem?_drop] using this
    have h2 : (xs.map (·.1))[i]? = some (DataW.lit (.string z.data.toList) : DataW H) := by simp [hb]
    rw [hxs] at h2
    simp only [List.getElem?_map,Option.map_eq_some_iff,DataW.lit.injEq,Lit.string.injEq] at h2
    obtain ⟨z',hz',rfl⟩ := h2
    simp [h1,hz']
   ·rw [List.getElem?_eq_none (by omega),List.getElem?_eq_none (by simp; omega)]
  ·cases h

theorem strs_of_head {P : Program} {W : World} {name : String} {zs : List (List UInt8)} {rest : List (String × DataW Unit)} {g : Nat} {t e : TypeId} {n : Nat}
  (hg : P.globalNamed name = some g) (hty : (P.globals[g]?).map (·.type) = some t) (ht : P.underlying t = some (.array n e)) (he : P.underlying e = some .string) (hce : P.cellsOf e = 1) (hct : P.cellsOf t = n)
  (h : laidMet P ((name,.agg (zs.map fun z => .lit (.string z))) :: rest) W) : ∃ t fr,W.heap[g]? = some (.cells (zs.map fun z => Value.string ⟨z.toArray⟩).toArray t fr) := by
 obtain ⟨ps,⟨g',t',cs,fuel,p,q,hg',ht',hvar,hd,_,_⟩,_⟩ := h
 obtain rfl := Option.some.inj (hg.symm.trans hg')
 obtain rfl := Option.some.inj (hty.symm.trans ht')
 have h1 := cells_of_strs ht he hce hct hd
 have h2 : cs = (zs.map fun z => Value.string ⟨z.toArray⟩).toArray := by rw [← h1]
 rw [h2] at hvar
 simp only [World.var?,hg,Option.bind_some] at hvar
 split at hvar
 ·rename_i cs' t' fr' hh
  obtain rfl := Option.some.inj hvar
  exact ⟨_,_,hh⟩
 ·cases hvar

theorem xnwf_none (s : List Int) (h : s = []) : ∀ (l : List (List Int)) (k : Nat),nwf s l k = 0
 | [],_ => rfl
 | z :: r,k => by
  rw [nwf,if_neg (fun hh => hh.1 (hh.2.trans h)),xnwf_none s h r (k + 1)]

theorem pw_load {W : World} (h : STab W) : (loadVar 56 ⟨0,0,none⟩).run Tryz.prog W = .ok (.agg pwVal) W := by
 obtain ⟨t,fr,h⟩ := h
 exact run_loadVar_row (P := Tryz.prog) W 0 t 56 pwVal fr _ h Tryz.underlying56 rfl (by kernel_rfl)

theorem wpList_load_eq {w : World} {ops : Array Oper} {rest : List Oper} {o : Oper} {f : Act} {Q : Exit → Act → World → Prop} (hgd : o.guard = none) (T : TypeId) (x : Operand) (p : Addr)
  (ho : o.op = .load T x) (hx : f.eval x = .pointer (some p)) {v : Value} (hrun : (loadVar T p).run Tryz.prog w = .ok v w) (h : wpList Tryz.prog ops Q rest (f.put o.dst v) w) : wpList Tryz.prog ops Q (o :: rest) f w := by
 refine wpList_plain hgd fun K hK => ?_
 unfold Oper.wp
 simp [execOp,ho,hx,Instr.loadAt,Instr.sureAddr,asAddr,hrun,Result.andThen]
 exact hK _ _ h

theorem pw_index (k : Nat) (z : List Int) (hz : nwords[k]? = some z) (W : World) : (Instr.index 56 (.agg pwVal) (.int .i64 (k : Int))).run Tryz.prog W = .ok (.string (strOfNums z)) W := by
 have hk : k < 19 := (List.getElem?_eq_some_iff.1 hz).1
 have hv : pwVal[k]? = some (.string (strOfNums z)) := by
  unfold pwVal
  simp [hz]
 have h1 : ¬ ((k : Int) < 0) := by omega
 have h2 : (k : Int) < 19 := by omega
 have hu : ∀ V,(Sem.run Tryz.prog (isAgg 9) V) = .ok false V := fun V => by kernel_rfl
 simp [Instr.index,run_underlying Tryz.underlying56,asInt,asIntOf,h1,h2,hk,part,hu,hv]

theorem xnwf_hit (s : List Int) (k : Nat) (hs : s ≠ []) (h : nwords[k]? = some s) : nwf s (nwords.drop k) k = k := by
 have hk := (List.getElem?_eq_some_iff.1 h).1
 rw [List.drop_eq_getElem_cons hk]
 have he : nwords[k] = s := by
  have := List.getElem?_eq_getElem hk
  rw [h] at this
  exact (Option.some.inj this).symm
 rw [nwf,if_pos ⟨by rw [he]; exact hs,he⟩]

theorem xnwf_miss (s z : List Int) (k : Nat) (h : nwords[k]? = some z) (hne : z ≠ s) : nwf s (nwords.drop k) k = nwf s (nwords.drop (k + 1)) (k + 1) := by
 have hk := (List.getElem?_eq_some_iff.1 h).1
 rw [List.drop_eq_getElem_cons hk]
 have he : nwords[k] = z := by
  have := List.getElem?_eq_getElem hk
  rw [h] at this
  exact (Option.some.inj this).symm
 rw [nwf,if_neg (fun hh => hne (he.symm.trans hh.2))]

set_option maxRecDepth 10000 in
set_option maxHeartbeats 2000000 in
theorem ptype_any (s : List Int) (W : World) (hT : Hid (LoTab W)) (hs : Hid (byts s)) :
  Calls Tryz.prog 8 #[.string (strOfNums s)] W fun e W' => e = .returned (.int .i64 (nword s : Int)) ∧ W = W' := by
 obtain ⟨R,hR⟩ : ∃ R,R = nword s := ⟨_,rfl⟩
 rw [← hR]
 have HR : Hid (R = nwf s (nwords.drop 0) 0) := hR
 clear hR
 obtain ⟨PV,hPV⟩ : ∃ PV,PV = Value.agg pwVal := ⟨_,rfl⟩
 have HPV : Hid (PV = Value.agg pwVal) := hPV
 have HIX : Hid (∀ (k : Nat) (z : List Int),nwords[k]? = some z → ∀ V : World,(Instr.index 56 PV (.int .i64 (k : Int))).run Tryz.prog V = .ok (.string (strOfNums z)) V) := fun k z hz V => by rw [hPV]; exact pw_index k z hz V
 have hld := pw_load hT.out.2
 rw [← hPV] at hld
 clear hPV HPV
 go_enter Tryz.func8,Tryz.ntmps8
 go_upto_region 1 with fail
 refine wp_region_lit (wpList_load_eq rfl 56 _ ⟨0,0,none⟩ rfl rfl hld ?_)
 clear hld
 go_wp2
 go_loopw [6] (fun v wr => ∃ k : Nat,v = .int .i64 (k : Int) ∧ k ≤ 19 ∧ Hid (s = [] → k = 0) ∧ Hid (R = nwf s (nwords.drop k) k) ∧ W = wr) (fun v _ => 19 - (intOf v).toNat)
 case atStart => exact ⟨0,rfl,by omega,fun _ => rfl,HR,rfl⟩
 case round =>
  obtain ⟨k,rfl,hk,H0,HJ,rfl⟩ := hrel
  by_cases hkl : k < 19
  ·obtain ⟨z,hz⟩ : ∃ z,nwords[k]? = some z := ⟨nwords[k]'hkl,List.getElem?_eq_getElem hkl⟩
   have hix := HIX.out k z hz
   have hkl2 : (k : Int) < 19 := by omega
   have heq : ((strOfNums z).toList == (strOfNums s).toList) = decide (z = s) := (str_eq (nwords_bd z (List.mem_of_getElem? hz)) hs.out).trans (by rw [Bool.eq_iff_iff]; simp)
   by_cases e : z = s
   ·rw [decide_eq_true e] at heq
    have E : Hid (R = k) := by
     show _ = _
     rw [HJ.out]
     by_cases hse : s = []
     ·rw [xnwf_none s hse,H0.out hse]
     ·exact xnwf_hit s k hse (by rw [← e]; exact hz)
    clear HJ H0 hz e
    generalize strOfNums z = Z at hix heq
    generalize strOfNums s = T at heq
    go_wp2
    go_ret
    exact ⟨by rw [E.out]; rfl,rfl⟩
   ·rw [decide_eq_false e] at heq
    have HJ2 : Hid (R = nwf s (nwords.drop (k + 1)) (k + 1)) := by
     show _ = _
     rw [HJ.out,xnwf_miss s z k hz e]
    have H2 : Hid (s = [] → k + 1 = 0) := fun hse => by
     have h9 := H0.out hse
     subst h9
     subst hse
     exact absurd (Option.some.inj hz).symm e
    clear HJ H0 hz e
    generalize strOfNums z = Z at hix heq
    generalize strOfNums s = T at heq
    go_wp2
    go_roundw
    case rel => first | exact ⟨k + 1,by go_num,by omega,H2,HJ2,by first | rfl | trivial⟩ | ((repeat apply Exists.intro); exact ⟨⟨k + 1,by go_num,by omega,H2,HJ2,by first | rfl | trivial⟩,rfl⟩)
    case measure => simp [intOf]; omega
  ·obtain rfl : k = 19 := by omega
   have E : Hid (R = 0) := by show _ = _; rw [HJ.out]; rfl
   clear HJ H0
   go_wp2
   go_ret
   exact ⟨by rw [E.out]; rfl,rfl⟩

set_option maxHeartbeats 400000 in
theorem pnclone_any (S : ByteArray) (w : World) (hlen : S.size ≤ 1000000) :
  Calls Tryz.prog 19 #[.string S] w fun e w' => e = .returned (.string S) ∧ Below w.heap.size w w' := by
 have Q : Hid _ := Sh.stringslite_Clone S w (by omega)
 go_enter Tryz.func19,Tryz.ntmps19
 go_wp2_with fail
 refine Calls.mono Q.out ?_
 rintro e w1 ⟨rfl,hb⟩
 go_wp2
 go_ret
 exact ⟨rfl,hb⟩

set_option maxHeartbeats 1000000 in
theorem pjoin_any (a b : List Int) (w : World) (hT : Hid (NTab w)) (ha : Hid (byts a)) (hb : Hid (byts b)) (hl : a.length ≤ 10000) (hl2 : b.length ≤ 10000) :
  Calls Tryz.prog 129 #[.string (strOfNums a),.string (strOfNums b)] w fun e w' => e = .returned (.string (strOfNums (njoin a b))) ∧ Below w.heap.size w w' := by
 unfold njoin
 by_cases h : a = []
 ·rw [if_pos h]
  have hne : ((strOfNums a).toList == []) = true := by rw [h,str_list]; rfl
  have Q : Hid _ := fun W => pnclone_any (strOfNums b) W (by rw [strOfNums_size]; omega)
  generalize strOfNums a = A at hne
  generalize strOfNums b = B at Q
  go_enter Tryz.func129,Tryz.ntmps129
  go_wp2_with fail
  refine Calls.mono (Q.out _) ?_
  rintro e w1 ⟨rfl,hb1⟩
  go_wp2
  go_ret
  exact ⟨rfl,hb1⟩
 ·rw [if_neg h]
  have hne : ((strOfNums a).toList == []) = false := by
   cases a with
   | nil => exact absurd rfl h
   | cons c r => exact str_ne c r
  have h1 : ∀ W,(Op.stringOp .add (strOfNums a) { data := #[46] }).run Tryz.prog W = .ok (.string (strOfNums (a ++ [46]))) W := fun W => run_add W a [46] (by simp; omega)
  have h2 : ∀ W,(Op.stringOp .add (strOfNums (a ++ [46])) (strOfNums b)).run Tryz.prog W = .ok (.string (strOfNums (a ++ [46] ++ b))) W := fun W => run_add W (a ++ [46]) b (by simp; omega)
  clear h
  generalize strOfNums (a ++ [46] ++ b) = R at h2
  generalize strOfNums (a ++ [46]) = AP at h1 h2
  generalize strOfNums a = A at hne h1
  generalize strOfNums b = B at h2
  go_enter Tryz.func129,Tryz.ntmps129
  go_wp2
  go_ret
  exact ⟨rfl,Below.refl _ _⟩

theorem strCells_txt (t : List Int) (ht : ∀ c ∈ t,0 ≤ c ∧ c ≤ 255) : Lib.strCells (strOfNums t) = t.map (Value.int .u8) := by
 unfold Lib.strCells
 rw [strOfNums_data,List.map_map]
 apply List.map_congr_left
 intro c hc
 have := ht c hc
 simp only [Function.comp,UInt8.toNat_ofNat',Value.int.injEq,true_and]
 omega

theorem wpList_append_txt {w : World} {ops : Array Oper} {rest : List Oper} {o : Oper} {f : Act} {Q : Exit → Act → World → Prop} (hgd : o.guard = none) (s x : Operand)
  (ho : o.op = .call { callee := .builtin .append,args := #[s,x],argTypes := #[41,9] }) (base : Nat) (v : Value) (n : Nat) (xs : List Value) (zs : List Int) (S : ByteArray)
  (hs : f.eval s = v) (hx : f.eval x = .string S) (hS : S = strOfNums zs) (hown : w.ownsRow base 5 1 v n xs) (hz : ∀ c ∈ zs,0 ≤ c ∧ c ≤ 255) (hn : n + zs.length ≤ 140737488355328) (hbase : base ≤ w.heap.size)
  (h : ∀ v' w',w'.ownsRow base 5 1 v' (n + zs.length) (xs ++ zs.map (Value.int .u8)) → w.grownBy w' v.ownBlock → wpList Tryz.prog ops Q rest (f.put o.dst v') w') : wpList Tryz.prog ops Q (o :: rest) f w := by
 obtain ⟨i0,hi,hz0,hz1,hz2⟩ := info_parts Tryz.info5
 subst hS
 have hsz := strOfNums_size zs
 refine Lib.wpList_append_own_string (P := Tryz.prog) w hgd s x 41 9 ho base 5 i0 Tryz.underlying41 Tryz.underlying9 hi hz0 hz1 hz2 v n xs hs hown _ hx (by rw [hsz]; unfold maxLen; omega) (by rw [hsz]; exact hn) hbase ?_
 intro v' w' h1 h2 _
 rw [hsz,strCells_txt zs hz] at h1
 exact h v' w' h1 h2

theorem own_iter {w : World} {base k : Nat} {v : Value} {n : Nat} {xs : List Value} (h : w.ownsRow base 5 1 v n xs) (hk : k < base) (S : ByteArray) (p : Nat) : (w.iterAt k S p).ownsRow base 5 1 v n xs :=
 h.kept (row := some k) ⟨rfl,rfl,rfl,by rw [Lib.iterAt_size]; exact Nat.le_refl _,fun i hi hne => Lib.iterAt_other w k i S p (fun e => hne (by rw [e]))⟩ (by
  right
  intro e
  have := (h.lt k e).1
  omega)

theorem iter_grown {w w' : World} {base k : Nat} {v : Value} {n : Nat} {xs : List Value} {S : ByteArray} {p : Nat} (h : w.ownsRow base 5 1 v n xs) (hk : k < base) (hi : w.heap[k]? = some (.stringIter S p)) (hg : w.grownBy w' v.ownBlock) : w'.heap[k]? = some (.stringIter S p) := by
 rw [hg.block k (Array.getElem?_eq_some_iff.1 hi).1 (fun e => by have := (h.lt k e.symm).1; omega)]
 exact hi

theorem alloc_old' (w : World) (o : Obj) {k : Nat} {b : Obj} (h : w.heap[k]? = some b) : (w.alloc o).heap[k]? = some b :=
 (heap_alloc_old w o (Array.getElem?_eq_some_iff.1 h).1).trans h

theorem ncam_skip (s : List Int) (f : Nat) : ∀ (d p : Nat) (g : Bool),f ≤ p → 1 ≤ d → p + d ≤ s.length → (∀ j,p ≤ j → j < p + d → 128 ≤ s.getD j 0) → lpc s f p ++ ncam g (s.drop p) = lpc s f (p + d) ++ ncam false (s.drop (p + d))
 | 0,p,g,_,h,_,_ => by omega
 | d + 1,p,g,h1,_,h2,h3 => by
  have hc := h3 p (by omega) (by omega)
  rw [drop_at (show p < s.length by omega),ncam,if_neg (by omega),if_neg (by omega)]
  by_cases hd : d = 0
  ·subst hd
   rw [show p + (0 + 1) = p + 1 by omega,lpc_more s f p h1 (by omega)]
   simp
  ·have ih := ncam_skip s f d (p + 1) false (by omega) (by omega) (by omega) (fun j a b => h3 j (by omega) (by omega))
   rw [show p + 1 + d = p + (d + 1) by omega] at ih
   rw [← ih,lpc_more s f p h1 (by omega)]
   simp

theorem ncam_same (s : List Int) (f p : Nat) (g : Bool) (h1 : f ≤ p) (h2 : p < s.length) (h95 : s.getD p 0 ≠ 95) (hs : ¬ (g = true ∧ 97 ≤ s.getD p 0 ∧ s.getD p 0 ≤ 122)) : lpc s f p ++ ncam g (s.drop p) = lpc s f (p + 1) ++ ncam false (s.drop (p + 1)) := by
 rw [drop_at h2,ncam,if_neg h95,if_neg hs,lpc_more s f p h1 h2]
 simp

theorem lpc_len3 (s : List Int) (f p : Nat) (h1 : f ≤ p) (h2 : p ≤ s.length) : (lpc s f p).length = p - f := by unfold lpc; simp; omega

set_option maxHeartbeats 4000000 in
theorem pcamel_any (s : List Int) (g : Bool) (w : World) (hz : Hid (∀ i,0 ≤ s.getD i 0 ∧ s.getD i 0 ≤ 255)) (hlen : (s.length : Int) ≤ 100000) :
  Calls Tryz.prog 187 #[.string (strOfNums s),.bool g] w fun e w' => ∃ v,e = .returned v ∧ w'.ownsRow w.heap.size 5 1 v (ncam g s).length ((ncam g s).map (Value.int .u8)) ∧ Below w.heap.size w w' := by
 obtain ⟨R,hR⟩ : ∃ R,R = ncam g s := ⟨_,rfl⟩
 have HR0 : Hid (R = [] ++ (lpc s 0 0 ++ ncam g (s.drop 0))) := by show _ = _; rw [hR,lpc_none]; rfl
 obtain ⟨X,hX⟩ : ∃ X,X = strOfNums s := ⟨_,rfl⟩
 have hsz : X.size = s.length := by rw [hX]; exact strOfNums_size s
 have HP : Hid (∀ i k,i ≤ k → k ≤ s.length → ∀ W,(Instr.slice 9 (.string X) (some (.int .i64 (i : Int))) (some (.int .i64 (k : Int))) none).run Tryz.prog W = .ok (.string (strOfNums (lpc s i k))) W) := fun i k h1 h2 => by subst hX; exact run_piece s i k h1 h2
 have HTl : Hid (∀ i,i ≤ s.length → ∀ W,(Instr.slice 9 (.string X) (some (.int .i64 (i : Int))) none none).run Tryz.prog W = .ok (.string (strOfNums (s.drop i))) W) := fun i h1 => by subst hX; exact run_tail s i h1 _ rfl
 have HA : Hid (∀ k,(h : k < s.length) → ((X[k]'(hsz ▸ h)).toNat : Int) = s.getD k 0) := fun k h => by subst hX; exact str_at s hz.out k _
 have HD : Hid _ := dec_at s hz.out
 have HBy : Hid (byts s) := mem_bd hz.out
 rw [← hX] at HD
 rw [← hR,← hX]
 clear hX hR
 go_enter Tryz.func187,Tryz.ntmps187
 go_wp2
 go_loopw [1,5,6] (fun gv v fv wr => ∃ (p f : Nat) (g : Bool) (o : List Int),gv = .bool g ∧ fv = .int .i64 (f : Int) ∧ wr.heap[w.heap.size]? = some (.stringIter X p) ∧ f ≤ p ∧ p ≤ s.length ∧ o.length ≤ f ∧ Hid (R = o ++ (lpc s f p ++ ncam g (s.drop p))) ∧ Hid (wr.ownsRow (w.heap.size + 1) 5 1 v o.length (o.map (Value.int .u8))) ∧ Hid (Below w.heap.size w wr)) (fun _ _ _ wr => s.length - wr.iterPos w.heap.size)
 case atStart => exact ⟨0,0,g,[],rfl,rfl,by have := World.iter_heap w X 0; simpa using this,by omega,by omega,by simp,HR0,World.ownsRow_nil _ _ _ _,(Below.refl _ _).alloc (Nat.le_refl _) _⟩
 case round =>
  obtain ⟨p,f,g,o,rfl,rfl,hit,hfp,hp,hof,HJ,HO,HB⟩ := hrel
  have hsz1 : w.heap.size + 1 ≤ wr.heap.size := (Array.getElem?_eq_some_iff.1 hit).1
  by_cases hpl : p < s.length
  ·have hnx : ∀ ty,(Instr.next (.pointer (some ⟨w.heap.size,0,none⟩)) true ty).run Tryz.prog wr = _ := fun ty => Lib.run_next_any_at wr w.heap.size X p ty hit (by omega)
   have HC := HD.out p hpl
   have HI2 := fun q => Lib.iterAt_heap wr w.heap.size X p q hit
   have HB2 := fun q => Lib.below_iterAt HB.out (Nat.le_refl _) X q
   have HO2 := fun q => own_iter HO.out (show w.heap.size < w.heap.size + 1 by omega) X q
   have hc0 := (hz.out p).1
   have hc1 := (hz.out p).2
   rcases HC with ⟨h1,h2,h3⟩ | ⟨h1,h2,h3,h4,h5,h6⟩
   ·rw [h2,h3] at hnx
    clear h2 h3
    have hI := HI2 (p + 1)
    have HB3 : Hid _ := HB2 (p + 1)
    have HO3 : Hid ((wr.iterAt w.heap.size X (p + 1)).ownsRow (w.heap.size + 1) 5 1 _ o.length (o.map (Value.int .u8))) := HO2 (p + 1)
    obtain ⟨wi,hwi⟩ : ∃ wi,wi = wr.iterAt w.heap.size X (p + 1) := ⟨_,rfl⟩
    rw [← hwi] at hnx hI HB3 HO3
    have hszi : w.heap.size + 1 ≤ wi.heap.size := (Array.getElem?_eq_some_iff.1 hI).1
    clear HI2 HB2 HO2 hwi HB HO HR0
    by_cases h95 : s.getD p 0 = 95
    ·rw [h95] at hnx
     have hcut := HP.out f p hfp hp
     have HLB : Hid (byts (lpc s f p)) := lpc_bd s f p HBy.out
     have hll := lpc_len3 s f p hfp hp
     have HJ2 : Hid (R = (o ++ lpc s f p) ++ (lpc s (p + 1) (p + 1) ++ ncam true (s.drop (p + 1)))) := by show _ = _; rw [HJ.out,drop_at hpl,ncam,if_pos h95,lpc_none]; simp
     generalize lpc s f p = L at hcut HLB hll HJ2
     obtain ⟨T,hT⟩ : ∃ T,T = strOfNums L := ⟨_,rfl⟩
     rw [← hT] at hcut
     have HT : Hid (T = strOfNums L) := hT
     have hn1 : o.length + L.length ≤ 140737488355328 := by omega
     clear hT HJ h95
     go_wp2_with (at_builtin; refine wpList_append_txt rfl _ _ rfl (w.heap.size + 1) _ _ _ L _ rfl rfl HT.out HO3.out HLB.out hn1 hszi ?_; intro v2 w2 hown2 hgrow2; have hI2 := iter_grown HO3.out (Nat.lt_succ_self _) hI hgrow2; have HB4 : Hid (Below w.heap.size w w2) := HB3.out.grown hgrow2 HB3.out.size (fun j hj => by have := (HO3.out.lt j hj).1; omega); have HO4 : Hid (w2.ownsRow (w.heap.size + 1) 5 1 v2 (o ++ L).length ((o ++ L).map (Value.int .u8))) := (by rw [List.length_append,List.map_append]; exact hown2); clear hgrow2 hown2)
     go_roundw
     case rel => first | exact ⟨p + 1,p + 1,true,o ++ L,rfl,by go_num,hI2,by omega,by omega,by simp; omega,HJ2,HO4,HB4⟩ | ((repeat apply Exists.intro); exact ⟨⟨p + 1,p + 1,true,o ++ L,rfl,by go_num,hI2,by omega,by omega,by simp; omega,HJ2,HO4,HB4⟩,rfl⟩)
     case measure => simp only [World.iterPos,hI2,hit]; omega
    ·by_cases hgs : g = true ∧ 97 ≤ s.getD p 0 ∧ s.getD p 0 ≤ 122
     ·obtain ⟨rfl,g1,g2⟩ := hgs
      have hcut := HP.out f p hfp hp
      have HLB : Hid (byts (lpc s f p)) := lpc_bd s f p HBy.out
      have hll := lpc_len3 s f p hfp hp
      have hat := HA.out p hpl
      have HJ2 : Hid (R = (o ++ lpc s f p ++ [s.getD p 0 - 97 + 65]) ++ (lpc s (p + 1) (p + 1) ++ ncam false (s.drop (p + 1)))) := by show _ = _; rw [HJ.out,drop_at hpl,ncam,if_neg h95,if_pos ⟨rfl,g1,g2⟩,lpc_none,show s.getD p 0 - 97 + 65 = s.getD p 0 - 32 by omega]; simp
      generalize lpc s f p = L at hcut HLB hll HJ2
      generalize s.getD p 0 = c at *
      have q := fun W => psmall_any c W hc0 (by omega)
      rw [show nsml c = true from decide_eq_true ⟨g1,g2⟩] at q
      have Q : Hid _ := q
      have e95 : (c == 95) = false := by simpa using h95
      obtain ⟨T,hT⟩ : ∃ T,T = strOfNums L := ⟨_,rfl⟩
      rw [← hT] at hcut
      have HT : Hid (T = strOfNums L) := hT
      have hn1 : o.length + L.length ≤ 140737488355328 := by omega
      have hn2 : (o ++ L).length + 1 ≤ 140737488355328 := by simp; omega
      clear hT HJ h95 q
      go_wp2_with fail
      refine Calls.mono (Q.out _) ?_
      rintro e w1 ⟨rfl,rfl⟩
      go_wp2_with (first
       | (at_builtin; refine wpList_append_txt rfl _ _ rfl (w.heap.size + 1) _ _ _ L _ rfl rfl HT.out HO3.out HLB.out hn1 hszi ?_; intro v2 w2 hown2 hgrow2; have hI2 := iter_grown HO3.out (Nat.lt_succ_self _) hI hgrow2; have HB4 : Hid (Below w.heap.size w w2) := HB3.out.grown hgrow2 HB3.out.size (fun j hj => by have := (HO3.out.lt j hj).1; omega); have HO4 : Hid (w2.ownsRow (w.heap.size + 1) 5 1 v2 (o ++ L).length ((o ++ L).map (Value.int .u8))) := (by rw [List.length_append,List.map_append]; exact hown2); have hsz4 : w.heap.size + 1 ≤ w2.heap.size := Nat.le_trans hszi hgrow2.size; clear hgrow2 hown2)
       | (at_builtin; refine wpList_append_bs rfl _ _ rfl (w.heap.size + 1) _ _ _ _ _ _ [c - 97 + 65] rfl rfl (HO4.out.alloc (.cells #[.int .u8 (c - 97 + 65)] 5)) (Bs.of_owns (zs := [c - 97 + 65]) (own_lit w2 (c - 97 + 65)) (by simp; omega)) hn2 (by simp; omega) ?_; intro v3 w3 hown3 hgrow3; have hI3 := iter_grown (HO4.out.alloc (.cells #[.int .u8 (c - 97 + 65)] 5)) (Nat.lt_succ_self _) ((alloc_old' w2 _ hI2)) hgrow3; have HB5 : Hid (Below w.heap.size w w3) := (HB4.out.alloc HB4.out.size (.cells #[.int .u8 (c - 97 + 65)] 5)).grown hgrow3 (by simp; omega) (fun j hj => by have := ((HO4.out.alloc (.cells #[.int .u8 (c - 97 + 65)] 5)).lt j hj).1; omega); have HO5 : Hid (w3.ownsRow (w.heap.size + 1) 5 1 v3 (o ++ L ++ [c - 97 + 65]).length ((o ++ L ++ [c - 97 + 65]).map (Value.int .u8))) := (by rw [List.length_append,List.map_append]; exact hown3); clear hgrow3 hown3))
      go_roundw
      case rel => first | exact ⟨p + 1,p + 1,false,o ++ L ++ [c - 97 + 65],rfl,by go_num,hI3,by omega,by omega,by simp; omega,HJ2,HO5,HB5⟩ | ((repeat apply Exists.intro); exact ⟨⟨p + 1,p + 1,false,o ++ L ++ [c - 97 + 65],rfl,by go_num,hI3,by omega,by omega,by simp; omega,HJ2,HO5,HB5⟩,rfl⟩)
      case measure => simp only [World.iterPos,hI3,hit]; omega
     ·have HJ2 : Hid (R = o ++ (lpc s f (p + 1) ++ ncam false (s.drop (p + 1)))) := by show _ = _; rw [HJ.out,ncam_same s f p g hfp hpl h95 hgs]
      generalize s.getD p 0 = c at *
      have e95 : (c == 95) = false := by simpa using h95
      cases g with
      | true =>
       have q := fun W => psmall_any c W hc0 (by omega)
       rw [show nsml c = false from decide_eq_false (fun h => hgs ⟨rfl,h⟩)] at q
       have Q : Hid _ := q
       clear q hgs h95 HJ
       go_wp2_with fail
       refine Calls.mono (Q.out _) ?_
       rintro e w1 ⟨rfl,rfl⟩
       go_wp2
       go_roundw
       case rel => first | exact ⟨p + 1,f,false,o,rfl,rfl,hI,by omega,by omega,by omega,HJ2,HO3,HB3⟩ | ((repeat apply Exists.intro); exact ⟨⟨p + 1,f,false,o,rfl,rfl,hI,by omega,by omega,by omega,HJ2,HO3,HB3⟩,rfl⟩)
       case measure => simp only [World.iterPos,hI,hit]; omega
      | false =>
       clear hgs h95 HJ
       go_wp2
       go_roundw
       case rel => first | exact ⟨p + 1,f,false,o,rfl,rfl,hI,by omega,by omega,by omega,HJ2,HO3,HB3⟩ | ((repeat apply Exists.intro); exact ⟨⟨p + 1,f,false,o,rfl,rfl,hI,by omega,by omega,by omega,HJ2,HO3,HB3⟩,rfl⟩)
       case measure => simp only [World.iterPos,hI,hit]; omega
   ·have HJ2 : Hid (R = o ++ (lpc s f (p + (Utf8.decode X p).2) ++ ncam false (s.drop (p + (Utf8.decode X p).2)))) := by show _ = _; rw [HJ.out,ncam_skip s f (Utf8.decode X p).2 p g hfp h4 h5 h6]
    generalize ((Utf8.decode X p).1 : Int) = c at *
    generalize (Utf8.decode X p).2 = d at *
    have hI := HI2 (p + d)
    have HB3 : Hid _ := HB2 (p + d)
    have HO3 : Hid ((wr.iterAt w.heap.size X (p + d)).ownsRow (w.heap.size + 1) 5 1 _ o.length (o.map (Value.int .u8))) := HO2 (p + d)
    obtain ⟨wi,hwi⟩ : ∃ wi,wi = wr.iterAt w.heap.size X (p + d) := ⟨_,rfl⟩
    rw [← hwi] at hnx hI HB3 HO3
    have e95 : (c == 95) = false := by simp; omega
    clear HI2 HB2 HO2 hwi HB HO HR0 HJ h6 h1 hc0 hc1
    cases g with
    | true =>
     have q := fun W => psmall_any c W (by omega) h3
     rw [show nsml c = false from decide_eq_false (by omega)] at q
     have Q : Hid _ := q
     clear q
     go_wp2_with fail
     refine Calls.mono (Q.out _) ?_
     rintro e w1 ⟨rfl,rfl⟩
     go_wp2
     go_roundw
     case rel => first | exact ⟨p + d,f,false,o,rfl,rfl,hI,by omega,by omega,by omega,HJ2,HO3,HB3⟩ | ((repeat apply Exists.intro); exact ⟨⟨p + d,f,false,o,rfl,rfl,hI,by omega,by omega,by omega,HJ2,HO3,HB3⟩,rfl⟩)
     case measure => simp only [World.iterPos,hI,hit]; omega
    | false =>
     go_wp2
     go_roundw
     case rel => first | exact ⟨p + d,f,false,o,rfl,rfl,hI,by omega,by omega,by omega,HJ2,HO3,HB3⟩ | ((repeat apply Exists.intro); exact ⟨⟨p + d,f,false,o,rfl,rfl,hI,by omega,by omega,by omega,HJ2,HO3,HB3⟩,rfl⟩)
     case measure => simp only [World.iterPos,hI,hit]; omega
  ·obtain rfl : p = s.length := by omega
   have hnx : ∀ ty,(Instr.next (.pointer (some ⟨w.heap.size,0,none⟩)) true ty).run Tryz.prog wr = _ := fun ty => Lib.run_next_end_at wr w.heap.size X s.length ty hit (by omega)
   have hcut := HTl.out f hfp
   have HLB : Hid (byts (s.drop f)) := fun c hc => HBy.out c (List.mem_of_mem_drop hc)
   have hll : (s.drop f).length = s.length - f := List.length_drop
   have HE : Hid (R = o ++ s.drop f) := by show _ = _; rw [HJ.out,List.drop_length,lpc_tail]; simp [ncam]
   generalize s.drop f = L at hcut HLB hll HE
   obtain ⟨T,hT⟩ : ∃ T,T = strOfNums L := ⟨_,rfl⟩
   rw [← hT] at hcut
   have HT : Hid (T = strOfNums L) := hT
   have hn1 : o.length + L.length ≤ 140737488355328 := by omega
   clear hT HJ
   go_wp2_with (at_builtin; refine wpList_append_txt rfl _ _ rfl (w.heap.size + 1) _ _ _ L _ rfl rfl HT.out HO.out HLB.out hn1 hsz1 ?_; intro v2 w2 hown2 hgrow2; have HB4 : Hid (Below w.heap.size w w2) := HB.out.grown hgrow2 HB.out.size (fun j hj => by have := (HO.out.lt j hj).1; omega); have HO4 : Hid (w2.ownsRow (w.heap.size + 1) 5 1 v2 (o ++ L).length ((o ++ L).map (Value.int .u8))) := (by rw [List.length_append,List.map_append]; exact hown2); clear hgrow2 hown2)
   go_ret
   exact ⟨_,rfl,by rw [HE.out]; exact own_base HO4.out (by omega),HB4.out⟩

set_option maxHeartbeats 1000000 in
theorem pjson_any (s : List Int) (w : World) (hT : Hid (NTab w)) (hz : Hid (∀ i,0 ≤ s.getD i 0 ∧ s.getD i 0 ≤ 255)) (hlen : (s.length : Int) ≤ 100000) :
  Calls Tryz.prog 182 #[.string (strOfNums s)] w fun e w' => e = .returned (.string (strOfNums (ncam false s))) ∧ Below w.heap.size w w' := by
 have Q : Hid _ := pcamel_any s false w hz hlen
 have HB : Hid (byts (ncam false s)) := ncam_bd s false (mem_bd hz.out)
 generalize ncam false s = R at *
 go_enter Tryz.func182,Tryz.ntmps182
 go_wp2_with fail
 refine Calls.mono Q.out ?_
 rintro e w1 ⟨v,rfl,hO,hb⟩
 obtain ⟨a,c,rfl⟩ := own_slice hO
 have hcv := (Bs.of_owns hO HB.out).conv
 go_wp2
 go_ret
 exact ⟨rfl,hb⟩

def tT (ad : Option Addr) (c : Nat) : Tn := .mk 18 [105,110,116,51,50] 0 0 0 21 [] ad c []

def tF (ad : Option Addr) (c : Nat) (k : Tn) : Tn := .mk 9 [98] 1 0 1 12 [] ad c [k]

def tM (ad : Option Addr) (c : Nat) (k : Tn) : Tn := .mk 5 [65] 0 0 0 0 [] ad c [k]

def tA (ad : Option Addr) (c : Nat) (k : Tn) : Tn := .mk 1 [] 0 0 0 0 [] ad c [k]

set_option maxRecDepth 10000 in
set_option maxHeartbeats 1000000 in
theorem ptypeOf_a (ad : Option Addr) (c : Nat) (W : World) (hT : Hid (LoTab W)) :
  Calls Tryz.prog 167 #[(tT ad c).val] W fun e W' => e = .returned (.tuple #[.int .i64 5,.string ⟨#[]⟩]) ∧ Below W.heap.size W W' := by
 unfold tT Tn.val Tn.cells
 have HB : Hid (Below W.heap.size W (W.alloc (.cells #[.int .i64 18,.string (strOfNums [105,110,116,51,50]),.int .i64 0,.int .i64 0,.int .i64 0,.int .i64 21,.string (strOfNums []),.slice ad 0 c] 28))) := (Below.refl _ _).alloc (Nat.le_refl _) _
 have Q : Hid _ := ptype_any [105,110,116,51,50] (W.alloc (.cells #[.int .i64 18,.string (strOfNums [105,110,116,51,50]),.int .i64 0,.int .i64 0,.int .i64 0,.int .i64 21,.string (strOfNums []),.slice ad 0 c] 28)) (show Hid _ from hT.out.below HB.out (Nat.le_refl _)) (by show byts _; unfold byts; decide)
 rw [show (nword [105,110,116,51,50] : Int) = 5 from rfl] at Q
 simp only [List.length_nil] at *
 generalize strOfNums [105,110,116,51,50] = X at *
 generalize strOfNums [] = D at *
 go_enter Tryz.func167,Tryz.ntmps167
 go_wp2_with fail
 refine Calls.mono Q.out ?_
 rintro e w1 ⟨rfl,rfl⟩
 go_wp2
 go_ret2
 exact ⟨rfl,HB.out⟩

set_option maxRecDepth 10000 in
set_option maxHeartbeats 1000000 in
theorem plabel_a (p : Value) (ad : Option Addr) (c : Nat) (k : Tn) (W : World) (b : Bool) :
  Calls Tryz.prog 166 #[p,(tF ad c k).val,.bool b] W fun e W' => e = .returned (.int .i64 1) ∧ Below W.heap.size W W' := by
 unfold tF Tn.val Tn.cells
 simp only [List.length_cons,List.length_nil,Nat.zero_add]
 generalize strOfNums [98] = X
 generalize strOfNums [] = D
 have HB : Hid (Below W.heap.size W (W.alloc (.cells #[.int .i64 9,.string X,.int .i64 1,.int .i64 0,.int .i64 1,.int .i64 12,.string D,.slice ad 1 c] 28))) := (Below.refl _ _).alloc (Nat.le_refl _) _
 go_enter Tryz.func166,Tryz.ntmps166
 go_wp2
 go_ret
 exact ⟨rfl,HB.out⟩

theorem nos_nil {w : World} {base : Nat} {v : Value} (h : Nos w base v []) : ∃ a c,v = .slice a 0 c := by
 rcases h.2 with ⟨rfl,_⟩ | ⟨g,c,cur,rfl,_⟩
 ·exact ⟨none,0,rfl⟩
 ·exact ⟨_,c,rfl⟩

theorem tlikes_nil : ∀ {us : List Tn},tlikes us [] → us = []
 | [],_ => rfl
 | _ :: _,h => h.elim

theorem pof_none {w : World} {t : Tn} (h : TnOk w t) (hf : tfew t = true) (hd : tdeep t ≤ 64) (kind : Int) (hk : i64b kind) (hno : t.kids.filter (fun k => k.kind == kind) = []) (W : World) (hT : Hid (LoTab W)) (hB : Below w.heap.size w W) :
  Calls Tryz.prog 127 #[t.val,.int .i64 kind] W fun e W' => ∃ a c,e = .returned (.slice a 0 c) ∧ Below W.heap.size W W' := by
 refine Calls.mono (pof_any h hf hd kind hk W (show Hid _ from hT.out.1) hB) ?_
 rintro e W' ⟨v,us,rfl,h1,_,h2,h3⟩
 rw [hno] at h2
 obtain rfl := tlikes_nil h2
 obtain ⟨a,c,rfl⟩ := nos_nil h1
 exact ⟨a,c,rfl,h3⟩

def fA (type : Int) (json : ByteArray) : Array Value := #[.string (strOfNums [98]),.int .i64 1,.int .i64 1,.int .i64 type,.string ⟨#[]⟩,.string ⟨#[]⟩,.string ⟨#[]⟩,.bool false,.int .i64 0,.string json,.bool false,.slice none 0 0,.slice none 0 0]

structure Ob (w : World) (b : Nat) (c : Array Value) (T : TypeId) : Prop where
 eq : w.heap[b]? = some (.cells c T (0,0))

theorem Ob.new (w : World) (c : Array Value) (T : TypeId) : Ob (w.alloc (.cells c T)) w.heap.size c T := ⟨heap_alloc_new w _⟩

theorem Ob.lt {w : World} {b : Nat} {c : Array Value} {T : TypeId} (h : Ob w b c T) : b < w.heap.size := (Array.getElem?_eq_some_iff.1 h.eq).1

theorem Ob.below {w w' : World} {b B : Nat} {c : Array Value} {T : TypeId} (h : Ob w b c T) (hb : Below B w w') (hB : b < B) : Ob w' b c T := ⟨(hb.block b hB).trans h.eq⟩

theorem Ob.alloc {w : World} {b : Nat} {c : Array Value} {T : TypeId} (h : Ob w b c T) (o : Obj) : Ob (w.alloc o) b c T := ⟨(Below.heap_alloc w o b h.lt).trans h.eq⟩

theorem Ob.set {w : World} {b : Nat} {c : Array Value} {T : TypeId} (h : Ob w b c T) (j : Nat) (v : Value) : Ob (w.setCell ⟨b,j,none⟩ v) b (c.setIfInBounds j v) T := by
 constructor
 rw [setCell_eq_setRow w b j c T (0,0) v h.eq]
 exact setRow_heap w b c _ T _ h.eq

theorem Ob.other {w : World} {b : Nat} {c : Array Value} {T : TypeId} (h : Ob w b c T) {b' : Nat} (hne : b ≠ b') (j : Nat) (v : Value) : Ob (w.setCell ⟨b',j,none⟩ v) b c T := ⟨(heap_setCell_other _ _ _ _ (by simpa using hne)).trans h.eq⟩

theorem Ob.cell {w : World} {b : Nat} {c : Array Value} {T : TypeId} (h : Ob w b c T) (j : Nat) {v : Value} (hv : c[j]? = some v) : w.cell? ⟨b,j,none⟩ = some v := by
 simp [World.cell?,h.eq]
 simpa using hv

theorem Ob.frozen {w : World} {b : Nat} {c : Array Value} {T : TypeId} (h : Ob w b c T) (j : Nat) : w.frozen? ⟨b,j,none⟩ = false := by
 simp [World.frozen?,h.eq]

theorem ob8 {w : World} {b : Nat} {T : TypeId} {x0 x1 x2 x3 x4 x5 x6 x7 : Value} (h : Ob w b #[x0,x1,x2,x3,x4,x5,x6,x7] T) :
  (w.cell? ⟨b,0,none⟩ = some x0 ∧ w.cell? ⟨b,1,none⟩ = some x1 ∧ w.cell? ⟨b,2,none⟩ = some x2 ∧ w.cell? ⟨b,3,none⟩ = some x3 ∧ w.cell? ⟨b,4,none⟩ = some x4 ∧ w.cell? ⟨b,5,none⟩ = some x5 ∧ w.cell? ⟨b,6,none⟩ = some x6 ∧ w.cell? ⟨b,7,none⟩ = some x7) ∧ (w.frozen? ⟨b,0,none⟩ = false ∧ w.frozen? ⟨b,1,none⟩ = false ∧ w.frozen? ⟨b,2,none⟩ = false ∧ w.frozen? ⟨b,3,none⟩ = false ∧ w.frozen? ⟨b,4,none⟩ = false ∧ w.frozen? ⟨b,5,none⟩ = false ∧ w.frozen? ⟨b,6,none⟩ = false ∧ w.frozen? ⟨b,7,none⟩ = false) ∧ b < w.heap.size :=
 ⟨⟨h.cell 0 rfl,h.cell 1 rfl,h.cell 2 rfl,h.cell 3 rfl,h.cell 4 rfl,h.cell 5 rfl,h.cell 6 rfl,h.cell 7 rfl⟩,⟨h.frozen 0,h.frozen 1,h.frozen 2,h.frozen 3,h.frozen 4,h.frozen 5,h.frozen 6,h.frozen 7⟩,h.lt⟩

theorem ob13 {w : World} {b : Nat} {T : TypeId} {x0 x1 x2 x3 x4 x5 x6 x7 x8 x9 x10 x11 x12 : Value} (h : Ob w b #[x0,x1,x2,x3,x4,x5,x6,x7,x8,x9,x10,x11,x12] T) :
  (w.cell? ⟨b,0,none⟩ = some x0 ∧ w.cell? ⟨b,1,none⟩ = some x1 ∧ w.cell? ⟨b,2,none⟩ = some x2 ∧ w.cell? ⟨b,3,none⟩ = some x3 ∧ w.cell? ⟨b,4,none⟩ = some x4 ∧ w.cell? ⟨b,5,none⟩ = some x5 ∧ w.cell? ⟨b,6,none⟩ = some x6 ∧ w.cell? ⟨b,7,none⟩ = some x7 ∧ w.cell? ⟨b,8,none⟩ = some x8 ∧ w.cell? ⟨b,9,none⟩ = some x9 ∧ w.cell? ⟨b,10,none⟩ = some x10 ∧ w.cell? ⟨b,11,none⟩ = some x11 ∧ w.cell? ⟨b,12,none⟩ = some x12) ∧ (w.frozen? ⟨b,0,none⟩ = false ∧ w.frozen? ⟨b,1,none⟩ = false ∧ w.frozen? ⟨b,2,none⟩ = false ∧ w.frozen? ⟨b,3,none⟩ = false ∧ w.frozen? ⟨b,4,none⟩ = false ∧ w.frozen? ⟨b,5,none⟩ = false ∧ w.frozen? ⟨b,6,none⟩ = false ∧ w.frozen? ⟨b,7,none⟩ = false ∧ w.frozen? ⟨b,8,none⟩ = false ∧ w.frozen? ⟨b,9,none⟩ = false ∧ w.frozen? ⟨b,10,none⟩ = false ∧ w.frozen? ⟨b,11,none⟩ = false ∧ w.frozen? ⟨b,12,none⟩ = false) ∧ b < w.heap.size :=
 ⟨⟨h.cell 0 rfl,h.cell 1 rfl,h.cell 2 rfl,h.cell 3 rfl,h.cell 4 rfl,h.cell 5 rfl,h.cell 6 rfl,h.cell 7 rfl,h.cell 8 rfl,h.cell 9 rfl,h.cell 10 rfl,h.cell 11 rfl,h.cell 12 rfl⟩,⟨h.frozen 0,h.frozen 1,h.frozen 2,h.frozen 3,h.frozen 4,h.frozen 5,h.frozen 6,h.frozen 7,h.frozen 8,h.frozen 9,h.frozen 10,h.frozen 11,h.frozen 12⟩,h.lt⟩

theorem Tryz.sizeField2 : (Tryz.prog.info? 53).map (·.size) = some 13 := by kernel_rfl

theorem fld_ret {fn : Func} {R : Ending → World → Prop} {a : Act} {w : World} {p : Tmp} (h : fn.results = #[.cell p 53]) (gb : Nat) (cs : Array Value) (hs : cs.size = 13) (hp : a.tmps.getD p undef = .pointer (some ⟨gb,0,none⟩)) (hg : Ob w gb cs 53) (hd : a.defers = []) (hR : R (.returned (.agg cs)) w) : bodyPost Tryz.prog fn R .ret a w := by
 refine bodyPost_ret (v := .agg cs) ?_ hd hR
 have hp' : a.tmps[p]?.getD undef = .pointer (some ⟨gb,0,none⟩) := by simpa using hp
 have hl := run_loadVar_row (P := Tryz.prog) w gb 53 53 cs (0,0) _ hg.eq Tryz.underlying53 rfl (Tryz.sizeField2.trans (by rw [hs]))
 simp [results,h,hp',asAddr,hl]

def f0 : Array Value := #[.string ⟨#[]⟩,.int .i64 0,.int .i64 0,.int .i64 0,.string ⟨#[]⟩,.string ⟨#[]⟩,.string ⟨#[]⟩,.bool false,.int .i64 0,.string ⟨#[]⟩,.bool false,.slice none 0 0,.slice none 0 0]

set_option maxRecDepth 20000 in
set_option maxHeartbeats 4000000 in
theorem popt_a {w : World} {ad : Option Addr} {c : Nat} {k : Tn} (h : TnOk w (tF ad c k)) (hf : tfew (tF ad c k) = true) (hd : tdeep (tF ad c k) ≤ 64) (hk : k.kind = 18) (W : World) (hT : Hid (LoTab W)) (hB : Below w.heap.size w W) (pl ps : Value) :
  Calls Tryz.prog 168 #[pl,(tF ad c k).val,.agg (fA 5 ⟨#[]⟩),ps] W fun e W' => e = .returned (.agg (fA 5 (strOfNums [98]))) ∧ Below W.heap.size W W' := by
 obtain ⟨w3,hw3⟩ : ∃ w3,w3 = ((W.alloc (.cells #[.int .i64 9,.string (strOfNums [98]),.int .i64 1,.int .i64 0,.int .i64 1,.int .i64 12,.string (strOfNums []),.slice ad 1 c] 28)).alloc (.cells (fA 5 ⟨#[]⟩) 53)).alloc (.cells f0 53) := ⟨_,rfl⟩
 have o0 : Ob w3 W.heap.size #[.int .i64 9,.string (strOfNums [98]),.int .i64 1,.int .i64 0,.int .i64 1,.int .i64 12,.string (strOfNums []),.slice ad 1 c] 28 := by rw [hw3]; exact ((Ob.new W _ _).alloc _).alloc _
 have o1 : Ob w3 (W.heap.size + 1) (fA 5 ⟨#[]⟩) 53 := by
  rw [hw3]
  have := (Ob.new (W.alloc (.cells #[.int .i64 9,.string (strOfNums [98]),.int .i64 1,.int .i64 0,.int .i64 1,.int .i64 12,.string (strOfNums []),.slice ad 1 c] 28)) (fA 5 ⟨#[]⟩) 53).alloc (.cells f0 53)
  simpa using this
 have o2 : Ob w3 (W.heap.size + 1 + 1) f0 53 := by
  rw [hw3]
  have := Ob.new ((W.alloc (.cells #[.int .i64 9,.string (strOfNums [98]),.int .i64 1,.int .i64 0,.int .i64 1,.int .i64 12,.string (strOfNums []),.slice ad 1 c] 28)).alloc (.cells (fA 5 ⟨#[]⟩) 53)) f0 53
  simpa using this
 have hb3 : Below W.heap.size W w3 := by rw [hw3]; exact (((Below.refl _ W).alloc (Nat.le_refl _) _).alloc (by simp) _).alloc (by simp; omega) _
 have QJ : Hid _ := pjson_any [98] w3 (show Hid (NTab w3) from trivial) (show Hid _ from by intro i; cases i with | zero => decide | succ i => simp [List.getD]) (by decide)
 rw [show ncam false [98] = [98] from by kernel_rfl] at QJ
 have QO : Hid (∀ V,Below W.heap.size W V → Calls Tryz.prog 127 #[(tF ad c k).val,.int .i64 4] V fun e W' => ∃ a c,e = .returned (.slice a 0 c) ∧ Below V.heap.size V W') := fun V hV => pof_none h hf hd 4 (by unfold i64b; omega) (by simp [tF,Tn.kids,hk]) V (show Hid _ from hT.out.below hV (Nat.le_refl _)) (hB.trans (hV.mono hB.size))
 unfold tF Tn.val Tn.cells at QO ⊢
 simp only [List.length_cons,List.length_nil,Nat.zero_add] at QO ⊢
 simp only [fA,f0] at hw3 o1 o2 ⊢
 generalize strOfNums [98] = X at *
 generalize strOfNums [] = D at *
 have O0 : Hid _ := o0
 have O1 : Hid _ := o1
 have O2 : Hid _ := o2
 have HB3 : Hid _ := hb3
 have hl1 : W.heap.size < w3.heap.size := o0.lt
 have hl2 : W.heap.size + 1 < w3.heap.size := o1.lt
 have HW3 : Hid _ := hw3
 have c05 : w3.cell? ⟨W.heap.size + 1,5,none⟩ = some (.string ⟨#[]⟩) := o1.cell 5 rfl
 have c01 : w3.cell? ⟨W.heap.size,1,none⟩ = some (.string X) := o0.cell 1 rfl
 clear o0 o1 o2 hb3 hw3
 go_enter Tryz.func168,Tryz.ntmps168
 go_upto_region 1 with fail
 rw [← HW3.out]
 clear HW3
 go_wp2_with fail
 refine Calls.mono QJ.out ?_
 rintro e w4 ⟨rfl,hb4⟩
 have o0 := O0.out.below hb4 hl1
 have o1 := O1.out.below hb4 hl2
 have o2 := O2.out.below hb4 O2.out.lt
 have HB4 : Hid (Below W.heap.size W w4) := HB3.out.trans (hb4.mono HB3.out.size)
 obtain ⟨w5,hw5⟩ : ∃ w5,w5 = w4.setCell ⟨W.heap.size + 1,9,none⟩ (.string X) := ⟨_,rfl⟩
 have p0 : Ob w5 W.heap.size #[.int .i64 9,.string X,.int .i64 1,.int .i64 0,.int .i64 1,.int .i64 12,.string D,.slice ad 1 c] 28 := by rw [hw5]; exact o0.other (by omega) _ _
 have p1 : Ob w5 (W.heap.size + 1) #[.string X,.int .i64 1,.int .i64 1,.int .i64 5,.string ⟨#[]⟩,.string ⟨#[]⟩,.string ⟨#[]⟩,.bool false,.int .i64 0,.string X,.bool false,.slice none 0 0,.slice none 0 0] 53 := by rw [hw5]; have := o1.set 9 (.string X); simpa using this
 have p2 : Ob w5 (W.heap.size + 1 + 1) #[.string ⟨#[]⟩,.int .i64 0,.int .i64 0,.int .i64 0,.string ⟨#[]⟩,.string ⟨#[]⟩,.string ⟨#[]⟩,.bool false,.int .i64 0,.string ⟨#[]⟩,.bool false,.slice none 0 0,.slice none 0 0] 53 := by rw [hw5]; exact o2.other (by omega) _ _
 have HB5 : Hid (Below W.heap.size W w5) := by rw [hw5]; exact HB4.out.setCell (p := ⟨W.heap.size + 1,9,none⟩) (by simp) _
 have s1 : w4.cell? ⟨W.heap.size + 1,9,none⟩ = some (.string ⟨#[]⟩) := o1.cell 9 rfl
 have s2 : w4.frozen? ⟨W.heap.size + 1,9,none⟩ = false := o1.frozen 9
 have s3 : W.heap.size + 1 < w4.heap.size := o1.lt
 obtain ⟨⟨a0,a1,a2,a3,a4,a5,a6,a7⟩,_,al⟩ := ob8 p0
 have QO5 : Hid _ := QO.out w5 HB5.out
 have P1 : Hid _ := p1
 have P2 : Hid _ := p2
 have P1l : Hid (W.heap.size + 1 < w5.heap.size) := p1.lt
 have HW5 : Hid _ := hw5
 clear o0 o1 o2 hb4 p0 p1 p2 c05 c01 hl1 hl2 HB3 HB4 O0 O1 O2 QJ QO hw5
 go_upto_region 4 with fail
 rw [← HW5.out]
 clear HW5 s1 s2 s3
 go_wp2_with fail
 refine Calls.mono QO5.out ?_
 rintro e w6 ⟨oa,oc,rfl,hb6⟩
 have q1 := P1.out.below hb6 P1l.out
 have q2 := P2.out.below hb6 P2.out.lt
 have HB6 : Hid (Below W.heap.size W w6) := HB5.out.trans (hb6.mono HB5.out.size)
 obtain ⟨⟨b0,b1,b2,b3,b4,b5,b6,b7,b8,b9,b10,b11,b12⟩,_,bl⟩ := ob13 q1
 obtain ⟨⟨c0,c1,c2,c3,c4,c5,c6,c7,c8,c9,c10,c11,c12⟩,⟨d0,d1,d2,d3,d4,d5,d6,d7,d8,d9,d10,d11,d12⟩,dl⟩ := ob13 q2
 have Q2 : Hid _ := q2
 clear a0 a1 a2 a3 a4 a5 a6 a7 al q1 q2 hb6 P1 P2 P1l HB5 QO5
 go_wp2
 go_loopw [22] (fun v wr => v = .int .i64 0 ∧ w6 = wr) (fun _ _ => 0)
 case atStart => exact ⟨rfl,rfl⟩
 case round =>
  obtain ⟨rfl,rfl⟩ := hrel
  go_wp2
  refine fld_ret (p := 8) ?_ (W.heap.size + 1 + 1) #[.string X,.int .i64 1,.int .i64 1,.int .i64 5,.string ⟨#[]⟩,.string ⟨#[]⟩,.string ⟨#[]⟩,.bool false,.int .i64 0,.string X,.bool false,.slice none 0 0,.slice none 0 0] rfl ?_ ?_ ?_ ?_
  ·rfl
  ·rfl
  rotate_left
  ·rfl
  rotate_left
  ·have := (((((((((((((Q2.out.set 0 (.string X)).set 1 (.int .i64 1)).set 2 (.int .i64 1)).set 3 (.int .i64 5)).set 4 (.string ⟨#[]⟩)).set 5 (.string ⟨#[]⟩)).set 6 (.string ⟨#[]⟩)).set 7 (.bool false)).set 8 (.int .i64 0)).set 9 (.string X)).set 10 (.bool false)).set 11 (.slice none 0 0)).set 12 (.slice none 0 0))
   simpa using this
  ·refine ⟨rfl,?_⟩
   exact (((((((((((((HB6.out.setCell (p := ⟨W.heap.size + 1 + 1,0,none⟩) (by simp; omega) _).setCell (p := ⟨W.heap.size + 1 + 1,1,none⟩) (by simp; omega) _).setCell (p := ⟨W.heap.size + 1 + 1,2,none⟩) (by simp; omega) _).setCell (p := ⟨W.heap.size + 1 + 1,3,none⟩) (by simp; omega) _).setCell (p := ⟨W.heap.size + 1 + 1,4,none⟩) (by simp; omega) _).setCell (p := ⟨W.heap.size + 1 + 1,5,none⟩) (by simp; omega) _).setCell (p := ⟨W.heap.size + 1 + 1,6,none⟩) (by simp; omega) _).setCell (p := ⟨W.heap.size + 1 + 1,7,none⟩) (by simp; omega) _).setCell (p := ⟨W.heap.size + 1 + 1,8,none⟩) (by simp; omega) _).setCell (p := ⟨W.heap.size + 1 + 1,9,none⟩) (by simp; omega) _).setCell (p := ⟨W.heap.size + 1 + 1,10,none⟩) (by simp; omega) _).setCell (p := ⟨W.heap.size + 1 + 1,11,none⟩) (by simp; omega) _).setCell (p := ⟨W.heap.size + 1 + 1,12,none⟩) (by simp; omega) _)

end Go.Proofs.YtlekfcehmlepkaaGreatDoor
