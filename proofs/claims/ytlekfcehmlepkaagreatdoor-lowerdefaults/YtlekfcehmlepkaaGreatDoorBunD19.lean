/- Put together by a program out of these texts of mine: POf. -/
import Derived.Maps.AppendAt
import Derived.Test.YtlekfcehmlepkaaGreatDoorBunD8
import Derived.Test.YtlekfcehmlepkaaGreatDoorBunD16
import Derived.Test.YtlekfcehmlepkaaGreatDoorBunD18

namespace Go.Proofs.YtlekfcehmlepkaaGreatDoor
open Go.RowKit
set_option linter.unusedVariables false
set_option linter.unusedSimpArgs false

def Nos (w : World) (base : Nat) (v : Value) (ts : List Tn) : Prop := w.ownsRow base 28 8 v ts.length (ts.flatMap Tn.cells)

theorem Nl.nos {w : World} {base : Nat} {v : Value} {us : List Tn} (h : Nl w base v us) : Nos w base v us := by
 refine ⟨flat8_len us,?_⟩
 rcases h with ⟨rfl,rfl⟩ | ⟨g,rfl,h2,h3,h4,h5⟩
 ·exact .inl ⟨rfl,rfl⟩
 ·refine .inr ⟨g,us.length,_,rfl,h2,h4,Nat.le_refl _,by unfold maxLen; omega,by rw [List.size_toArray,flat8_len],?_⟩
  simp only [List.toList_toArray]
  rw [List.take_of_length_le (by rw [flat8_len]; omega)]

theorem Nl.all {w : World} {base : Nat} {v : Value} {us : List Tn} (h : Nl w base v us) : ∀ u ∈ us,TnOk w u := by
 rcases h with ⟨_,rfl⟩ | ⟨g,_,h2,h3,h4,h5⟩
 ·intro u hu; cases hu
 ·exact fun u hu => (h5 u hu).1

theorem Nos.kl {w : World} {base : Nat} {v : Value} {ts : List Tn} (h : Nos w base v ts) (hn : ts.length ≤ 1000000) (hall : ∀ t ∈ ts,TnOk w t) : ∃ ad cap,v = .slice ad ts.length cap ∧ Kl w ad cap ts := by
 rcases h.2 with ⟨rfl,h0⟩ | ⟨g,cap,cur,rfl,h2,h3,h4,h5,h6,h7⟩
 ·refine ⟨none,0,by rw [h0],by omega,by omega,fun _ => rfl,fun hp => by omega,fun i t hi => hall t (List.mem_of_getElem? hi)⟩
 ·refine ⟨some ⟨g,0,none⟩,cap,rfl,by omega,h4,fun e => (by cases e),fun hp => ⟨g,0,rfl,one_lt h3,fun i t hi j u hj => ?_⟩,fun i t hi => hall t (List.mem_of_getElem? hi)⟩
  have hf := flat8c ts i t hi j u hj
  rw [← h7] at hf
  rw [Nat.zero_add]
  simp only [World.cell?,h3]
  have h8 : cur.toList[i * 8 + j]? = some u := by
   rw [List.getElem?_take] at hf
   split at hf
   ·exact hf
   ·cases hf
  simpa using h8

theorem wpList_append_nos {w : World} {ops : Array Oper} {rest : List Oper} {o : Oper} {f : Act} {Q : Exit → Act → World → Prop} (hgd : o.guard = none) (s x : Operand)
  (ho : o.op = .call { callee := .builtin .append,args := #[s,x],argTypes := #[26,26] }) (base : Nat) (v : Value) (ts : List Tn) (t : Tn) (b cap : Nat)
  (hs : f.eval s = v) (hx : f.eval x = .slice (some ⟨b,0,none⟩) 1 cap) (hown : Nos w base v ts)
  (hc : ∀ (j : Nat) (u : Value),t.cells[j]? = some u → w.cell? ⟨b,j,none⟩ = some u) (hn : ts.length + 1 ≤ 1000000) (hbase : base ≤ w.heap.size)
  (h : ∀ v' w',Nos w' base v' (ts ++ [t]) → Below base w w' → wpList Tryz.prog ops Q rest (f.put o.dst v') w') : wpList Tryz.prog ops Q (o :: rest) f w := by
 refine wpList_plain hgd fun K hK => ?_
 obtain ⟨i0,hi,hz0,hz1,hz2⟩ := info_parts Tryz.infoNode2
 obtain ⟨v',w',hrun,h1,h2,_,h3⟩ := run_append_own_at (P := Tryz.prog) w base 26 o.type 28 i0 _ 8 96 Tryz.underlying26 hi hz0 hz1 hz2 rfl (by decide) v ts.length _ hown ⟨b,0,none⟩ 1 cap t.cells (by simp [cells8])
  (fun j u hj => by
   have hp : (⟨b,0,none⟩ : Addr).add j = ⟨b,j,none⟩ := by unfold Addr.add; split <;> simp_all
   rw [hp]; exact hc j u hj)
  (fun u hu => by
   obtain ⟨_,_,_,_,_,_,_,_,_,_⟩ := t
   simp [Tn.cells] at hu
   rcases hu with rfl | rfl | rfl | rfl | rfl | rfl | rfl | rfl <;> rfl) (by unfold maxLen; omega) (by omega) hbase
 unfold Oper.wp
 simp [execOp,ho,resolve,invoke,builtin,hs,hx,hrun,Result.andThen]
 refine hK _ _ (h v' w' (by unfold Nos; simpa using h1) ((Below.refl _ _).grown h2 hbase (fun k hk => ?_)))
 exact (hown.lt k hk).1

set_option maxRecDepth 10000 in
set_option maxHeartbeats 4000000 in
theorem pof_any {w : World} {t : Tn} (h : TnOk w t) (hf : tfew t = true) (hd : tdeep t ≤ 64) (kind : Int) (hk : i64b kind) (W : World) (hT : Hid (TTab W)) (hB : Below w.heap.size w W) :
  Calls Tryz.prog 127 #[t.val,.int .i64 kind] W fun e W' => ∃ v us,e = .returned v ∧ Nos W' W.heap.size v us ∧ (∀ u ∈ us,TnOk W' u) ∧ tlikes us (t.kids.filter fun k => k.kind == kind) ∧ Below W.heap.size W W' := by
 have hnum := tfew_num hf
 have hdk : Hid (∀ k ∈ t.kids,tdeep k ≤ 64) := fun k hk => by
  obtain ⟨i,hi⟩ := List.getElem?_of_mem hk
  exact tdeep_kid hd hi
 replace h := h.under hB
 clear hB hT hf hd w
 obtain ⟨kd,text,n,m,a,pos,doc,ad,cap,kids⟩ := t
 have hkl : Kl W ad cap kids := h.kl
 rw [tnum,tbyt] at hnum
 have hfl := tnums_filter (fun k : Tn => k.kind == kind) kids
 have hlen := tnums_len kids
 have hflen : (kids.filter fun k => k.kind == kind).length ≤ kids.length := List.length_filter_le _ _
 obtain ⟨R,hR⟩ : ∃ R,R = kids.filter fun k => k.kind == kind := ⟨_,rfl⟩
 have hn1 : tnums R ≤ 65536 := by rw [hR]; omega
 have hb1 : tbyts R ≤ 2147483647 := by rw [hR]; omega
 have hkl400 : kids.length ≤ 400 := by have := tnums_pos kids; omega
 have HR : Hid (R = kids.filter fun k => k.kind == kind) := hR
 have hmem := hkl.hmem
 have HM : Hid _ := hmem
 have HAll : Hid (∀ t ∈ kids,TnOk W t) := fun t ht => by
  obtain ⟨i,hi⟩ := List.getElem?_of_mem ht
  exact hkl.hall i t hi
 have hk63 := hkl.hlen
 clear hkl h hmem hnum hfl hlen hflen hR
 show Calls Tryz.prog 127 #[.agg #[.int .i64 kd,.string (strOfNums text),.int .i64 n,.int .i64 m,.int .i64 a,.int .i64 pos,.string (strOfNums doc),.slice ad kids.length cap],.int .i64 kind] W _
 change Hid (∀ k ∈ kids,tdeep k ≤ 64) at hdk
 show Calls Tryz.prog _ _ _ (fun e W' => ∃ v us,e = .returned v ∧ Nos W' W.heap.size v us ∧ (∀ u ∈ us,TnOk W' u) ∧ tlikes us (kids.filter fun k => k.kind == kind) ∧ Below W.heap.size W W')
 have HBA : Hid (∀ T1 T2,Below W.heap.size W (W.alloc (.cells #[.int .i64 kd,.string T1,.int .i64 n,.int .i64 m,.int .i64 a,.int .i64 pos,.string T2,.slice ad kids.length cap] 28))) := fun _ _ => (Below.refl _ _).alloc (Nat.le_refl _) _
 generalize strOfNums text = T1
 generalize strOfNums doc = T2
 go_enter Tryz.func127,Tryz.ntmps127
 go_wp2
 go_loopw [5,12] (fun v c wr => ∃ (k q : Nat) (va : Option Addr) (vc : Nat),v = .slice va q vc ∧ c = .int .i64 (k : Int) ∧ k ≤ kids.length ∧ q ≤ k ∧ Hid (q = ((kids.take k).filter fun k => k.kind == kind).length) ∧ Hid (Nos wr W.heap.size (.slice va q vc) ((kids.take k).filter fun k => k.kind == kind)) ∧ Hid (Below W.heap.size W wr)) (fun _ c _ => kids.length - (intOf c).toNat)
 case atStart => exact ⟨0,0,none,0,rfl,rfl,by omega,by omega,rfl,World.ownsRow_nil _ _ _ _,HBA.out _ _⟩
 case round =>
  obtain ⟨k,q,va,vc,rfl,rfl,hk,hqk,HQ,HN,HBw⟩ := hrel
  by_cases hkl2 : k < kids.length
  ·obtain ⟨b,off,rfl,hlt,hc⟩ := HM.out (by omega)
   obtain ⟨⟨kd4,tx4,n4,m4,a4,p4,dc4,ad4,cap4,ks4⟩,hkid⟩ : ∃ t,kids[k]? = some t := ⟨kids[k]'hkl2,List.getElem?_eq_getElem hkl2⟩
   obtain ⟨c0,c1,c2,c3,c4,c5,c6,c7⟩ := kid_cells hlt HBw.out hc hkid
   have htk : kids.take (k + 1) = kids.take k ++ [.mk kd4 tx4 n4 m4 a4 p4 dc4 ad4 cap4 ks4] := by rw [List.take_add_one,hkid]; rfl
   by_cases hkk : kd4 = kind
   ·subst hkk
    have e1 : (kd4 == kd4) = true := by simp
    have hft : (kids.take (k + 1)).filter (fun k => k.kind == kd4) = ((kids.take k).filter fun k => k.kind == kd4) ++ [.mk kd4 tx4 n4 m4 a4 p4 dc4 ad4 cap4 ks4] := by
     rw [htk,List.filter_append]
     simp [Tn.kind]
    have HFt : Hid ((kids.take (k + 1)).filter (fun k => k.kind == kd4) = ((kids.take k).filter fun k => k.kind == kd4) ++ [.mk kd4 tx4 n4 m4 a4 p4 dc4 ad4 cap4 ks4]) := hft
    have hAA : ∀ (U4 V4 : ByteArray),Below wr.heap.size wr ((wr.alloc (.cells #[.int .i64 kd4,.string U4,.int .i64 n4,.int .i64 m4,.int .i64 a4,.int .i64 p4,.string V4,.slice ad4 ks4.length cap4] 28)).alloc (.cells #[.int .i64 kd4,.string U4,.int .i64 n4,.int .i64 m4,.int .i64 a4,.int .i64 p4,.string V4,.slice ad4 ks4.length cap4] 28)) := fun _ _ => ((Below.refl _ _).alloc (Nat.le_refl _) _).alloc (by simp only [World.size_alloc]; omega) _
    have hrow : ∀ (j : Nat) (u : Value),(Tn.mk kd4 tx4 n4 m4 a4 p4 dc4 ad4 cap4 ks4).cells[j]? = some u → ((wr.alloc (.cells #[.int .i64 kd4,.string (strOfNums tx4),.int .i64 n4,.int .i64 m4,.int .i64 a4,.int .i64 p4,.string (strOfNums dc4),.slice ad4 ks4.length cap4] 28)).alloc (.cells #[.int .i64 kd4,.string (strOfNums tx4),.int .i64 n4,.int .i64 m4,.int .i64 a4,.int .i64 p4,.string (strOfNums dc4),.slice ad4 ks4.length cap4] 28)).cell? ⟨wr.heap.size + 1,j,none⟩ = some u := fun j u hj => by
     refine cell_of_row (cs := #[.int .i64 kd4,.string (strOfNums tx4),.int .i64 n4,.int .i64 m4,.int .i64 a4,.int .i64 p4,.string (strOfNums dc4),.slice ad4 ks4.length cap4]) (t := 28) (alloc_at _ _ (by simp)) j u ?_
     simpa [Tn.cells] using hj
    have HRow : Hid _ := hrow
    have hNA : ∀ U4 V4,Nos ((wr.alloc (.cells #[.int .i64 kd4,.string U4,.int .i64 n4,.int .i64 m4,.int .i64 a4,.int .i64 p4,.string V4,.slice ad4 ks4.length cap4] 28)).alloc (.cells #[.int .i64 kd4,.string U4,.int .i64 n4,.int .i64 m4,.int .i64 a4,.int .i64 p4,.string V4,.slice ad4 ks4.length cap4] 28)) W.heap.size (.slice va q vc) ((kids.take k).filter fun k => k.kind == kd4) := fun U4 V4 => own_below HN.out (hAA U4 V4)
    have HNA := hNA (strOfNums tx4) (strOfNums dc4)
    have HNA2 : Hid _ := HNA
    have hql : ((kids.take k).filter fun k => k.kind == kd4).length + 1 ≤ 1000000 := by rw [← HQ.out]; omega
    have hBn : Below W.heap.size W ((wr.alloc (.cells #[.int .i64 kd4,.string (strOfNums tx4),.int .i64 n4,.int .i64 m4,.int .i64 a4,.int .i64 p4,.string (strOfNums dc4),.slice ad4 ks4.length cap4] 28)).alloc (.cells #[.int .i64 kd4,.string (strOfNums tx4),.int .i64 n4,.int .i64 m4,.int .i64 a4,.int .i64 p4,.string (strOfNums dc4),.slice ad4 ks4.length cap4] 28)) := HBw.out.trans ((hAA _ _).mono HBw.out.size)
    have hbase : W.heap.size ≤ ((wr.alloc (.cells #[.int .i64 kd4,.string (strOfNums tx4),.int .i64 n4,.int .i64 m4,.int .i64 a4,.int .i64 p4,.string (strOfNums dc4),.slice ad4 ks4.length cap4] 28)).alloc (.cells #[.int .i64 kd4,.string (strOfNums tx4),.int .i64 n4,.int .i64 m4,.int .i64 a4,.int .i64 p4,.string (strOfNums dc4),.slice ad4 ks4.length cap4] 28)).heap.size := hBn.size
    have HBn : Hid _ := hBn
    have HBs : Hid _ := hbase
    have HQl : Hid _ := hql
    have HQ2 : Hid (q + 1 = ((kids.take (k + 1)).filter fun k => k.kind == kd4).length) := by show _ = _; rw [hft,List.length_append,HQ.out]; rfl
  
    clear hft htk hAA hrow hNA HNA hql hBn hbase hc hkid HQ
    go_wp2_with (at_builtin; refine wpList_append_nos rfl _ _ rfl W.heap.size (.slice va q vc) ((kids.take k).filter fun k => k.kind == kd4) (.mk kd4 tx4 n4 m4 a4 p4 dc4 ad4 cap4 ks4) (wr.heap.size + 1) 1 rfl rfl HNA2.out HRow.out HQl.out HBs.out ?_; intro v' w9 hN9 hB9; rw [← HFt.out] at hN9; obtain ⟨va9,vc9,hv9⟩ := own_slice hN9; rw [← HQ2.out] at hv9; subst hv9; have HN9 : Hid _ := hN9; have HB9 : Hid (Below W.heap.size W w9) := HBn.out.trans hB9; clear hN9 hB9 HNA2 HRow HQl HBs HBn HN HBw)
    go_roundw
    case rel => first | exact ⟨k + 1,q + 1,va9,vc9,rfl,by go_num,by omega,by omega,HQ2,HN9,HB9⟩ | ((repeat apply Exists.intro); exact ⟨⟨k + 1,q + 1,va9,vc9,rfl,by go_num,by omega,by omega,HQ2,HN9,HB9⟩,rfl⟩)
    case measure => simp [intOf]; omega
   ·have e1 : (kd4 == kind) = false := by simpa using hkk
    have hft : (kids.take (k + 1)).filter (fun k => k.kind == kind) = (kids.take k).filter fun k => k.kind == kind := by
     rw [htk,List.filter_append]
     simp [Tn.kind,hkk]
    have hA : Below wr.heap.size wr (wr.alloc (.cells #[.int .i64 kd4,.string (strOfNums tx4),.int .i64 n4,.int .i64 m4,.int .i64 a4,.int .i64 p4,.string (strOfNums dc4),.slice ad4 ks4.length cap4] 28)) := (Below.refl _ _).alloc (Nat.le_refl _) _
    have HN2 : Hid (Nos (wr.alloc (.cells #[.int .i64 kd4,.string (strOfNums tx4),.int .i64 n4,.int .i64 m4,.int .i64 a4,.int .i64 p4,.string (strOfNums dc4),.slice ad4 ks4.length cap4] 28)) W.heap.size (.slice va q vc) ((kids.take (k + 1)).filter fun k => k.kind == kind)) := by
     show Nos _ _ _ _
     rw [hft]
     exact own_below HN.out hA
    have HBn : Hid (Below W.heap.size W (wr.alloc (.cells #[.int .i64 kd4,.string (strOfNums tx4),.int .i64 n4,.int .i64 m4,.int .i64 a4,.int .i64 p4,.string (strOfNums dc4),.slice ad4 ks4.length cap4] 28))) := HBw.out.trans (hA.mono HBw.out.size)
    have HQ2 : Hid (q = ((kids.take (k + 1)).filter fun k => k.kind == kind).length) := by show _ = _; rw [hft]; exact HQ.out
    clear hft htk hA hc hkid HQ hkk HN HBw
    generalize strOfNums tx4 = U4 at *
    generalize strOfNums dc4 = V4 at *
    go_wp2
    go_roundw
    case rel => first | exact ⟨k + 1,q,va,vc,rfl,by go_num,by omega,by omega,HQ2,HN2,HBn⟩ | ((repeat apply Exists.intro); exact ⟨⟨k + 1,q,va,vc,rfl,by go_num,by omega,by omega,HQ2,HN2,HBn⟩,rfl⟩)
    case measure => simp [intOf]; omega
  ·obtain rfl : k = kids.length := by omega
   have hN := HN.out
   have hQ := HQ.out
   rw [List.take_length,← HR.out] at hN hQ
   subst hQ
   have hallR : ∀ t ∈ R,TnOk wr t := fun t ht => by
    rw [HR.out] at ht
    exact (HAll.out t ((List.mem_filter.1 ht).1)).under HBw.out
   obtain ⟨ad9,cap9,hv9,hk9⟩ := hN.kl (by omega) hallR
   simp only [Value.slice.injEq,true_and] at hv9
   obtain ⟨rfl,rfl⟩ := hv9
   have Q1 : Hid _ := pbounded_any hk9 hb1 hn1
   have HK9 : Hid _ := hk9
   clear HN HQ hN hk9 hallR HM HAll
   go_wp2_with fail
   refine Calls.mono Q1.out ?_
   rintro e w2 ⟨rfl,h2⟩
   have Q2 : Hid _ := pcopied_any (HK9.out.under h2) hn1 hb1
   have HB2 : Hid (Below W.heap.size W w2) := HBw.out.trans (h2.mono HBw.out.size)
   clear h2 Q1 HK9 HBw
   go_wp2_with fail
   refine Calls.mono Q2.out ?_
   rintro e w3 ⟨v,us,rfl,h3,h4,h5⟩
   have H3 : Hid _ := And.intro h3 (And.intro h4 h5)
   clear h3 h4 h5
   go_wp2
   go_ret
   obtain ⟨h3,h4,h5⟩ := H3.out
   refine ⟨v,us,rfl,(h3.low HB2.out.size).nos,h3.all,?_,HB2.out.trans (h5.mono HB2.out.size)⟩
   rw [← HR.out]
   refine bares_likes us R h4 (fun t ht => ?_)
   rw [HR.out] at ht
   exact hdk.out t ((List.mem_filter.1 ht).1)

end Go.Proofs.YtlekfcehmlepkaaGreatDoor
