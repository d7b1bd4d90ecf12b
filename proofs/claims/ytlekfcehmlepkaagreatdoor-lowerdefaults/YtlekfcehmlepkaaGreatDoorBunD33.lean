/- Put together by a program out of these texts of mine: SFile, SEx. -/
import Derived.Test.YtlekfcehmlepkaaGreatDoorBunD32

namespace Go.Proofs.YtlekfcehmlepkaaGreatDoor
open Go.RowKit
set_option linter.unusedVariables false
set_option linter.unusedSimpArgs false

def Tk.tq2 (t : Tk) : Tq := ⟨t.kind,t.text,t.n,(t.pos : Int),t.doc⟩

def gfile (s : List Int) : Pn × Int × Int := if (lscan s).2.2 ≠ 0 then (pnil,(lscan s).2.1,(lscan s).2.2) else gtokens ((lscan s).1.map Tk.tq2)

theorem gsum_map : ∀ l : List Tk,gsum (l.map Tk.tq2) = tsum l
 | [] => rfl
 | t :: r => by rw [List.map_cons,gsum,tsum,gsum_map r]; rfl

theorem Ts.tqs {w : World} {a : Option Addr} {len cap : Nat} {l : List Tk} {n : Nat} (h : Ts w a len cap l) (hok : ∀ t ∈ l,t.ok) (hf : ∀ t ∈ l,TkFit n t) (hs : tsum l ≤ 90000) (hn : n ≤ 2500) (hln : len ≤ 1000000) : Tqs w w.heap.size a len cap (l.map Tk.tq2) := by
 obtain ⟨h1,h2,h3,h4,h5⟩ := h
 refine ⟨by rw [List.length_map]; exact h1,by omega,h2,h3,⟨fun t ht => ?_,by rw [gsum_map]; exact hs⟩,fun hp => ?_⟩
 ·obtain ⟨u,hu,rfl⟩ := List.mem_map.1 ht
  obtain ⟨f1,f2,f3,f4,f5,f6⟩ := hf u hu
  obtain ⟨o1,o2⟩ := hok u hu
  exact ⟨by unfold i64b; show -9223372036854775808 ≤ u.kind ∧ u.kind ≤ 9223372036854775807; omega,o1,⟨f5,f6⟩,by unfold i64b; show -9223372036854775808 ≤ (u.pos : Int) ∧ (u.pos : Int) ≤ 9223372036854775807; omega,o2,by show u.text.length ≤ 5000; omega,by show u.doc.length ≤ 1000000; omega⟩
 ·obtain ⟨b,off,e,hlt,hc⟩ := h5 hp
  refine ⟨b,off,e,hlt,hlt,fun i t hi j v hj => ?_⟩
  rw [List.getElem?_map,Option.map_eq_some_iff] at hi
  obtain ⟨u,hu,rfl⟩ := hi
  obtain ⟨c0,c1,c2,c3,c4⟩ := hc i u hu
  match j,hj with
  | 0,hj => simp only [Tk.tq2,Tq.cells,List.getElem?_cons_zero,Option.some.injEq] at hj; rw [← hj]; exact c0
  | 1,hj => simp only [Tk.tq2,Tq.cells,List.getElem?_cons_succ,List.getElem?_cons_zero,Option.some.injEq] at hj; rw [← hj]; exact c1
  | 2,hj => simp only [Tk.tq2,Tq.cells,List.getElem?_cons_succ,List.getElem?_cons_zero,Option.some.injEq] at hj; rw [← hj]; exact c2
  | 3,hj => simp only [Tk.tq2,Tq.cells,List.getElem?_cons_succ,List.getElem?_cons_zero,Option.some.injEq] at hj; rw [← hj]; exact c3
  | 4,hj => simp only [Tk.tq2,Tq.cells,List.getElem?_cons_succ,List.getElem?_cons_zero,Option.some.injEq] at hj; rw [← hj]; exact c4
  | j + 5,hj => simp [Tk.tq2,Tq.cells] at hj

theorem fin_tok {w W : World} {t : Tn} {act : Act} {m : Pn × Int × Int} {a0 a1 a2 a3 a4 a5 a6 a7 : Value} (ht : TnOk W t) (hb : ∀ b ∈ t.blocks,w.heap.size < b ∧ b < W.heap.size) (hB : Below w.heap.size w W) (HRb : W.heap[w.heap.size]? = some (.cells #[a0,a1,a2,a3,a4,a5,a6,a7] 28 (0,0)))
  (x0 x1 x2 x3 x4 x5 x6 x7 : Value) (hx : t.cells = [x0,x1,x2,x3,x4,x5,x6,x7]) {fn : Func} (hres : fn.results = #[.cell 2 28,.tmp 3,.tmp 4]) (hp : act.tmps.getD 2 undef = .pointer (some ⟨w.heap.size,0,none⟩)) (hd : act.defers = []) (hm : t.plain = m.1 ∧ act.tmps.getD 3 undef = .int .i64 m.2.1 ∧ act.tmps.getD 4 undef = .int .i64 m.2.2) :
  bodyPost Tryz.prog fn (TokRet w m) .ret act ((((((((W.setCell ⟨w.heap.size,0,none⟩ x0).setCell ⟨w.heap.size,1,none⟩ x1).setCell ⟨w.heap.size,2,none⟩ x2).setCell ⟨w.heap.size,3,none⟩ x3).setCell ⟨w.heap.size,4,none⟩ x4).setCell ⟨w.heap.size,5,none⟩ x5).setCell ⟨w.heap.size,6,none⟩ x6).setCell ⟨w.heap.size,7,none⟩ x7) := by
 have hh := eight_put HRb x0 x1 x2 x3 x4 x5 x6 x7
 have hown := eight_own W w.heap.size x0 x1 x2 x3 x4 x5 x6 x7
 refine nd3_ret hres w.heap.size _ _ _ _ _ _ _ _ hp hh hd ⟨t,by rw [Tn.val,hx,hm.2.1,hm.2.2],hm.1,ht.moved hown (fun b hbb e => ?_),fun b hbb => ⟨?_,?_⟩,?_⟩
 ·simp only [Option.some.injEq] at e
  have := (hb b hbb).1
  omega
 ·have := (hb b hbb).1
  omega
 ·simp only [set_size]
  exact (hb b hbb).2
 ·exact ⟨hown.os.trans hB.os,hown.tape.trans hB.tape,hown.output.trans hB.output,Nat.le_trans hB.size hown.size,fun k hk => (hown.block k (Nat.lt_of_lt_of_le hk hB.size) (by simp; omega)).trans (hB.block k hk)⟩

set_option maxHeartbeats 4000000 in
theorem rgfile_any0 (s : List Int) (HSim : Hid (Sim ((lscan s).1.map Tk.tq2))) (w : World) (hz : Hid (∀ i,0 ≤ s.getD i 0 ∧ s.getD i 0 ≤ 255)) (hlen : s.length ≤ 2500) :
  Calls Tryz.prog 14 #[.string (strOfNums s)] w (TokRet w (gfile s)) := by
 have HB0 : Hid (Below w.heap.size w (w.alloc (.cells #[.int .i64 0,.string { data := #[] },.int .i64 0,.int .i64 0,.int .i64 0,.int .i64 0,.string { data := #[] },.slice none 0 0] 28))) := (Below.refl _ _).alloc (Nat.le_refl _) _
 have HR0 : Hid ((w.alloc (.cells #[.int .i64 0,.string { data := #[] },.int .i64 0,.int .i64 0,.int .i64 0,.int .i64 0,.string { data := #[] },.slice none 0 0] 28)).heap[w.heap.size]? = some (.cells #[.int .i64 0,.string { data := #[] },.int .i64 0,.int .i64 0,.int .i64 0,.int .i64 0,.string { data := #[] },.slice none 0 0] 28 (0,0))) := heap_alloc_new w _
 have QS : Hid _ := rscan_any s (w.alloc (.cells #[.int .i64 0,.string { data := #[] },.int .i64 0,.int .i64 0,.int .i64 0,.int .i64 0,.string { data := #[] },.slice none 0 0] 28)) hz (by omega)
 obtain ⟨hfit,hsum⟩ := lscan_fit s
 have HFit : Hid _ := hfit
 have HSum : Hid (tsum (lscan s).1 ≤ 90000) := by show _ ≤ _; omega
 have HLl : Hid ((lscan s).1.length ≤ 1000000) := by show _ ≤ _; have := lscan_len s; omega
 have HN : Hid (s.length ≤ 2500) := hlen
 generalize strOfNums s = T at *
 by_cases he : (lscan s).2.2 = 0
 ·obtain ⟨out,d,hR,hK⟩ := lscan_kinds s he
  have HG : Hid (gfile s = gtokens ((lscan s).1.map Tk.tq2)) := by show _ = _; unfold gfile; rw [if_neg (by simpa using he)]
  have HL0 : Hid (0 < (lscan s).1.length) := by show 0 < _; rw [hR]; simp
  have HLk : Hid ((((lscan s).1.map Tk.tq2).getD ((lscan s).1.length - 1) Tq.none).kind = 0) := by
   show _ = _
   rw [hR]
   simp [List.getD,Tk.tq2]
  rw [HG.out]
  obtain ⟨R,hRR⟩ : ∃ R,R = lscan s := ⟨_,rfl⟩
  rw [← hRR] at HSim QS HFit HSum HLl HL0 HLk he ⊢
  clear hRR hR hK hfit hsum hlen
  obtain ⟨l,p,e9⟩ := R
  simp only at HSim he HFit HSum HLl HL0 HLk ⊢
  subst he
  go_enter Tryz.func14,Tryz.ntmps14
  go_wp2_with fail
  refine Calls.mono QS.out ?_
  rintro e w1 ⟨v,rfl,hto,hb1⟩
  have HB1 : Hid (Below w.heap.size w w1) := HB0.out.trans (hb1.mono HB0.out.size)
  have HR1 : Hid (w1.heap[w.heap.size]? = some (.cells #[.int .i64 0,.string { data := #[] },.int .i64 0,.int .i64 0,.int .i64 0,.int .i64 0,.string { data := #[] },.slice none 0 0] 28 (0,0))) := (hb1.block _ (by simp)).trans HR0.out
  obtain ⟨a2',c2',rfl⟩ := hto.slice
  have HTq : Hid (Tqs w1 w1.heap.size a2' l.length c2' (l.map Tk.tq2)) := (Ts.of_own hto).tqs hto.2 HFit.out HSum.out HN.out HLl.out
  have QT : Hid _ := rgtokens_any0 HSim HTq HL0.out HLk.out
  have hs1 : w.heap.size < w1.heap.size := (Array.getElem?_eq_some_iff.1 HR1.out).1
  clear hto hb1
  go_wp2_with fail
  refine Calls.mono QT.out ?_
  rintro e w2 ⟨t,rfl,htp,htk,htb,hb2⟩
  have HB2 : Hid (Below w.heap.size w w2) := HB1.out.trans (hb2.mono HB1.out.size)
  have HR2 : Hid (w2.heap[w.heap.size]? = some (.cells #[.int .i64 0,.string { data := #[] },.int .i64 0,.int .i64 0,.int .i64 0,.int .i64 0,.string { data := #[] },.slice none 0 0] 28 (0,0))) := (hb2.block _ hs1).trans HR1.out
  have hs2 : w.heap.size < w2.heap.size := (Array.getElem?_eq_some_iff.1 HR2.out).1
  have HTP : Hid (t.plain = (gtokens (l.map Tk.tq2)).1) := htp
  have HTK : Hid (TnOk w2 t) := htk
  have HTB : Hid (∀ b ∈ t.blocks,w.heap.size < b ∧ b < w2.heap.size) := fun b hb => ⟨by have := (htb b hb).1; omega,(htb b hb).2⟩
  clear htp htk htb hb2
  obtain ⟨⟨r0,r1,r2,r3,r4,r5,r6,r7⟩,u0,u1,u2,u3,u4,u5,u6,u7⟩ := eight_cells (HR2.out)
  obtain ⟨k2,tx2,n2,m2,a2,p2,dc2,ad2,cap2,ks2⟩ := t
  simp only [Tn.val,Tn.cells]
  obtain ⟨X2,hX2⟩ : ∃ X2,X2 = strOfNums tx2 := ⟨_,rfl⟩
  obtain ⟨D2,hD2⟩ : ∃ D2,D2 = strOfNums dc2 := ⟨_,rfl⟩
  rw [← hX2,← hD2]
  have HX2 : Hid (X2 = strOfNums tx2) := hX2
  have HD2 : Hid (D2 = strOfNums dc2) := hD2
  clear hX2 hD2
  obtain ⟨M,hM⟩ : ∃ M,M = gtokens (l.map Tk.tq2) := ⟨_,rfl⟩
  rw [← hM] at HTP ⊢
  have HM0 : Hid (M = gtokens (l.map Tk.tq2)) := hM
  clear hM
  obtain ⟨M1,M2,M3⟩ := M
  simp only
  go_wp2
  rw [← HM0.out]
  refine fin_tok (m := (M1,M2,M3)) HTK.out HTB.out HB2.out HR2.out (.int .i64 k2) (.string X2) (.int .i64 n2) (.int .i64 m2) (.int .i64 a2) (.int .i64 p2) (.string D2) (.slice ad2 ks2.length cap2) (by rw [Tn.cells,HX2.out,HD2.out]) rfl ?_ ?_ ?_
  ·rfl
  ·rfl
  ·exact ⟨HTP.out,rfl,rfl⟩
 ·have HG : Hid (gfile s = (pnil,(lscan s).2.1,(lscan s).2.2)) := by show _ = _; unfold gfile; rw [if_pos (by simpa using he)]
  rw [HG.out]
  obtain ⟨R,hRR⟩ : ∃ R,R = lscan s := ⟨_,rfl⟩
  rw [← hRR] at HSim QS he ⊢
  clear hRR HG HFit HSum HLl hfit hsum hlen
  obtain ⟨l,p,e9⟩ := R
  simp only at he ⊢
  have e1 : (e9 != 0) = true := by simpa using he
  clear he
  go_enter Tryz.func14,Tryz.ntmps14
  go_wp2_with fail
  refine Calls.mono QS.out ?_
  rintro e w1 ⟨v,rfl,hto,hb1⟩
  have HB1 : Hid (Below w.heap.size w w1) := HB0.out.trans (hb1.mono HB0.out.size)
  have HR1 : Hid (w1.heap[w.heap.size]? = some (.cells #[.int .i64 0,.string { data := #[] },.int .i64 0,.int .i64 0,.int .i64 0,.int .i64 0,.string { data := #[] },.slice none 0 0] 28 (0,0))) := (hb1.block _ (by simp)).trans HR0.out
  have hs1 : w.heap.size < w1.heap.size := (Array.getElem?_eq_some_iff.1 HR1.out).1
  obtain ⟨a2',c2',rfl⟩ := hto.slice
  obtain ⟨⟨r0,r1,r2,r3,r4,r5,r6,r7⟩,u0,u1,u2,u3,u4,u5,u6,u7⟩ := eight_cells (HR1.out)
  clear hto hb1
  go_wp2
  refine fin_tok (m := (pnil,p,e9)) (t := .mk 0 [] 0 0 0 0 [] none 0 []) (leaf_ok _ (by unfold i64b; omega) (fun c hc => by simp at hc) (by simp) (by unfold i64b; omega)) (fun b hb => by simp [Tn.blocks,blocksL] at hb) HB1.out HR1.out (.int .i64 0) (.string { data := #[] }) (.int .i64 0) (.int .i64 0) (.int .i64 0) (.int .i64 0) (.string { data := #[] }) (.slice none 0 0) rfl rfl ?_ ?_ ?_
  ·rfl
  ·rfl
  ·exact ⟨rfl,rfl,rfl⟩

def srcA : List Int := [109,101,115,115,97,103,101,32,65,32,123,32,111,112,116,105,111,110,97,108,32,105,110,116,51,50,32,98,32,61,32,49,59,32,125]

theorem gfile_a : gfile srcA = (.mk 1 [] 0 0 0 0 [] [.mk 5 [65] 0 0 0 0 [] [.mk 9 [98] 1 0 1 12 [] [.mk 18 [105,110,116,51,50] 0 0 0 21 [] []]]],0,0) := by kernel_rfl

theorem sim_a : Sim ((lscan srcA).1.map Tk.tq2) := Sim.of (by kernel_rfl)

end Go.Proofs.YtlekfcehmlepkaaGreatDoor
