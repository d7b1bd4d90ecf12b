/- Put together by a program out of these texts of mine: SSx. -/
import Derived.Test.YtlekfcehmlepkaaGreatDoorBunD23

namespace Go.Proofs.YtlekfcehmlepkaaGreatDoor
open Go.RowKit
set_option linter.unusedVariables false
set_option linter.unusedSimpArgs false

def From (w : World) (v0 : Value) (ks0 : List Tn) (b : Nat) : Prop := v0.ownBlock = some b ∨ b ∈ blocksL ks0 ∨ w.heap.size ≤ b

structure G2 (w W : World) (g : Nat) (v0 : Value) : Prop where
 os : W.os = w.os
 tape : W.tape = w.tape
 output : W.output = w.output
 size : w.heap.size ≤ W.heap.size
 block : ∀ k,k < w.heap.size → k ≠ g → v0.ownBlock ≠ some k → W.heap[k]? = w.heap[k]?

theorem G2.refl (w : World) (g : Nat) (v0 : Value) : G2 w w g v0 := ⟨rfl,rfl,rfl,Nat.le_refl _,fun _ _ _ _ => rfl⟩

theorem G2.step {w W W' : World} {g : Nat} {v0 : Value} {row : Option Nat} (h : G2 w W g v0) (hg : W.grownBy W' row) (hr : ∀ r,row = some r → r = g ∨ v0.ownBlock = some r ∨ w.heap.size ≤ r) : G2 w W' g v0 :=
 ⟨hg.os.trans h.os,hg.tape.trans h.tape,hg.output.trans h.output,Nat.le_trans h.size hg.size,fun k hk hne hv => (hg.block k (Nat.lt_of_lt_of_le hk h.size) (fun e => by rcases hr k e.symm with e | e | e <;> first | exact absurd e hne | exact absurd e hv | omega)).trans (h.block k hk hne hv)⟩

theorem G2.grown {w W : World} {g : Nat} (h : G2 w W g (.slice none 0 0)) : w.grownBy W (some g) := ⟨h.os,h.tape,h.output,h.size,fun k hk hne => h.block k hk (fun e => hne (by rw [e])) (by simp [Value.ownBlock])⟩

theorem Gm.row {W W' : World} {g : Nat} {a : Option Addr} {len cap : Nat} {ts : List Tq} {s : Gs} {row : Option Nat} (h : Gm W g a len cap ts s) (hg : W.grownBy W' row) (hr : ∀ r,row = some r → g < r) : Gm W' g a len cap ts s := by
 refine ⟨(hg.block g h.blk.size (fun e => by have := hr g e.symm; omega)).trans h.blk,?_,h.lt,h.last,h.op0,h.op1,h.pa,h.e0,h.e1,h.n⟩
 obtain ⟨h1,h2,h3,h4,h5,h6⟩ := h.tok
 refine ⟨h1,h2,h3,h4,h5,fun hp => ?_⟩
 obtain ⟨b,off,rfl,hlt,hne,hc⟩ := h6 hp
 exact ⟨b,off,rfl,Nat.lt_of_lt_of_le hlt hg.size,hne,fun i t hi j u hj => (World.cell?_of_block (hg.block b hlt (fun e => by have := hr b e.symm; omega))).trans (hc i t hi j u hj)⟩

theorem wpList_append_nd2 {w : World} {ops : Array Oper} {rest : List Oper} {o : Oper} {f : Act} {Q : Exit → Act → World → Prop} (hgd : o.guard = none) (s x : Operand)
  (ho : o.op = .call { callee := .builtin .append,args := #[s,x],argTypes := #[26,26] }) (base : Nat) (v : Value) (ts : List Tn) (t : Tn) (b cap : Nat)
  (hs : f.eval s = v) (hx : f.eval x = .slice (some ⟨b,0,none⟩) 1 cap) (hown : Ns w base v ts) (ht : TnOk w t) (hb : ∀ bb ∈ t.blocks,base ≤ bb ∧ bb < w.heap.size ∧ v.ownBlock ≠ some bb)
  (hc : ∀ (j : Nat) (u : Value),t.cells[j]? = some u → w.cell? ⟨b,j,none⟩ = some u) (hn : ts.length + 1 ≤ 2000000) (hbase : base ≤ w.heap.size)
  (h : ∀ v' w',Ns w' base v' (ts ++ [t]) → w.grownBy w' v.ownBlock → (v'.ownBlock = v.ownBlock ∨ v'.ownBlock = some w.heap.size) → wpList Tryz.prog ops Q rest (f.put o.dst v') w') : wpList Tryz.prog ops Q (o :: rest) f w := by
 refine wpList_plain hgd fun K hK => ?_
 obtain ⟨i0,hi,hz0,hz1,hz2⟩ := info_parts Tryz.infoNode
 obtain ⟨v',w',hrun,h1,h2,_,h3⟩ := run_append_own_at (P := Tryz.prog) w base 26 o.type 28 i0 _ 8 96 Tryz.underlying26 hi hz0 hz1 hz2 rfl (by decide) v ts.length _ hown.1 ⟨b,0,none⟩ 1 cap t.cells (by simp [cells8])
  (fun j u hj => by
   have hp : (⟨b,0,none⟩ : Addr).add j = ⟨b,j,none⟩ := by unfold Addr.add; split <;> simp_all
   rw [hp]; exact hc j u hj)
  (fun u hu => by
   obtain ⟨_,_,_,_,_,_,_,_,_,_⟩ := t
   simp [Tn.cells] at hu
   rcases hu with rfl | rfl | rfl | rfl | rfl | rfl | rfl | rfl <;> rfl) (by unfold maxLen; omega) (by omega) hbase
 unfold Oper.wp
 simp [execOp,ho,resolve,invoke,builtin,hs,hx,hrun,Result.andThen]
 exact hK _ _ (h v' w' (hown.push ht hb (by simpa using h1) h2 h3) h2 h3)

structure Sx (w : World) (g : Nat) (a : Option Addr) (len cap : Nat) (ts : List Tq) (base : Nat) (v0 : Value) (ks0 : List Tn) (W : World) (s : Gs) (B : List (Nat × Array Value)) (v : Value) (ks us : List Tn) : Prop where
 gb : g < base
 bw : base ≤ w.heap.size
 gm : Gm W g a len cap ts s
 fr : G2 w W g v0
 bl : ∀ p ∈ B,w.heap.size ≤ p.1 ∧ W.heap[p.1]? = some (.cells p.2 28 (0,0))
 nd : (B.map Prod.fst).Nodup
 ns : Ns W base v ks
 ov : ∀ b,v.ownBlock = some b → (v0.ownBlock = some b ∨ w.heap.size ≤ b) ∧ ∀ p ∈ B,p.1 ≠ b
 kb : ∀ b ∈ blocksL ks,From w v0 ks0 b ∧ ∀ p ∈ B,p.1 ≠ b
 ut : ∀ t ∈ us,TnOk W t ∧ ∀ b ∈ t.blocks,base ≤ b ∧ b < W.heap.size ∧ From w v0 ks0 b ∧ (∀ p ∈ B,p.1 ≠ b) ∧ v.ownBlock ≠ some b

section
variable {w : World} {g : Nat} {a : Option Addr} {len cap : Nat} {ts : List Tq} {base : Nat} {v0 : Value} {ks0 : List Tn} {W W' : World} {s s' : Gs} {B : List (Nat × Array Value)} {v : Value} {ks us : List Tn}

theorem Sx.kids (S : Sx w g a len cap ts base v0 ks0 W s B v ks us) : ∀ b ∈ blocksL ks,base ≤ b ∧ b < W.heap.size ∧ v.ownBlock ≠ some b := blocksL_all (fun t ht b hb => (S.ns.2 t ht).2 b hb)

theorem Sx.lt (S : Sx w g a len cap ts base v0 ks0 W s B v ks us) : ∀ p ∈ B,p.1 < W.heap.size := fun p hp => (Array.getElem?_eq_some_iff.1 (S.bl p hp).2).1

theorem Sx.moved (S : Sx w g a len cap ts base v0 ks0 W s B v ks us) {row : Option Nat} (hg : W.grownBy W' row) (hr : ∀ r,row = some r → r < base) (hr2 : ∀ r,row = some r → r = g) (H : Gm W' g a len cap ts s') : Sx w g a len cap ts base v0 ks0 W' s' B v ks us where
 gb := S.gb
 bw := S.bw
 gm := H
 fr := S.fr.step hg (fun r h => .inl (hr2 r h))
 bl := fun p hp => ⟨(S.bl p hp).1,blk_app hg (S.bl p hp).2 (fun e => by have := hr _ e; have := (S.bl p hp).1; have := S.bw; omega)⟩
 nd := S.nd
 ns := S.ns.grown hg hr
 ov := S.ov
 kb := S.kb
 ut := fun t ht => ⟨(S.ut t ht).1.moved hg (fun b hb e => by have := hr _ e; have := ((S.ut t ht).2 b hb).1; omega),fun b hb => by obtain ⟨h1,h2,h3⟩ := (S.ut t ht).2 b hb; exact ⟨h1,Nat.lt_of_lt_of_le h2 hg.size,h3⟩⟩

theorem Sx.call (S : Sx w g a len cap ts base v0 ks0 W s B v ks us) (hg : W.grownBy W' (some g)) (H : Gm W' g a len cap ts s') : Sx w g a len cap ts base v0 ks0 W' s' B v ks us :=
 S.moved hg (fun r h => by have := S.gb; simp only [Option.some.injEq] at h; omega) (fun r h => by simp only [Option.some.injEq] at h; omega) H

theorem Sx.free (S : Sx w g a len cap ts base v0 ks0 W s B v ks us) (hg : W.grownBy W' none) : Sx w g a len cap ts base v0 ks0 W' s B v ks us :=
 S.moved hg (fun r h => by simp at h) (fun r h => by simp at h) (S.gm.row hg (fun r h => by simp at h))

theorem Sx.below (S : Sx w g a len cap ts base v0 ks0 W s B v ks us) (hb : Below W.heap.size W W') : Sx w g a len cap ts base v0 ks0 W' s B v ks us := S.free (grown_of hb)

theorem Sx.drew (S : Sx w g a len cap ts base v0 ks0 W s B v ks us) (n : Nat) : Sx w g a len cap ts base v0 ks0 (W.drewN n) s B v ks us := S.free (grown_drew (grown_of (Below.refl _ _)) n)

theorem Sx.alloc (S : Sx w g a len cap ts base v0 ks0 W s B v ks us) (c : Array Value) : Sx w g a len cap ts base v0 ks0 (W.alloc (.cells c 28)) s ((W.heap.size,c) :: B) v ks us := by
 have T := S.free (World.grownBy_alloc W (.cells c 28) none)
 have hsz : W.heap.size < (W.alloc (.cells c 28)).heap.size := by simp
 refine ⟨T.gb,T.bw,T.gm,T.fr,?_,?_,T.ns,?_,?_,?_⟩
 ·intro p hp
  rcases List.mem_cons.1 hp with rfl | hp
  ·exact ⟨S.fr.size,heap_alloc_new W _⟩
  ·exact T.bl p hp
 ·simp only [List.map_cons,List.nodup_cons]
  refine ⟨fun h => ?_,S.nd⟩
  obtain ⟨p,hp,e⟩ := List.mem_map.1 h
  have := S.lt p hp
  omega
 ·intro b hb
  refine ⟨(S.ov b hb).1,fun p hp => ?_⟩
  rcases List.mem_cons.1 hp with rfl | hp
  ·have := (S.ns.1.lt b hb).2; simp only; omega
  ·exact (S.ov b hb).2 p hp
 ·intro b hb
  refine ⟨(S.kb b hb).1,fun p hp => ?_⟩
  rcases List.mem_cons.1 hp with rfl | hp
  ·have := (S.kids b hb).2.1; simp only; omega
  ·exact (S.kb b hb).2 p hp
 ·intro t ht
  refine ⟨(T.ut t ht).1,fun b hb => ?_⟩
  obtain ⟨h1,h2,h3,h4,h5⟩ := (S.ut t ht).2 b hb
  refine ⟨h1,by omega,h3,fun p hp => ?_,h5⟩
  rcases List.mem_cons.1 hp with rfl | hp
  ·simp only; omega
  ·exact h4 p hp

theorem Sx.allocAt (S : Sx w g a len cap ts base v0 ks0 W s B v ks us) (c : Array Value) (b : Nat) (hb : W.heap.size = b) : Sx w g a len cap ts base v0 ks0 (W.alloc (.cells c 28)) s ((b,c) :: B) v ks us := by
 subst hb; exact S.alloc c

theorem Sx.drop {p : Nat × Array Value} (S : Sx w g a len cap ts base v0 ks0 W s (p :: B) v ks us) : Sx w g a len cap ts base v0 ks0 W s B v ks us where
 gb := S.gb
 bw := S.bw
 gm := S.gm
 fr := S.fr
 bl := fun q hq => S.bl q (List.mem_cons_of_mem _ hq)
 nd := (List.nodup_cons.1 S.nd).2
 ns := S.ns
 ov := fun b hb => ⟨(S.ov b hb).1,fun q hq => (S.ov b hb).2 q (List.mem_cons_of_mem _ hq)⟩
 kb := fun b hb => ⟨(S.kb b hb).1,fun q hq => (S.kb b hb).2 q (List.mem_cons_of_mem _ hq)⟩
 ut := fun t ht => ⟨(S.ut t ht).1,fun b hb => by obtain ⟨h1,h2,h3,h4,h5⟩ := (S.ut t ht).2 b hb; exact ⟨h1,h2,h3,fun q hq => h4 q (List.mem_cons_of_mem _ hq),h5⟩⟩

theorem nodup_at {l : List (Nat × Array Value)} (h : (l.map Prod.fst).Nodup) {i k : Nat} {p q : Nat × Array Value} (hi : l[i]? = some p) (hk : l[k]? = some q) (hne : i ≠ k) : q.1 ≠ p.1 := by
 intro e
 have e1 : (l.map Prod.fst)[i]? = some p.1 := by simp [hi]
 have e2 : (l.map Prod.fst)[k]? = some p.1 := by simp [hk,e]
 have hl1 := (List.getElem?_eq_some_iff.1 e1).1
 have hl2 := (List.getElem?_eq_some_iff.1 e2).1
 rw [List.getElem?_eq_getElem hl1] at e1
 rw [List.getElem?_eq_getElem hl2] at e2
 have e3 := (Option.some.inj e1).trans (Option.some.inj e2).symm
 rcases Nat.lt_or_gt_of_ne hne with hlt | hlt
 ·exact List.pairwise_iff_getElem.1 h i k hl1 hl2 hlt e3
 ·exact List.pairwise_iff_getElem.1 h k i hl2 hl1 hlt e3.symm

theorem set_fst (B : List (Nat × Array Value)) (i : Nat) (b : Nat) (c c' : Array Value) (hi : B[i]? = some (b,c)) : (B.set i (b,c')).map Prod.fst = B.map Prod.fst := by
 rw [List.map_set]
 apply List.ext_getElem?
 intro k
 rw [List.getElem?_set]
 have hl := (List.getElem?_eq_some_iff.1 hi).1
 by_cases e : i = k
 ·subst e
  rw [if_pos rfl,if_pos (by simpa using hl)]
  simp [hi]
 ·rw [if_neg e]

theorem mem_set_fst {B : List (Nat × Array Value)} {i : Nat} {b : Nat} {c c' : Array Value} (hi : B[i]? = some (b,c)) {p : Nat × Array Value} (hp : p ∈ B.set i (b,c')) : ∃ q ∈ B,q.1 = p.1 := by
 have : p.1 ∈ (B.set i (b,c')).map Prod.fst := List.mem_map_of_mem hp
 rw [set_fst B i b c c' hi] at this
 obtain ⟨q,hq,e⟩ := List.mem_map.1 this
 exact ⟨q,hq,e⟩

theorem Sx.set (S : Sx w g a len cap ts base v0 ks0 W s B v ks us) (i b : Nat) (c : Array Value) (hi : B[i]? = some (b,c)) (j : Nat) (u : Value) : Sx w g a len cap ts base v0 ks0 (W.setCell ⟨b,j,none⟩ u) s (B.set i (b,c.setIfInBounds j u)) v ks us := by
 have hm : (b,c) ∈ B := List.mem_of_getElem? hi
 have hb := (S.bl _ hm).1
 simp only at hb
 have hg : W.grownBy (W.setCell ⟨b,j,none⟩ u) (some b) := grown_set j u
 have hbw := S.bw
 have hgb := S.gb
 refine ⟨S.gb,S.bw,S.gm.row hg (fun r h => by simp only [Option.some.injEq] at h; omega),S.fr.step hg (fun r h => by simp only [Option.some.injEq] at h; omega),?_,by rw [set_fst B i b c _ hi]; exact S.nd,?_,?_,?_,?_⟩
 ·intro p hp
  obtain ⟨k,hk⟩ := List.getElem?_of_mem hp
  rw [List.getElem?_set] at hk
  by_cases e : i = k
  ·rw [if_pos e] at hk
   split at hk
   ·simp only [Option.some.injEq] at hk
    subst hk
    exact ⟨hb,set_heap' (S.bl _ hm).2 j u⟩
   ·simp at hk
  ·rw [if_neg e] at hk
   have hmp := List.mem_of_getElem? hk
   exact ⟨(S.bl p hmp).1,blk_app hg (S.bl p hmp).2 (fun e2 => by simp only [Option.some.injEq] at e2; exact nodup_at S.nd hi hk e e2.symm)⟩
 ·refine ⟨S.ns.1.kept hg ?_,fun t ht => ⟨(S.ns.2 t ht).1.moved hg (fun bb hbb e => ?_),fun bb hbb => ?_⟩⟩
  ·cases hv : v.ownBlock with
   | none => left; rfl
   | some k => right; intro e; exact (S.ov k hv).2 _ hm (Option.some.inj e).symm
  ·simp only [Option.some.injEq] at e
   have hmem : bb ∈ blocksL ks := by obtain ⟨k,hk⟩ := List.getElem?_of_mem ht; exact blocksL_mem ks k t hk bb hbb
   exact (S.kb bb hmem).2 _ hm e
  ·obtain ⟨h1,h2,h3⟩ := (S.ns.2 t ht).2 bb hbb
   exact ⟨h1,by rw [set_size]; exact h2,h3⟩
 ·intro k hk
  refine ⟨(S.ov k hk).1,fun p hp => ?_⟩
  obtain ⟨q,hq,e⟩ := mem_set_fst hi hp
  rw [← e]; exact (S.ov k hk).2 q hq
 ·intro k hk
  refine ⟨(S.kb k hk).1,fun p hp => ?_⟩
  obtain ⟨q,hq,e⟩ := mem_set_fst hi hp
  rw [← e]; exact (S.kb k hk).2 q hq
 ·intro t ht
  refine ⟨(S.ut t ht).1.moved hg (fun bb hbb e => ?_),fun bb hbb => ?_⟩
  ·simp only [Option.some.injEq] at e
   exact ((S.ut t ht).2 bb hbb).2.2.2.1 _ hm e
  ·obtain ⟨h1,h2,h3,h4,h5⟩ := (S.ut t ht).2 bb hbb
   refine ⟨h1,by rw [set_size]; exact h2,h3,fun p hp => ?_,h5⟩
   obtain ⟨q,hq,e⟩ := mem_set_fst hi hp
   rw [← e]; exact h4 q hq

theorem Sx.put (S : Sx w g a len cap ts base v0 ks0 W s B v ks us) (i b : Nat) (a0 a1 a2 a3 a4 a5 a6 a7 : Value) (hi : B[i]? = some (b,#[a0,a1,a2,a3,a4,a5,a6,a7])) (x0 x1 x2 x3 x4 x5 x6 x7 : Value) :
  Sx w g a len cap ts base v0 ks0 ((((((((W.setCell ⟨b,0,none⟩ x0).setCell ⟨b,1,none⟩ x1).setCell ⟨b,2,none⟩ x2).setCell ⟨b,3,none⟩ x3).setCell ⟨b,4,none⟩ x4).setCell ⟨b,5,none⟩ x5).setCell ⟨b,6,none⟩ x6).setCell ⟨b,7,none⟩ x7) s (B.set i (b,#[x0,x1,x2,x3,x4,x5,x6,x7])) v ks us := by
 have hl := (List.getElem?_eq_some_iff.1 hi).1
 have one : ∀ {V : World} {c c' : Array Value} {j : Nat} {u : Value},Sx w g a len cap ts base v0 ks0 V s (B.set i (b,c)) v ks us → c.setIfInBounds j u = c' → Sx w g a len cap ts base v0 ks0 (V.setCell ⟨b,j,none⟩ u) s (B.set i (b,c')) v ks us := by
  intro V c c' j u T e
  have := T.set i b c (by rw [List.getElem?_set,if_pos rfl,if_pos hl]) j u
  rw [List.set_set,e] at this
  exact this
 have T0 : Sx w g a len cap ts base v0 ks0 W s (B.set i (b,#[a0,a1,a2,a3,a4,a5,a6,a7])) v ks us := by
  have : B.set i (b,#[a0,a1,a2,a3,a4,a5,a6,a7]) = B := by
   apply List.ext_getElem?
   intro k
   rw [List.getElem?_set]
   by_cases e : i = k
   ·subst e; rw [if_pos rfl,if_pos hl,hi]
   ·rw [if_neg e]
  rw [this]; exact S
 have T1 := one (c' := #[x0,a1,a2,a3,a4,a5,a6,a7]) (j := 0) (u := x0) T0 rfl
 have T2 := one (c' := #[x0,x1,a2,a3,a4,a5,a6,a7]) (j := 1) (u := x1) T1 rfl
 have T3 := one (c' := #[x0,x1,x2,a3,a4,a5,a6,a7]) (j := 2) (u := x2) T2 rfl
 have T4 := one (c' := #[x0,x1,x2,x3,a4,a5,a6,a7]) (j := 3) (u := x3) T3 rfl
 have T5 := one (c' := #[x0,x1,x2,x3,x4,a5,a6,a7]) (j := 4) (u := x4) T4 rfl
 have T6 := one (c' := #[x0,x1,x2,x3,x4,x5,a6,a7]) (j := 5) (u := x5) T5 rfl
 have T7 := one (c' := #[x0,x1,x2,x3,x4,x5,x6,a7]) (j := 6) (u := x6) T6 rfl
 have T8 := one (c' := #[x0,x1,x2,x3,x4,x5,x6,x7]) (j := 7) (u := x7) T7 rfl
 exact T8

theorem Sx.tree (S : Sx w g a len cap ts base v0 ks0 W s B v ks us) (t : Tn) (ht : TnOk W t) (hb : ∀ b ∈ t.blocks,base ≤ b ∧ b < W.heap.size ∧ From w v0 ks0 b ∧ (∀ p ∈ B,p.1 ≠ b) ∧ v.ownBlock ≠ some b) : Sx w g a len cap ts base v0 ks0 W s B v ks (t :: us) :=
 ⟨S.gb,S.bw,S.gm,S.fr,S.bl,S.nd,S.ns,S.ov,S.kb,fun u hu => by rcases List.mem_cons.1 hu with rfl | hu; exact ⟨ht,hb⟩; exact S.ut u hu⟩

theorem Sx.got {m : Pn × Gs} {e : Ending} (S : Sx w g a len cap ts base v0 ks0 W s B v ks us) (N : NodeRet W g a len cap ts m e W') : ∃ t : Tn,e = .returned t.val ∧ t.plain = m.1 ∧ Sx w g a len cap ts base v0 ks0 W' m.2 B v ks (t :: us) := by
 obtain ⟨t,h1,h2,h3,h4,h5,h6⟩ := N
 have T := S.call h5 h6
 refine ⟨t,h1,h2,T.tree t h3 (fun b hb => ⟨?_,(h4 b hb).2,.inr (.inr ?_),fun p hp => ?_,fun ee => ?_⟩)⟩
 ·have := (h4 b hb).1; have := S.fr.size; have := S.bw; omega
 ·have := (h4 b hb).1; have := S.fr.size; omega
 ·have := (h4 b hb).1; have := S.lt p hp; omega
 ·have := (h4 b hb).1; have := (S.ns.1.lt b ee).2; omega

def NodeRet2 (w : World) (g : Nat) (a : Option Addr) (len cap : Nat) (ts : List Tq) (v0 : Value) (ks0 : List Tn) (m : Pn × Gs) (e : Ending) (w' : World) : Prop :=
 ∃ t : Tn,e = .returned t.val ∧ t.plain = m.1 ∧ TnOk w' t ∧ (∀ b ∈ t.blocks,From w v0 ks0 b ∧ b < w'.heap.size) ∧ G2 w w' g v0 ∧ Gm w' g a len cap ts m.2

theorem NodeRet2.nil {m : Pn × Gs} {e : Ending} (N : NodeRet2 w g a len cap ts (.slice none 0 0) [] m e W') : NodeRet w g a len cap ts m e W' := by
 obtain ⟨t,h1,h2,h3,h4,h5,h6⟩ := N
 refine ⟨t,h1,h2,h3,fun b hb => ⟨?_,(h4 b hb).2⟩,h5.grown,h6⟩
 rcases (h4 b hb).1 with e | e | e
 ·simp [Value.ownBlock] at e
 ·simp [blocksL] at e
 ·exact e

theorem Sx.got2 {m : Pn × Gs} {e : Ending} (S : Sx w g a len cap ts base v0 ks0 W s B v ks []) (N : NodeRet2 W g a len cap ts v ks m e W') : ∃ t : Tn,e = .returned t.val ∧ t.plain = m.1 ∧ Sx w g a len cap ts base v0 ks0 W' m.2 B (.slice none 0 0) [] [t] := by
 obtain ⟨t,h1,h2,h3,h4,h5,h6⟩ := N
 have hbw := S.bw
 have hsz := S.fr.size
 refine ⟨t,h1,h2,S.gb,S.bw,h6,⟨h5.os.trans S.fr.os,h5.tape.trans S.fr.tape,h5.output.trans S.fr.output,Nat.le_trans S.fr.size h5.size,fun k hk hne hv => ?_⟩,fun p hp => ⟨(S.bl p hp).1,?_⟩,S.nd,Ns.nil _ _,fun b hb => by simp [Value.ownBlock] at hb,fun b hb => by simp [blocksL] at hb,?_⟩
 ·refine (h5.block k (Nat.lt_of_lt_of_le hk S.fr.size) hne (fun e => ?_)).trans (S.fr.block k hk hne hv)
  rcases (S.ov k e).1 with h | h
  ·exact hv h
  ·omega
 ·have hgb := S.gb
  have := (S.bl p hp).1
  exact (h5.block p.1 (S.lt p hp) (by omega) (fun e => (S.ov _ e).2 p hp rfl)).trans (S.bl p hp).2
 ·intro u hu
  simp only [List.mem_cons,List.not_mem_nil,or_false] at hu
  subst hu
  refine ⟨h3,fun b hb => ?_⟩
  obtain ⟨hf,hlt⟩ := h4 b hb
  refine ⟨?_,hlt,?_,?_,by simp [Value.ownBlock]⟩
  ·rcases hf with e | e | e
   ·exact (S.ns.1.lt b e).1
   ·exact (S.kids b e).1
   ·omega
  ·rcases hf with e | e | e
   ·rcases (S.ov b e).1 with h | h
    ·exact .inl h
    ·exact .inr (.inr h)
   ·exact (S.kb b e).1
   ·exact .inr (.inr (by omega))
  ·intro p hp
   rcases hf with e | e | e
   ·exact (S.ov b e).2 p hp
   ·exact (S.kb b e).2 p hp
   ·have := S.lt p hp; omega

theorem Sx.app {t : Tn} {v' : Value} (S : Sx w g a len cap ts base v0 ks0 W s B v ks (t :: us)) (hN : Ns W' base v' (ks ++ [t])) (hg : W.grownBy W' v.ownBlock) (hat : v'.ownBlock = v.ownBlock ∨ v'.ownBlock = some W.heap.size) : Sx w g a len cap ts base v0 ks0 W' s B v' (ks ++ [t]) us := by
 have hbw := S.bw
 have hgb := S.gb
 have hsz := S.fr.size
 have hvl := S.ns.1.lt
 refine ⟨S.gb,S.bw,S.gm.row hg (fun r h => by have := (hvl r h).1; omega),S.fr.step hg (fun r h => by rcases (S.ov r h).1 with h | h; exact .inr (.inl h); exact .inr (.inr h)),fun p hp => ⟨(S.bl p hp).1,blk_app hg (S.bl p hp).2 (fun e => (S.ov _ e).2 p hp rfl)⟩,S.nd,hN,?_,?_,?_⟩
 ·intro b hb
  rcases hat with e | e
  ·rw [e] at hb; exact S.ov b hb
  ·rw [e] at hb
   simp only [Option.some.injEq] at hb
   exact ⟨.inr (by omega),fun p hp => by have := S.lt p hp; omega⟩
 ·refine blocksL_all (fun u hu b hb => ?_)
  rcases List.mem_append.1 hu with hu | hu
  ·obtain ⟨k,hk⟩ := List.getElem?_of_mem hu
   exact S.kb b (blocksL_mem ks k u hk b hb)
  ·simp only [List.mem_cons,List.not_mem_nil,or_false] at hu
   subst hu
   obtain ⟨_,_,h3,h4,_⟩ := (S.ut u (by simp)).2 b hb
   exact ⟨h3,h4⟩
 ·intro u hu
  obtain ⟨q1,q2⟩ := S.ut u (List.mem_cons_of_mem _ hu)
  refine ⟨q1.moved hg (fun b hb => (q2 b hb).2.2.2.2),fun b hb => ?_⟩
  obtain ⟨h1,h2,h3,h4,h5⟩ := q2 b hb
  refine ⟨h1,Nat.lt_of_lt_of_le h2 hg.size,h3,h4,?_⟩
  rcases hat with e | e
  ·rw [e]; exact h5
  ·rw [e]; intro e2; simp only [Option.some.injEq] at e2; omega

theorem Sx.kids1 {t : Tn} {b : Nat} {c : Array Value} (S : Sx w g a len cap ts base v0 ks0 W s ((b,c) :: B) (.slice none 0 0) [] (t :: us)) (hc : c.toList = t.cells) : Sx w g a len cap ts base v0 ks0 W s B (.slice (some ⟨b,0,none⟩) 1 1) [t] us := by
 have hbl := S.bl (b,c) (by simp)
 have hbw := S.bw
 have T := S.drop
 have hnd := (List.nodup_cons.1 S.nd).1
 have hlen : c.size = 8 := by rw [← Array.length_toList,hc,cells8]
 obtain ⟨q1,q2⟩ := S.ut t (by simp)
 refine ⟨T.gb,T.bw,T.gm,T.fr,T.bl,T.nd,⟨⟨by simp [cells8],.inr ⟨b,1,c,rfl,by have := hbl.1; simp only at this; omega,hbl.2,by simp,by unfold maxLen; omega,by simp [hlen],?_⟩⟩,?_⟩,?_,?_,?_⟩
 ·simp only [List.length_singleton,List.flatMap_cons,List.flatMap_nil,List.append_nil,Nat.one_mul]
  rw [hc,List.take_of_length_le (by rw [cells8]; omega)]
 ·intro u hu
  simp only [List.mem_cons,List.not_mem_nil,or_false] at hu
  subst hu
  refine ⟨q1,fun bb hbb => ?_⟩
  obtain ⟨h1,h2,h3,h4,h5⟩ := q2 bb hbb
  refine ⟨h1,h2,fun e => ?_⟩
  simp only [Value.ownBlock,Option.some.injEq] at e
  exact h4 (b,c) (by simp) e
 ·intro bb hbb
  simp only [Value.ownBlock,Option.some.injEq] at hbb
  subst hbb
  exact ⟨.inr hbl.1,fun p hp e => hnd (by rw [List.mem_map]; exact ⟨p,hp,e⟩)⟩
 ·refine blocksL_all (fun u hu bb hbb => ?_)
  simp only [List.mem_cons,List.not_mem_nil,or_false] at hu
  subst hu
  obtain ⟨h1,h2,h3,h4,h5⟩ := q2 bb hbb
  exact ⟨h3,fun p hp => h4 p (List.mem_cons_of_mem _ hp)⟩
 ·intro u hu
  obtain ⟨r1,r2⟩ := S.ut u (List.mem_cons_of_mem _ hu)
  refine ⟨r1,fun bb hbb => ?_⟩
  obtain ⟨h1,h2,h3,h4,h5⟩ := r2 bb hbb
  refine ⟨h1,h2,h3,fun p hp => h4 p (List.mem_cons_of_mem _ hp),fun e => ?_⟩
  simp only [Value.ownBlock,Option.some.injEq] at e
  exact h4 (b,c) (by simp) e

theorem Sx.wrap1 {x : Tn} {b : Nat} {c : Array Value} (S : Sx w g a len cap ts base v0 ks0 W s ((b,c) :: B) v ks (x :: us)) (hc : c.toList = x.cells) {nk nn nm na np : Int} {ntx ndc : List Int} (hnk : i64b nk) (hnn : i64b nn) (hnm : i64b nm) (hna : i64b na) (hnp : i64b np) (hnt : byts ntx ∧ ntx.length ≤ 100000) (hnd : byts ndc ∧ ndc.length ≤ 1000000) :
  Sx w g a len cap ts base v0 ks0 W s B v ks (.mk nk ntx nn nm na np ndc (some ⟨b,0,none⟩) 1 [x] :: us) := by
 have hbl := S.bl (b,c) (by simp)
 have hbw := S.bw
 have hbw2 := hbl.1
 simp only at hbw2
 have hnd2 := (List.nodup_cons.1 S.nd).1
 have hlt := S.lt (b,c) (by simp)
 simp only at hlt
 obtain ⟨q1,q2⟩ := S.ut x (by simp)
 have T : Sx w g a len cap ts base v0 ks0 W s B v ks us := ⟨S.gb,S.bw,S.gm,S.fr,S.drop.bl,S.drop.nd,S.ns,S.drop.ov,S.drop.kb,fun u hu => S.drop.ut u (List.mem_cons_of_mem _ hu)⟩
 refine T.tree _ (.mk hnk hnt.1 (by have := hnt.2; omega) hnn hnm hna hnp hnd.1 (by have := hnd.2; omega) (by simp) (by simp) (fun e => by simp at e) (fun _ => ⟨b,0,rfl,hlt,fun i t hi j u hj => ?_⟩) (fun i t hi => ?_)) (fun bb hbb => ?_)
 ·cases i with
  | zero =>
   simp only [List.getElem?_cons_zero,Option.some.injEq] at hi
   subst hi
   rw [show 0 + 0 * 8 + j = j by omega,cell_of_row W b j c _ (0,0) hbl.2,← Array.getElem?_toList,hc]
   exact hj
  | succ k => simp at hi
 ·cases i with
  | zero =>
   simp only [List.getElem?_cons_zero,Option.some.injEq] at hi
   subst hi
   exact q1
  | succ k => simp at hi
 ·simp only [Tn.blocks,blocksL,List.append_nil,List.mem_append,List.mem_cons,List.not_mem_nil,or_false] at hbb
  rcases hbb with rfl | hbb
  ·exact ⟨by omega,hlt,.inr (.inr hbw2),fun p hp e => hnd2 (by rw [List.mem_map]; exact ⟨p,hp,e⟩),fun e => (S.ov _ e).2 (bb,c) (by simp) rfl⟩
  ·obtain ⟨h1,h2,h3,h4,h5⟩ := q2 bb hbb
   exact ⟨h1,h2,h3,fun p hp => h4 p (List.mem_cons_of_mem _ hp),h5⟩

theorem Sx.close {ad : Option Addr} {n c : Nat} (S : Sx w g a len cap ts base v0 ks0 W s B (.slice ad n c) ks us) {nk nn nm na np : Int} {ntx ndc : List Int} (hnk : i64b nk) (hnn : i64b nn) (hnm : i64b nm) (hna : i64b na) (hnp : i64b np) (hnt : byts ntx ∧ ntx.length ≤ 100000) (hnd : byts ndc ∧ ndc.length ≤ 1000000) :
  n = ks.length ∧ Sx w g a len cap ts base v0 ks0 W s B (.slice none 0 0) [] (.mk nk ntx nn nm na np ndc ad c ks :: us) := by
 obtain ⟨q1,q2,q3⟩ := S.ns.node hnk hnn hnm hna hnp hnt hnd
 refine ⟨q2,S.gb,S.bw,S.gm,S.fr,S.bl,S.nd,Ns.nil _ _,fun b hb => by simp [Value.ownBlock] at hb,fun b hb => by simp [blocksL] at hb,fun u hu => ?_⟩
 rcases List.mem_cons.1 hu with rfl | hu
 ·refine ⟨q1,fun b hb => ⟨(q3 b hb).1,(q3 b hb).2,?_,?_,by simp [Value.ownBlock]⟩⟩
  all_goals
   simp only [Tn.blocks,List.mem_append] at hb
   rcases hb with hb | hb
  ·cases ad with
   | none => simp at hb
   | some x =>
    simp only [List.mem_cons,List.not_mem_nil,or_false] at hb
    subst hb
    rcases (S.ov x.block rfl).1 with h | h
    ·exact .inl h
    ·exact .inr (.inr h)
  ·exact (S.kb b hb).1
  ·cases ad with
   | none => simp at hb
   | some x =>
    simp only [List.mem_cons,List.not_mem_nil,or_false] at hb
    subst hb
    exact (S.ov x.block rfl).2
  ·exact (S.kb b hb).2
 ·obtain ⟨r1,r2⟩ := S.ut u hu
  refine ⟨r1,fun b hb => ?_⟩
  obtain ⟨h1,h2,h3,h4,h5⟩ := r2 b hb
  exact ⟨h1,h2,h3,h4,by simp [Value.ownBlock]⟩

theorem Sx.eight (S : Sx w g a len cap ts base v0 ks0 W s B v ks us) (i b : Nat) {a0 a1 a2 a3 a4 a5 a6 a7 : Value} (hi : B[i]? = some (b,#[a0,a1,a2,a3,a4,a5,a6,a7])) :
  W.heap[b]? = some (.cells #[a0,a1,a2,a3,a4,a5,a6,a7] 28 (0,0)) := (S.bl _ (List.mem_of_getElem? hi)).2

theorem Sx.ltAt (S : Sx w g a len cap ts base v0 ks0 W s B v ks us) (i b : Nat) {c : Array Value} (hi : B[i]? = some (b,c)) : b < W.heap.size := S.lt _ (List.mem_of_getElem? hi)

theorem Sx.fin {fn : Func} {act : Act} {p : Tmp} {m : Pn × Gs} (hres : fn.results = #[.cell p 28]) {t : Tn} (S : Sx w g a len cap ts base v0 ks0 W m.2 B v ks (t :: us)) (i b : Nat) (a0 a1 a2 a3 a4 a5 a6 a7 x0 x1 x2 x3 x4 x5 x6 x7 : Value)
  (hi : B[i]? = some (b,#[a0,a1,a2,a3,a4,a5,a6,a7])) (hp : act.tmps.getD p undef = .pointer (some ⟨b,0,none⟩)) (hd : act.defers = []) (hx : t.cells = [x0,x1,x2,x3,x4,x5,x6,x7]) (htp : t.plain = m.1) :
  bodyPost Tryz.prog fn (NodeRet2 w g a len cap ts v0 ks0 m) .ret act ((((((((W.setCell ⟨b,0,none⟩ x0).setCell ⟨b,1,none⟩ x1).setCell ⟨b,2,none⟩ x2).setCell ⟨b,3,none⟩ x3).setCell ⟨b,4,none⟩ x4).setCell ⟨b,5,none⟩ x5).setCell ⟨b,6,none⟩ x6).setCell ⟨b,7,none⟩ x7) := by
 have T := S.put i b a0 a1 a2 a3 a4 a5 a6 a7 hi x0 x1 x2 x3 x4 x5 x6 x7
 have hl := (List.getElem?_eq_some_iff.1 hi).1
 have hh := T.eight i b (by rw [List.getElem?_set,if_pos rfl,if_pos hl])
 obtain ⟨q1,q2⟩ := T.ut t (by simp)
 exact nd_ret hres b _ _ _ _ _ _ _ _ hp hh hd ⟨t,by rw [Tn.val,hx],htp,q1,fun bb hbb => ⟨(q2 bb hbb).2.2.1,(q2 bb hbb).2.1⟩,T.fr,T.gm⟩

theorem Sx.start (H : Gm w g a len cap ts s) (hgb : g < base) (hbw : base ≤ w.heap.size) (hN : Ns w base v0 ks0) : Sx w g a len cap ts base v0 ks0 w s [] v0 ks0 [] where
 gb := hgb
 bw := hbw
 gm := H
 fr := G2.refl _ _ _
 bl := fun p hp => by simp at hp
 nd := by simp
 ns := hN
 ov := fun b hb => ⟨.inl hb,fun p hp => by simp at hp⟩
 kb := fun b hb => ⟨.inr (.inl hb),fun p hp => by simp at hp⟩
 ut := fun t ht => by simp at ht

theorem Sx.begin (H : Gm w g a len cap ts s) : Sx w g a len cap ts w.heap.size (.slice none 0 0) [] w s [] (.slice none 0 0) [] [] := Sx.start H H.blk.size (Nat.le_refl _) (Ns.nil _ _)

theorem Sx.append_list {t : Tn} {b cp : Nat} {c : Array Value} {ops : Array Oper} {rest : List Oper} {o : Oper} {f : Act} {Q : Exit → Act → World → Prop} (S : Sx w g a len cap ts base v0 ks0 W s ((b,c) :: B) v ks (t :: us)) (hc : c.toList = t.cells) (hgd : o.guard = none) (so x : Operand)
  (ho : o.op = .call { callee := .builtin .append,args := #[so,x],argTypes := #[26,26] }) (hs : f.eval so = v) (hx : f.eval x = .slice (some ⟨b,0,none⟩) 1 cp) (hn : ks.length + 1 ≤ 2000000)
  (h : ∀ va vc w',Sx w g a len cap ts base v0 ks0 w' s B (.slice va (ks.length + 1) vc) (ks ++ [t]) us → wpList Tryz.prog ops Q rest (f.put o.dst (.slice va (ks.length + 1) vc)) w') : wpList Tryz.prog ops Q (o :: rest) f W := by
 have hbl := S.bl (b,c) (by simp)
 obtain ⟨q1,q2⟩ := S.ut t (by simp)
 refine wpList_append_nd2 hgd so x ho base v ks t b cp hs hx S.ns q1 (fun bb hbb => ⟨(q2 bb hbb).1,(q2 bb hbb).2.1,(q2 bb hbb).2.2.2.2⟩) (fun j u hj => ?_) hn (by have := S.bw; have := S.fr.size; omega) ?_
 ·rw [cell_of_row W b j c _ (0,0) hbl.2,← Array.getElem?_toList,hc]; exact hj
 ·intro v' w' hN hg hat
  obtain ⟨va,vc,hv⟩ := own_slice hN.1
  rw [List.length_append,List.length_singleton] at hv
  subst hv
  exact h va vc w' (S.app hN hg hat).drop

theorem Sx.append_step {t : Tn} {b cp : Nat} {c : Array Value} {ops : Array Oper} {o : Oper} {f : Act} {K : Act → World → Prop} {Q : Exit → Act → World → Prop} {E : Prop} (S : Sx w g a len cap ts base v0 ks0 W s ((b,c) :: B) v ks (t :: us)) (hc : c.toList = t.cells) (hgd : o.guard = none) (so x : Operand)
  (ho : o.op = .call { callee := .builtin .append,args := #[so,x],argTypes := #[26,26] }) (hs : f.eval so = v) (hx : f.eval x = .slice (some ⟨b,0,none⟩) 1 cp) (hn : ks.length + 1 ≤ 2000000)
  (h : ∀ va vc w',Sx w g a len cap ts base v0 ks0 w' s B (.slice va (ks.length + 1) vc) (ks ++ [t]) us → K (f.put o.dst (.slice va (ks.length + 1) vc)) w') : if Region.wanted o (yielded ops f.tmps) = true then Oper.wp Tryz.prog o f W K Q else E := by
 have hbl := S.bl (b,c) (by simp)
 obtain ⟨q1,q2⟩ := S.ut t (by simp)
 refine step_append_nd hgd so x ho base v ks t b cp hs hx S.ns q1 (fun bb hbb => ⟨(q2 bb hbb).1,(q2 bb hbb).2.1,(q2 bb hbb).2.2.2.2⟩) (fun j u hj => ?_) (by omega) (by have := S.bw; have := S.fr.size; omega) ?_
 ·rw [cell_of_row W b j c _ (0,0) hbl.2,← Array.getElem?_toList,hc]; exact hj
 ·intro v' w' hN hg hat
  obtain ⟨va,vc,hv⟩ := own_slice hN.1
  rw [List.length_append,List.length_singleton] at hv
  subst hv
  exact h va vc w' (S.app hN hg hat).drop

end

end Go.Proofs.YtlekfcehmlepkaaGreatDoor
