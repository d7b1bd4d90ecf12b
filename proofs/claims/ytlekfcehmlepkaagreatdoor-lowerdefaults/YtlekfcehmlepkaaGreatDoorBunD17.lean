/- Put together by a program out of these texts of mine: PTree. -/
import Derived.Deep.RegionWith
import Derived.Test.YtlekfcehmlepkaaGreatDoorBunD6
import Derived.Test.YtlekfcehmlepkaaGreatDoorBunD7

namespace Go.Proofs.YtlekfcehmlepkaaGreatDoor
open Go.RowKit
set_option linter.unusedVariables false
set_option linter.unusedSimpArgs false

theorem TnOk.movedB {w w' : World} {B : Nat} (hs : w.heap.size ≤ w'.heap.size) (hg : ∀ k,B ≤ k → k < w.heap.size → w'.heap[k]? = w.heap[k]?) {t : Tn} (h : TnOk w t) : (∀ b ∈ t.blocks,B ≤ b) → TnOk w' t := by
 induction h with
 | @mk kind text n m a pos doc ad cap kids hkind htext htl hn hm ha hpos hdoc hdl hkl hcap hnone hmem hkids ih =>
  intro hb
  refine .mk hkind htext htl hn hm ha hpos hdoc hdl hkl hcap hnone (fun hp => ?_) (fun i t hi => ih i t hi (fun b hbb => hb b ?_))
  ·obtain ⟨b,off,h1,h2,h3⟩ := hmem hp
   subst h1
   have hne : B ≤ b := hb b (by simp [Tn.blocks])
   refine ⟨b,off,rfl,Nat.lt_of_lt_of_le h2 hs,fun i t hi j u hj => ?_⟩
   have e : w'.cell? ⟨b,off + i * 8 + j,none⟩ = w.cell? ⟨b,off + i * 8 + j,none⟩ := World.cell?_of_block (hg b hne h2)
   exact e.trans (h3 i t hi j u hj)
  ·have := blocksL_mem kids i t hi b hbb
   simp [Tn.blocks,this]

mutual
def Tn.bare : Tn → Tn
 | .mk k t n m a p d _ _ ks => .mk k t n m a p d none 0 (bares ks)
def bares : List Tn → List Tn
 | [] => []
 | t :: r => t.bare :: bares r
end

theorem bares_map : ∀ (l : List Tn),bares l = l.map Tn.bare
 | [] => by simp [bares]
 | t :: r => by simp [bares,bares_map r]

theorem bares_len (l : List Tn) : (bares l).length = l.length := by rw [bares_map]; simp

mutual
theorem bare_same : ∀ (u t : Tn),u.bare = t.bare → tsame u t = true
 | .mk k1 t1 n1 m1 a1 p1 d1 _ _ ks1,.mk k2 t2 n2 m2 a2 p2 d2 _ _ ks2,h => by
  simp only [Tn.bare,Tn.mk.injEq] at h
  obtain ⟨h1,h2,h3,h4,h5,_,h6,_,_,h7⟩ := h
  have hl : ks1.length = ks2.length := by rw [← bares_len ks1,h7,bares_len]
  rw [tsame,bares_same ks1 ks2 h7]
  simp [h1,h2,h3,h4,h5,h6,hl]
theorem bares_same : ∀ (l r : List Tn),bares l = bares r → tsames l r = true
 | [],_,_ => by simp [tsames]
 | _ :: _,[],_ => by simp [tsames]
 | x :: l,y :: r,h => by
  simp only [bares,List.cons.injEq] at h
  rw [tsames,bare_same x y h.1,bares_same l r h.2]
  rfl
end

mutual
theorem bare_dp : ∀ (t : Tn) (x : Int),tdp t.bare x = tdp t x
 | .mk _ _ _ _ _ _ _ _ _ ks,x => by rw [Tn.bare,tdp,tdp,bares_dp ks x x]
theorem bares_dp : ∀ (l : List Tn) (x d : Int),tdps (bares l) x d = tdps l x d
 | [],x,d => by rw [bares]
 | k :: r,x,d => by rw [bares,tdps,tdps,bare_dp k (x + 1),bares_dp r x _]
end

mutual
theorem tdp_low : ∀ (t : Tn) (x y : Int),y ≤ x → tdp t x ≤ 64 → tdp t y ≤ 64
 | .mk _ _ _ _ _ _ _ _ _ ks,x,y,h,h1 => by
  rw [tdp] at h1 ⊢
  by_cases hx : 64 < x
  ·rw [if_pos hx] at h1; omega
  ·rw [if_neg hx] at h1
   rw [if_neg (by omega)]
   exact tdps_lower ks x y x y h h h1
theorem tdps_lower : ∀ (l : List Tn) (x y d e : Int),y ≤ x → e ≤ d → tdps l x d ≤ 64 → tdps l y e ≤ 64
 | [],x,y,d,e,h,h1,h2 => by rw [tdps] at h2 ⊢; omega
 | k :: r,x,y,d,e,h,h1,h2 => by
  rw [tdps] at h2 ⊢
  by_cases hm : 64 < max d (tdp k (x + 1))
  ·rw [if_pos hm] at h2; omega
  ·rw [if_neg hm] at h2
   have h3 := tdp_low k (x + 1) (y + 1) (by omega) (by omega)
   have h4 := tdp_mono k (x + 1) (y + 1) (by omega) (by omega)
   rw [if_neg (by omega)]
   exact tdps_lower r x y _ _ h (by omega) h2
theorem tdp_mono : ∀ (t : Tn) (x y : Int),y ≤ x → tdp t x ≤ 64 → tdp t y ≤ tdp t x
 | .mk _ _ _ _ _ _ _ _ _ ks,x,y,h,h1 => by
  rw [tdp] at h1
  rw [tdp,tdp]
  by_cases hx : 64 < x
  ·rw [if_pos hx] at h1; omega
  ·rw [if_neg hx] at h1
   rw [if_neg (by omega),if_neg hx]
   exact tdps_mono ks x y x y h h h1
theorem tdps_mono : ∀ (l : List Tn) (x y d e : Int),y ≤ x → e ≤ d → tdps l x d ≤ 64 → tdps l y e ≤ tdps l x d
 | [],x,y,d,e,h,h1,h2 => by rw [tdps,tdps]; omega
 | k :: r,x,y,d,e,h,h1,h2 => by
  rw [tdps] at h2
  rw [tdps,tdps]
  by_cases hm : 64 < max d (tdp k (x + 1))
  ·rw [if_pos hm] at h2; omega
  ·rw [if_neg hm] at h2
   have h4 := tdp_mono k (x + 1) (y + 1) (by omega) (by omega)
   rw [if_neg (by omega),if_neg hm]
   exact tdps_mono r x y _ _ h (by omega) h2
end

theorem tdps_at : ∀ (l : List Tn) (x d : Int),tdps l x d ≤ 64 → ∀ (i : Nat) (k : Tn),l[i]? = some k → tdp k (x + 1) ≤ 64
 | [],x,d,_,i,k,h => by simp at h
 | y :: l,x,d,h,i,k,hi => by
  rw [tdps] at h
  by_cases hm : 64 < max d (tdp y (x + 1))
  ·rw [if_pos hm] at h; omega
  ·rw [if_neg hm] at h
   cases i with
   | zero =>
    simp at hi
    subst hi
    omega
   | succ i => exact tdps_at l x _ h i k (by simpa using hi)

theorem tdeep_kid {t k : Tn} {i : Nat} (h : tdeep t ≤ 64) (hi : t.kids[i]? = some k) : tdeep k ≤ 64 := by
 obtain ⟨kind,text,n,m,a,pos,doc,ad,cap,kids⟩ := t
 have h1 : tdp (.mk kind text n m a pos doc ad cap kids) 1 ≤ 64 := by
  unfold tdeep at h
  split at h <;> omega
 rw [tdp,if_neg (by omega)] at h1
 have h2 := tdp_low k 2 1 (by omega) (tdps_at kids 1 1 h1 i k hi)
 unfold tdeep
 rw [if_neg (by omega)]
 exact h2

def Tn.pos : Tn → Int | .mk _ _ _ _ _ p _ _ _ _ => p

def tlikes : List Tn → List Tn → Prop
 | [],[] => True
 | a :: l,b :: r => tSame a b = true ∧ a.pos = b.pos ∧ tlikes l r
 | _,_ => False

theorem bare_like {u t : Tn} (h : u.bare = t.bare) (hd : tdeep t ≤ 64) : tSame u t = true ∧ u.pos = t.pos := by
 constructor
 ·have e : tdeep u = tdeep t := by
   unfold tdeep
   rw [← bare_dp u 1,h,bare_dp t 1]
  unfold tSame
  rw [e,bare_same u t h]
  simp [hd]
 ·obtain ⟨_,_,_,_,_,_,_,_,_,_⟩ := u
  obtain ⟨_,_,_,_,_,_,_,_,_,_⟩ := t
  simp only [Tn.bare,Tn.mk.injEq] at h
  exact h.2.2.2.2.2.1

theorem bares_likes : ∀ (l r : List Tn),bares l = bares r → (∀ t ∈ r,tdeep t ≤ 64) → tlikes l r
 | [],[],_,_ => trivial
 | [],_ :: _,h,_ => by simp [bares] at h
 | _ :: _,[],h,_ => by simp [bares] at h
 | x :: l,y :: r,h,hd => by
  simp only [bares,List.cons.injEq] at h
  have h1 := bare_like h.1 (hd y (by simp))
  exact ⟨h1.1,h1.2,bares_likes l r h.2 (fun t ht => hd t (by simp [ht]))⟩

def Nl (w : World) (base : Nat) (v : Value) (us : List Tn) : Prop :=
 (v = .slice none 0 0 ∧ us = []) ∨ ∃ g,v = .slice (some ⟨g,0,none⟩) us.length us.length ∧ base ≤ g ∧ us.length ≤ 65536 ∧ w.heap[g]? = some (.cells (us.flatMap Tn.cells).toArray 28 (0,0)) ∧ ∀ u ∈ us,TnOk w u ∧ ∀ b ∈ u.blocks,base ≤ b

theorem Nl.moved {w w' : World} {base B : Nat} {v : Value} {us : List Tn} (h : Nl w base v us) (hB : B ≤ base) (hs : w.heap.size ≤ w'.heap.size) (hg : ∀ k,B ≤ k → k < w.heap.size → w'.heap[k]? = w.heap[k]?) : Nl w' base v us := by
 rcases h with h | ⟨g,h1,h2,h3,h4,h5⟩
 ·exact .inl h
 ·have hlt : g < w.heap.size := by
   rcases Nat.lt_or_ge g w.heap.size with h' | h'
   ·exact h'
   ·rw [Array.getElem?_eq_none h'] at h4; cases h4
  refine .inr ⟨g,h1,h2,h3,(hg g (by omega) hlt).trans h4,fun u hu => ⟨(h5 u hu).1.movedB hs hg (fun b hb => ?_),(h5 u hu).2⟩⟩
  have := (h5 u hu).2 b hb
  omega

theorem Nl.low {w : World} {base B : Nat} {v : Value} {us : List Tn} (h : Nl w base v us) (hB : B ≤ base) : Nl w B v us := by
 rcases h with h | ⟨g,h1,h2,h3,h4,h5⟩
 ·exact .inl h
 ·exact .inr ⟨g,h1,by omega,h3,h4,fun u hu => ⟨(h5 u hu).1,fun b hb => by have := (h5 u hu).2 b hb; omega⟩⟩

end Go.Proofs.YtlekfcehmlepkaaGreatDoor
