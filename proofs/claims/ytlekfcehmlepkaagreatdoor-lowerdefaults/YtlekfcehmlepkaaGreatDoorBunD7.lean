/- Put together by a program out of these texts of mine: TRef, TCell, PEach, PCount, PDeep, PSame, TShort, QPd, QSh. -/
import Derived.Lib.MinMax
import Derived.OneCell
import Derived.Laws.EntriesVeiled
import Derived.Deep.RegionWith
import Derived.Deep.QuietTactic
import Derived.BigQuiet
import Derived.Shelf.Strings.Prefix
import Derived.Test.YtlekfcehmlepkaaGreatDoorProg
import Derived.Test.YtlekfcehmlepkaaGreatDoorBunD4
import Derived.Test.YtlekfcehmlepkaaGreatDoorBunD5

namespace Go.Proofs.YtlekfcehmlepkaaGreatDoor
open Go.RowKit
set_option linter.unusedVariables false
set_option linter.unusedSimpArgs false

theorem kid_cells {w W : World} {b off k : Nat} {kids : List Tn} (hlt : b < w.heap.size) (hB : Below w.heap.size w W) (h : ∀ (i : Nat) (t : Tn),kids[i]? = some t → ∀ (j : Nat) (u : Value),t.cells[j]? = some u → w.cell? ⟨b,off + i * 8 + j,none⟩ = some u)
  {kd : Int} {tx : List Int} {n m a pos : Int} {doc : List Int} {ad : Option Addr} {cap : Nat} {ks : List Tn} (hk : kids[k]? = some (.mk kd tx n m a pos doc ad cap ks)) :
  W.cell? ⟨b,off + k * 8,none⟩ = some (.int .i64 kd) ∧ W.cell? ⟨b,off + k * 8 + 1,none⟩ = some (.string (strOfNums tx)) ∧ W.cell? ⟨b,off + k * 8 + 2,none⟩ = some (.int .i64 n) ∧ W.cell? ⟨b,off + k * 8 + 3,none⟩ = some (.int .i64 m) ∧
  W.cell? ⟨b,off + k * 8 + 4,none⟩ = some (.int .i64 a) ∧ W.cell? ⟨b,off + k * 8 + 5,none⟩ = some (.int .i64 pos) ∧ W.cell? ⟨b,off + k * 8 + 6,none⟩ = some (.string (strOfNums doc)) ∧ W.cell? ⟨b,off + k * 8 + 7,none⟩ = some (.slice ad ks.length cap) := by
 have f := fun j u hj => (hB.cell (p := ⟨b,off + k * 8 + j,none⟩) hlt).trans (h k _ hk j u hj)
 exact ⟨f 0 _ rfl,f 1 _ rfl,f 2 _ rfl,f 3 _ rfl,f 4 _ rfl,f 5 _ rfl,f 6 _ rfl,f 7 _ rfl⟩

set_option maxRecDepth 10000 in
set_option maxHeartbeats 2000000 in
theorem rsz_any {w : World} {t : Tn} (h : TnOk w t) : ∀ (W : World) (x d : Int),Below w.heap.size w W → 0 ≤ x → x ≤ 400 → 0 ≤ d → d ≤ 81 →
  Calls Tryz.prog 17 #[t.val,.int .i64 x,.int .i64 d] W fun e W' => e = .returned (.int .i64 (tsz t x d)) ∧ Below W.heap.size W W' := by
 induction h with
 | @mk kind text n m a pos doc ad cap kids hkind htext htl hn hm ha hpos hdoc hdl hkl hcap hnone hmem hkids ih =>
  intro W x d hB h0 h1 hd0 hd1
  obtain ⟨R,hR⟩ : ∃ R,R = tsz (.mk kind text n m a pos doc ad cap kids) x d := ⟨_,rfl⟩
  rw [← hR]
  rw [tsz] at hR
  show Calls Tryz.prog 17 #[.agg #[.int .i64 kind,.string (strOfNums text),.int .i64 n,.int .i64 m,.int .i64 a,.int .i64 pos,.string (strOfNums doc),.slice ad kids.length cap],.int .i64 x,.int .i64 d] W fun e W' => e = .returned (.int .i64 R) ∧ Below W.heap.size W W'
  have HIH : Hid _ := ih
  have HMem : Hid _ := hmem
  have HB0 : Hid (Below w.heap.size w W) := hB
  have HBA : Hid (Below W.heap.size W (W.alloc (.cells #[.int .i64 kind,.string (strOfNums text),.int .i64 n,.int .i64 m,.int .i64 a,.int .i64 pos,.string (strOfNums doc),.slice ad kids.length cap] 28))) := (Below.refl _ _).alloc (Nat.le_refl _) _
  have hs1 := strOfNums_size text
  have hs2 := strOfNums_size doc
  clear ih hmem hkids hB htext hdoc hnone
  by_cases hbig : 80 < d ∨ 2000 < (text.length : Int) ∨ 2000 < (doc.length : Int)
  ·rw [if_pos hbig] at hR
   have HR : Hid (R = 1000) := hR
   clear hR
   generalize strOfNums text = T1 at HBA hs1 ⊢
   generalize strOfNums doc = T2 at HBA hs2 ⊢
   by_cases g1 : 80 < d
   ·clear hbig
    go_enter Tryz.func17,Tryz.ntmps17
    go_wp2
    go_ret
    exact ⟨by rw [HR.out]; rfl,HBA.out⟩
   ·by_cases g2 : 2000 < (text.length : Int)
    ·clear hbig
     go_enter Tryz.func17,Tryz.ntmps17
     go_wp2
     go_ret
     exact ⟨by rw [HR.out]; rfl,HBA.out⟩
    ·have g3 : 2000 < (doc.length : Int) := by omega
     clear hbig
     go_enter Tryz.func17,Tryz.ntmps17
     go_wp2
     go_ret
     exact ⟨by rw [HR.out]; rfl,HBA.out⟩
  ·rw [if_neg hbig] at hR
   have HR : Hid (R = tszs (kids.drop 0) (x + 1) (d + 1)) := hR
   have g1 : ¬ 80 < d := fun h => hbig (.inl h)
   have g2 : ¬ 2000 < (text.length : Int) := fun h => hbig (.inr (.inl h))
   have g3 : ¬ 2000 < (doc.length : Int) := fun h => hbig (.inr (.inr h))
   clear hR hbig
   generalize strOfNums text = T1 at HBA hs1 ⊢
   generalize strOfNums doc = T2 at HBA hs2 ⊢
   go_enter Tryz.func17,Tryz.ntmps17
   go_wp2
   go_loopw [1,28] (fun xv v wr => ∃ (k : Nat) (y : Int),xv = .int .i64 y ∧ v = .int .i64 (k : Int) ∧ k ≤ kids.length ∧ 0 ≤ y ∧ y ≤ 1000 ∧ Hid (R = tszs (kids.drop k) y (d + 1)) ∧ Hid (Below W.heap.size W wr)) (fun _ v _ => kids.length - (intOf v).toNat)
   case atStart => exact ⟨0,x + 1,rfl,rfl,by omega,by omega,by omega,HR,HBA⟩
   case round =>
    obtain ⟨k,y,rfl,rfl,hk,hy0,hy1,HJ,HBw⟩ := hrel
    by_cases hkl : k < kids.length
    ·obtain ⟨b,off,rfl,hlt,hc⟩ := HMem.out (by omega)
     obtain ⟨⟨kd,tx,n2,m2,a2,pos2,doc2,ad2,cap2,ks⟩,hkid⟩ : ∃ t,kids[k]? = some t := ⟨kids[k]'hkl,List.getElem?_eq_getElem hkl⟩
     have hBB : Below w.heap.size w wr := HB0.out.trans (HBw.out.mono HB0.out.size)
     obtain ⟨c0,c1,c2,c3,c4,c5,c6,c7⟩ := kid_cells hlt hBB hc hkid
     have HBn : Hid (Below w.heap.size w (wr.alloc (.cells #[.int .i64 kd,.string (strOfNums tx),.int .i64 n2,.int .i64 m2,.int .i64 a2,.int .i64 pos2,.string (strOfNums doc2),.slice ad2 ks.length cap2] 28))) := hBB.alloc hBB.size _
     have HBn2 : Hid (Below W.heap.size W (wr.alloc (.cells #[.int .i64 kd,.string (strOfNums tx),.int .i64 n2,.int .i64 m2,.int .i64 a2,.int .i64 pos2,.string (strOfNums doc2),.slice ad2 ks.length cap2] 28))) := HBw.out.alloc HBw.out.size _
     have HJ' := HJ.out
     rw [List.drop_eq_getElem_cons hkl,show kids[k] = .mk kd tx n2 m2 a2 pos2 doc2 ad2 cap2 ks by rw [List.getElem?_eq_getElem hkl] at hkid; exact Option.some.inj hkid,tszs] at HJ'
     by_cases hC : 400 < y
     ·rw [if_pos hC] at HJ'
      have HE : Hid (R = y) := HJ'
      generalize strOfNums tx = U1 at c1 HBn HBn2
      generalize strOfNums doc2 = U2 at c6 HBn HBn2
      clear HJ' hc HJ hkid hBB
      go_wp2
      go_ret
      exact ⟨by rw [HE.out]; rfl,HBn2.out⟩
     ·rw [if_neg hC] at HJ'
      have q := HIH.out k _ hkid _ y (d + 1) HBn.out hy0 (by omega) (by omega) (by omega)
      have hbd := tsz_bd (.mk kd tx n2 m2 a2 pos2 doc2 ad2 cap2 ks) y (d + 1) hy0 (by omega) (by omega) (by omega)
      change Calls Tryz.prog 17 #[.agg #[.int .i64 kd,.string (strOfNums tx),.int .i64 n2,.int .i64 m2,.int .i64 a2,.int .i64 pos2,.string (strOfNums doc2),.slice ad2 ks.length cap2],.int .i64 y,.int .i64 (d + 1)] _ _ at q
      generalize tsz (.mk kd tx n2 m2 a2 pos2 doc2 ad2 cap2 ks) y (d + 1) = C at q hbd HJ'
      generalize strOfNums tx = U1 at c1 q HBn HBn2
      generalize strOfNums doc2 = U2 at c6 q HBn HBn2
      have Q : Hid _ := q
      have HE : Hid (R = tszs (kids.drop (k + 1)) C (d + 1)) := HJ'
      clear HJ' q hc HJ hkid hBB
      go_wp2_with fail
      refine Calls.mono Q.out ?_
      rintro e w2 ⟨rfl,hb2⟩
      have HB2 : Hid (Below W.heap.size W w2) := HBn2.out.trans (hb2.mono HBn2.out.size)
      clear hb2
      go_wp2
      go_roundw
      case rel => first | exact ⟨k + 1,C,rfl,by go_num,by omega,by omega,by omega,HE,HB2⟩ | ((repeat apply Exists.intro); exact ⟨⟨k + 1,C,rfl,by go_num,by omega,by omega,by omega,HE,HB2⟩,rfl⟩)
      case measure => simp [intOf]; omega
    ·obtain rfl : k = kids.length := by omega
     have E : Hid (R = y) := by show _ = _; rw [HJ.out,List.drop_length,tszs]
     clear HJ
     go_wp2
     go_ret
     exact ⟨by rw [E.out]; rfl,HBw.out⟩

set_option maxRecDepth 10000 in
set_option maxHeartbeats 1000000 in
theorem rfew_any {w : World} {t : Tn} (h : TnOk w t) (W : World) (hB : Below w.heap.size w W) :
  Calls Tryz.prog 11 #[t.val] W fun e W' => e = .returned (.bool (tfew t)) ∧ Below W.heap.size W W' := by
 obtain ⟨C,hC⟩ : ∃ C,C = tsz t 0 0 := ⟨_,rfl⟩
 have HM : Hid (tfew t = decide (C ≤ 400)) := by rw [hC]; rfl
 have q := fun W2 (h2 : Below w.heap.size w W2) => rsz_any h W2 0 0 h2 (by omega) (by omega) (by omega) (by omega)
 rw [← hC] at q
 have Q : Hid _ := q
 clear q hC
 cases t with
 | mk kind text n m a pos doc ad cap kids =>
  change Calls Tryz.prog 11 #[.agg #[.int .i64 kind,.string (strOfNums text),.int .i64 n,.int .i64 m,.int .i64 a,.int .i64 pos,.string (strOfNums doc),.slice ad kids.length cap]] W _
  have HBA : Hid (Below w.heap.size w (W.alloc (.cells #[.int .i64 kind,.string (strOfNums text),.int .i64 n,.int .i64 m,.int .i64 a,.int .i64 pos,.string (strOfNums doc),.slice ad kids.length cap] 28))) := hB.alloc hB.size _
  have HBA2 : Hid (Below W.heap.size W (W.alloc (.cells #[.int .i64 kind,.string (strOfNums text),.int .i64 n,.int .i64 m,.int .i64 a,.int .i64 pos,.string (strOfNums doc),.slice ad kids.length cap] 28))) := (Below.refl _ _).alloc (Nat.le_refl _) _
  have Q2 : Hid (Calls Tryz.prog 17 #[.agg #[.int .i64 kind,.string (strOfNums text),.int .i64 n,.int .i64 m,.int .i64 a,.int .i64 pos,.string (strOfNums doc),.slice ad kids.length cap],.int .i64 0,.int .i64 0] _ _) := Q.out _ HBA.out
  generalize strOfNums text = T1 at HBA HBA2 Q2 ⊢
  generalize strOfNums doc = T2 at HBA HBA2 Q2 ⊢
  go_enter Tryz.func11,Tryz.ntmps11
  go_wp2_with fail
  refine Calls.mono Q2.out ?_
  rintro e w2 ⟨rfl,hb2⟩
  go_wp2
  go_ret
  exact ⟨by rw [HM.out]; rfl,HBA2.out.trans (hb2.mono HBA2.out.size)⟩

end Go.Proofs.YtlekfcehmlepkaaGreatDoor

namespace Go.Proofs.YtlekfcehmlepkaaGreatDoor
open Go.RowKit
set_option linter.unusedVariables false

theorem own_cells {w w1 : World} {cs : Array Value} {ty : TypeId} (hb : Below (w.alloc (.cells cs ty)).heap.size (w.alloc (.cells cs ty)) w1) (i : Nat) (v : Value) (hv : cs[i]? = some v) : w1.cell? ⟨w.heap.size,i,none⟩ = some v :=
 (hb.cell (by simp)).trans (by rw [World.cell?_alloc_new]; exact hv)

end Go.Proofs.YtlekfcehmlepkaaGreatDoor

namespace Go.Proofs.YtlekfcehmlepkaaGreatDoor
open Go.RowKit
set_option linter.unusedVariables false
set_option linter.unusedSimpArgs false

structure Kl (w : World) (ad : Option Addr) (cap : Nat) (kids : List Tn) : Prop where
 hlen : (kids.length : Int) ≤ 9223372036854775807
 hcap : kids.length ≤ cap
 hnil : ad = none → cap = 0
 hmem : 0 < kids.length → ∃ b off,ad = some ⟨b,off,none⟩ ∧ b < w.heap.size ∧ ∀ (i : Nat) (t : Tn),kids[i]? = some t → ∀ (j : Nat) (u : Value),t.cells[j]? = some u → w.cell? ⟨b,off + i * 8 + j,none⟩ = some u
 hall : ∀ (i : Nat) (t : Tn),kids[i]? = some t → TnOk w t

theorem Kl.under {w w' : World} {ad : Option Addr} {cap : Nat} {kids : List Tn} (h : Kl w ad cap kids) (hb : Below w.heap.size w w') : Kl w' ad cap kids := by
 refine ⟨h.hlen,h.hcap,h.hnil,fun hp => ?_,fun i t hi => (h.hall i t hi).under hb⟩
 obtain ⟨b,off,h1,h2,h3⟩ := h.hmem hp
 exact ⟨b,off,h1,Nat.lt_of_lt_of_le h2 hb.size,fun i t hi j u hj => (hb.cell h2).trans (h3 i t hi j u hj)⟩

theorem TnOk.kl {w : World} {kind : Int} {text : List Int} {n m a pos : Int} {doc : List Int} {ad : Option Addr} {cap : Nat} {kids : List Tn} (h : TnOk w (.mk kind text n m a pos doc ad cap kids)) : Kl w ad cap kids := by
 cases h with
 | mk hkind htext htl hn hm ha hpos hdoc hdl hkl hcap hnone hmem hkids => exact ⟨hkl,hcap,hnone,hmem,hkids⟩

def Goin (k : FuncId) : Prop := ∀ (args : Array Value) (w : World),(callFunc k args).run Tryz.prog w = .ok (.enter k args) w

set_option maxRecDepth 10000 in
set_option maxHeartbeats 2000000 in
theorem peach_any {w : World} {ad : Option Addr} {cap : Nat} {kids : List Tn} (hk : Kl w ad cap kids) (kf : FuncId) (hin : Goin kf) (caps : Array Value) (J : Nat → World → Prop) (Z : World → Prop)
  (hB : ∀ i V,J i V → Below w.heap.size w V) (hJ : ∀ i V V',J i V → Below V.heap.size V V' → J i V')
  (hf : ∀ (i : Nat) (t : Tn),kids[i]? = some t → ∀ V,J i V → Calls Tryz.prog kf (#[t.val] ++ caps) V fun e V' => (e = .returned (.bool true) ∧ J (i + 1) V') ∨ (e = .returned (.bool false) ∧ Z V'))
  (W : World) (h0 : J 0 W) :
  Calls Tryz.prog 49 #[.slice ad kids.length cap,.func (.func kf) #[] caps] W fun e W' => (e = .returned (.bool true) ∧ J kids.length W') ∨ (e = .returned (.bool false) ∧ Z W') := by
 have hkl := hk.hlen
 have HMem : Hid _ := hk.hmem
 have HF : Hid _ := hf
 have HS : Hid (∀ i V,J i V → Below w.heap.size w V) := hB
 have HJ : Hid (∀ i V V',J i V → Below V.heap.size V V' → J i V') := hJ
 have H0 : Hid (J 0 W) := h0
 clear hk hf hB hJ h0
 unfold Goin at hin
 go_enter Tryz.func49,Tryz.ntmps49
 go_wp2
 go_loopw [9] (fun v wr => ∃ (k : Nat),v = .int .i64 (k : Int) ∧ k ≤ kids.length ∧ Hid (J k wr)) (fun v _ => kids.length - (intOf v).toNat)
 case atStart => exact ⟨0,rfl,by omega,H0⟩
 case round =>
  obtain ⟨k,rfl,hk,HK⟩ := hrel
  by_cases hkl2 : k < kids.length
  ·obtain ⟨b,off,rfl,hlt,hc⟩ := HMem.out (by omega)
   obtain ⟨⟨kd,tx,n2,m2,a2,pos2,doc2,ad2,cap2,ks⟩,hkid⟩ : ∃ t,kids[k]? = some t := ⟨kids[k]'hkl2,List.getElem?_eq_getElem hkl2⟩
   have hBB : Below w.heap.size w wr := HS.out _ _ HK.out
   obtain ⟨c0,c1,c2,c3,c4,c5,c6,c7⟩ := kid_cells hlt hBB hc hkid
   have HBn : Hid (J k (wr.alloc (.cells #[.int .i64 kd,.string (strOfNums tx),.int .i64 n2,.int .i64 m2,.int .i64 a2,.int .i64 pos2,.string (strOfNums doc2),.slice ad2 ks.length cap2] 28))) := HJ.out _ _ _ HK.out ((Below.refl _ _).alloc (Nat.le_refl _) _)
   have q := HF.out k _ hkid _ HBn.out
   change Calls Tryz.prog kf ((#[Value.agg #[.int .i64 kd,.string (strOfNums tx),.int .i64 n2,.int .i64 m2,.int .i64 a2,.int .i64 pos2,.string (strOfNums doc2),.slice ad2 ks.length cap2]] : Array Value) ++ caps) _ _ at q
   generalize strOfNums tx = U1 at c1 q HBn
   generalize strOfNums doc2 = U2 at c6 q HBn
   have Q : Hid _ := q
   clear q hc hkid hBB
   go_wp2_with fail
   refine Calls.mono Q.out ?_
   rintro e w2 (⟨rfl,hz⟩ | ⟨rfl,hz⟩)
   ·have HB2 : Hid (J (k + 1) w2) := hz
    clear hz
    go_wp2
    go_roundw
    case rel => first | exact ⟨k + 1,by go_num,by omega,HB2⟩ | ((repeat apply Exists.intro); exact ⟨⟨k + 1,by go_num,by omega,HB2⟩,rfl⟩)
    case measure => simp [intOf]; omega
   ·have HZ : Hid (Z w2) := hz
    clear hz
    go_wp2
    go_ret
    exact .inr ⟨rfl,HZ.out⟩
  ·obtain rfl : k = kids.length := by omega
   go_wp2
   go_ret
   exact .inl ⟨rfl,HK.out⟩

theorem one_cell_of {V : World} {g : Nat} {v : Value} {t : TypeId} (h : V.heap[g]? = some (.cells #[v] t (0,0))) : V.cell? ⟨g,0,none⟩ = some v := by
 simp [World.cell?,h]

theorem one_frozen {V : World} {g : Nat} {v : Value} {t : TypeId} (h : V.heap[g]? = some (.cells #[v] t (0,0))) : V.frozen? ⟨g,0,none⟩ = false := by
 simp [World.frozen?,h]

theorem alloc_at (w : World) (o : Obj) {k : Nat} (hk : k = w.heap.size) : (w.alloc o).heap[k]? = some o := by subst hk; exact heap_alloc_new _ _

theorem one_lt {V : World} {g : Nat} {o : Obj} (h : V.heap[g]? = some o) : g < V.heap.size := by
 rcases Nat.lt_or_ge g V.heap.size with h' | h'
 ·exact h'
 ·rw [Array.getElem?_eq_none h'] at h; cases h

theorem alloc_old {w : World} {o x : Obj} {k : Nat} (h : w.heap[k]? = some x) : (w.alloc o).heap[k]? = some x :=
 (((Below.refl w.heap.size w).alloc (Nat.le_refl _) o).block _ (one_lt h)).trans h

mutual
theorem tcnt_or : ∀ (t : Tn) (x : Int),0 ≤ x → x ≤ 20000 → tcnt t x ≤ 20000 ∨ tcnt t x = 30000
 | .mk _ _ _ _ _ _ _ _ _ kids,x,h0,h1 => by
  rw [tcnt]
  by_cases h : 20000 < x + 1
  ·rw [if_pos h]; exact .inr rfl
  ·rw [if_neg h]
   exact tcnts_or kids (x + 1) (by omega) (by omega)
theorem tcnts_or : ∀ (l : List Tn) (x : Int),0 ≤ x → x ≤ 20000 → tcnts l x ≤ 20000 ∨ tcnts l x = 30000
 | [],x,h0,h1 => by rw [tcnts]; exact .inl h1
 | k :: r,x,h0,h1 => by
  have h2 := tcnt_bd k x h0 h1
  rw [tcnts]
  by_cases h : 20000 < tcnt k x
  ·rw [if_pos h]; exact .inr rfl
  ·rw [if_neg h]
   exact tcnts_or r (tcnt k x) (by omega) (by omega)
end

structure Cst (w : World) (gc gd : Nat) (V : World) (c : Int) : Prop where
 below : Below w.heap.size w V
 cnt : V.heap[gc]? = some (.cells #[.int .i64 c] 3 (0,0))
 self : V.heap[gd]? = some (.cells #[.func (.func 66) #[] #[.pointer (some ⟨gc,0,none⟩),.pointer (some ⟨gd,0,none⟩)]] 29 (0,0))

theorem Cst.under {w : World} {gc gd : Nat} {V V' : World} {c : Int} (h : Cst w gc gd V c) (hb : Below V.heap.size V V') : Cst w gc gd V' c :=
 ⟨h.below.trans (hb.mono h.below.size),(hb.block _ (one_lt h.cnt)).trans h.cnt,(hb.block _ (one_lt h.self)).trans h.self⟩

theorem Cst.set {w : World} {gc gd : Nat} {V : World} {c : Int} (h : Cst w gc gd V c) (hc : w.heap.size ≤ gc) (hne : gd ≠ gc) (y : Int) : Cst w gc gd (V.setCell ⟨gc,0,none⟩ (.int .i64 y)) y :=
 ⟨h.below.setCell hc _,one_setCell h.cnt,(heap_setCell_other _ _ _ _ hne).trans h.self⟩

set_option maxRecDepth 10000 in
set_option maxHeartbeats 2000000 in
theorem pcnt_any {w : World} {t : Tn} (h : TnOk w t) (gc gd : Nat) (hc : w.heap.size ≤ gc) (hne : gd ≠ gc) : ∀ (V : World) (c : Int),Cst w gc gd V c → 0 ≤ c → c ≤ 20000 →
  Calls Tryz.prog 66 #[t.val,.pointer (some ⟨gc,0,none⟩),.pointer (some ⟨gd,0,none⟩)] V fun e V' => (e = .returned (.bool true) ∧ Cst w gc gd V' (tcnt t c) ∧ tcnt t c ≤ 20000) ∨ (e = .returned (.bool false) ∧ 20000 < tcnt t c ∧ Below w.heap.size w V') := by
 induction h with
 | @mk kind text n m a pos doc ad cap kids hkind htext htl hn hm ha hpos hdoc hdl hkl hcap hnone hmem hkids ih =>
  intro V c hV h0 h1
  have hkl : Kl w ad cap kids := ⟨hkl,hcap,hnone,hmem,hkids⟩
  have hcell := one_cell_of hV.cnt
  have hself := one_cell_of hV.self
  have hlt := one_lt hV.cnt
  have hfr := one_frozen hV.cnt
  have hltd := one_lt hV.self
  have hset := hV.set hc hne (c + 1)
  show Calls Tryz.prog 66 #[.agg #[.int .i64 kind,.string (strOfNums text),.int .i64 n,.int .i64 m,.int .i64 a,.int .i64 pos,.string (strOfNums doc),.slice ad kids.length cap],.pointer (some ⟨gc,0,none⟩),.pointer (some ⟨gd,0,none⟩)] V _
  obtain ⟨R,hR⟩ : ∃ R,R = tcnt (.mk kind text n m a pos doc ad cap kids) c := ⟨_,rfl⟩
  rw [← hR]
  rw [tcnt] at hR
  have hcap' : ∀ (T1 T2 : ByteArray),Cst w gc gd ((V.setCell ⟨gc,0,none⟩ (.int .i64 (c + 1))).alloc (.cells #[.int .i64 kind,.string T1,.int .i64 n,.int .i64 m,.int .i64 a,.int .i64 pos,.string T2,.slice ad kids.length cap] 28)) (c + 1) := fun _ _ => hset.under ((Below.refl _ _).alloc (Nat.le_refl _) _)
  generalize strOfNums text = T1
  generalize strOfNums doc = T2
  have HA := hcap' T1 T2
  have hself2 : ((V.setCell ⟨gc,0,none⟩ (.int .i64 (c + 1))).alloc (.cells #[.int .i64 kind,.string T1,.int .i64 n,.int .i64 m,.int .i64 a,.int .i64 pos,.string T2,.slice ad kids.length cap] 28)).cell? ⟨gd,0,none⟩ = some (.func (.func 66) #[] #[.pointer (some ⟨gc,0,none⟩),.pointer (some ⟨gd,0,none⟩)]) := one_cell_of HA.self
  by_cases hbig : c + 1 ≤ 20000
  ·rw [if_neg (by omega)] at hR
   have q := peach_any hkl 66 Tryz.call66 #[.pointer (some ⟨gc,0,none⟩),.pointer (some ⟨gd,0,none⟩)] (fun i U => ∃ y,Cst w gc gd U y ∧ 0 ≤ y ∧ y ≤ 20000 ∧ R = tcnts (kids.drop i) y) (fun U => 20000 < R ∧ Below w.heap.size w U)
    (fun i U ⟨y,hy,_⟩ => hy.below) (fun i U U' ⟨y,hy,h2,h3,h4⟩ hb => ⟨y,hy.under hb,h2,h3,h4⟩)
    (fun i t hi U ⟨y,hy,h2,h3,h4⟩ => by
     refine (ih i t hi U y hy h2 h3).mono ?_
     have hil : i < kids.length := (List.getElem?_eq_some_iff.1 hi).1
     rw [List.drop_eq_getElem_cons hil,show kids[i] = t by rw [List.getElem?_eq_getElem hil] at hi; exact Option.some.inj hi,tcnts] at h4
     have hbd := tcnt_bd t y h2 h3
     rintro e U' (⟨rfl,h5,h6⟩ | ⟨rfl,h5,h6⟩)
     ·rw [if_neg (by omega)] at h4
      exact .inl ⟨rfl,_,h5,by omega,h6,h4⟩
     ·rw [if_pos h5] at h4
      exact .inr ⟨rfl,by omega,h6⟩) _ ⟨c + 1,HA,by omega,hbig,by rw [hR]; rfl⟩
   have Q : Hid _ := q
   clear q hcap' ih hkl hmem hkids hset HA hV hR htext hdoc hnone
   go_enter Tryz.func66,Tryz.ntmps66
   go_wp2_with fail
   refine Calls.mono Q.out ?_
   rintro e U (⟨rfl,y,h5,h6,h7,h8⟩ | ⟨rfl,h5,h6⟩)
   ·have H : Hid _ := And.intro h5 (And.intro h7 h8)
    clear h5 h7 h8
    go_wp2
    go_ret
    obtain ⟨h5,h7,h8⟩ := H.out
    have h8' : R = y := by rw [h8,List.drop_length,tcnts]
    subst h8'
    exact .inl ⟨rfl,h5,h7⟩
   ·have H : Hid _ := And.intro h5 h6
    clear h5 h6
    go_wp2
    go_ret
    exact .inr ⟨rfl,H.out.1,H.out.2⟩
  ·rw [if_pos (by omega)] at hR
   have HB : Hid (Below w.heap.size w _) := HA.below
   have HR : Hid (20000 < R) := by show _ < _; omega
   clear hcap' ih hkl hmem hkids hset HA hV htext hdoc hnone hR
   go_enter Tryz.func66,Tryz.ntmps66
   go_wp2
   go_ret
   exact .inr ⟨rfl,HR.out,HB.out⟩

set_option maxRecDepth 10000 in
set_option maxHeartbeats 2000000 in
theorem pcount_all {w : World} {t : Tn} (h : TnOk w t) (W : World) (hB : Below w.heap.size w W) :
  Calls Tryz.prog 44 #[t.val] W fun e W' => e = .returned (.int .i64 (tcount t)) ∧ Below W.heap.size W W' := by
 have q := fun V hV => pcnt_any (h.under hB) (W.heap.size + 1) (W.heap.size + 2) (by omega) (by omega) V 0 hV (by omega) (by omega)
 have hbd := tcnt_or t 0 (by omega) (by omega)
 have E0 : tcount t = min (tcnt t 0) 30000 := rfl
 rw [E0]
 clear E0
 generalize tcnt t 0 = C at q hbd ⊢
 have hmf : ∀ (fn : Fn) (first cap : Array Value) (w : World),(Instr.makeFunc fn first cap).run Tryz.prog w = .ok (.func fn first cap) w := fun _ _ _ _ => rfl
 obtain ⟨kind,text,n,m,a,pos,doc,ad,cap,kids⟩ := t
 show Calls Tryz.prog 44 #[.agg #[.int .i64 kind,.string (strOfNums text),.int .i64 n,.int .i64 m,.int .i64 a,.int .i64 pos,.string (strOfNums doc),.slice ad kids.length cap]] W _
 change ∀ V,_ → Calls Tryz.prog 66 #[.agg #[.int .i64 kind,.string (strOfNums text),.int .i64 n,.int .i64 m,.int .i64 a,.int .i64 pos,.string (strOfNums doc),.slice ad kids.length cap],.pointer (some ⟨W.heap.size + 1,0,none⟩),.pointer (some ⟨W.heap.size + 2,0,none⟩)] V _ at q
 generalize strOfNums text = T1 at q ⊢
 generalize strOfNums doc = T2 at q ⊢
 have HQ : Hid _ := q
 clear q h hB
 go_enter Tryz.func44,Tryz.ntmps44
 go_wp2_with fail
 refine Calls.mono (HQ.out _ ?_) ?_
 ·exact ⟨(((Below.refl _ _).alloc (Nat.le_refl _) _).alloc (by simp only [World.size_alloc]; omega) _).alloc (by simp only [World.size_alloc]; omega) _,alloc_old (alloc_at _ _ (by simp)),alloc_at _ _ (by simp)⟩
 ·rintro e U (⟨rfl,h1,h2⟩ | ⟨rfl,h1,h2⟩)
  ·have hc := one_cell_of h1.cnt
   have HB : Hid (Below W.heap.size W U) := h1.below
   clear h1
   go_wp2
   go_ret
   exact ⟨by rw [show min C 30000 = C by omega]; rfl,HB.out⟩
  ·have HB : Hid (Below W.heap.size W U) := h2
   clear h2
   go_wp2
   go_ret
   exact ⟨by rw [show min C 30000 = 30000 by omega]; rfl,HB.out⟩

structure Dst (w : World) (gp gm gd : Nat) (V : World) (m d : Int) : Prop where
 below : Below w.heap.size w V
 dep : V.heap[gp]? = some (.cells #[.int .i64 d] 3 (0,0))
 most : V.heap[gm]? = some (.cells #[.int .i64 m] 3 (0,0))
 self : V.heap[gd]? = some (.cells #[.func (.func 67) #[] #[.pointer (some ⟨gp,0,none⟩),.pointer (some ⟨gm,0,none⟩),.pointer (some ⟨gd,0,none⟩)]] 29 (0,0))

theorem Dst.under {w : World} {gp gm gd : Nat} {V V' : World} {m d : Int} (h : Dst w gp gm gd V m d) (hb : Below V.heap.size V V') : Dst w gp gm gd V' m d :=
 ⟨h.below.trans (hb.mono h.below.size),(hb.block _ (one_lt h.dep)).trans h.dep,(hb.block _ (one_lt h.most)).trans h.most,(hb.block _ (one_lt h.self)).trans h.self⟩

theorem Dst.set {w : World} {gp gm gd : Nat} {V : World} {m d : Int} (h : Dst w gp gm gd V m d) (hc : w.heap.size ≤ gp) (h1 : gm ≠ gp) (h2 : gd ≠ gp) (y : Int) : Dst w gp gm gd (V.setCell ⟨gp,0,none⟩ (.int .i64 y)) m y :=
 ⟨h.below.setCell hc _,one_setCell h.dep,(heap_setCell_other _ _ _ _ h1).trans h.most,(heap_setCell_other _ _ _ _ h2).trans h.self⟩

theorem Dst.set2 {w : World} {gp gm gd : Nat} {V : World} {m d : Int} (h : Dst w gp gm gd V m d) (hc : w.heap.size ≤ gm) (h1 : gp ≠ gm) (h2 : gd ≠ gm) (y : Int) : Dst w gp gm gd (V.setCell ⟨gm,0,none⟩ (.int .i64 y)) y d :=
 ⟨h.below.setCell hc _,(heap_setCell_other _ _ _ _ h1).trans h.dep,one_setCell h.most,(heap_setCell_other _ _ _ _ h2).trans h.self⟩

set_option maxRecDepth 10000 in
set_option maxHeartbeats 2000000 in
theorem pdp_any {w : World} {t : Tn} (h : TnOk w t) (gp gm gd : Nat) (hp : w.heap.size ≤ gp) (hm : w.heap.size ≤ gm) (h1 : gm ≠ gp) (h2 : gd ≠ gp) (h3 : gd ≠ gm) : ∀ (V : World) (m d : Int),Dst w gp gm gd V m d → 0 ≤ d → d ≤ 64 → 0 ≤ m → m ≤ 64 →
  Calls Tryz.prog 67 #[t.val,.pointer (some ⟨gp,0,none⟩),.pointer (some ⟨gm,0,none⟩),.pointer (some ⟨gd,0,none⟩)] V fun e V' => (e = .returned (.bool true) ∧ Dst w gp gm gd V' (max m (tdp t (d + 1))) d ∧ tdp t (d + 1) ≤ 64) ∨ (e = .returned (.bool false) ∧ 64 < tdp t (d + 1) ∧ ∃ m',Dst w gp gm gd V' m' d) := by
 induction h with
 | @mk kind text n mm a pos doc ad cap kids hkind htext htl hn hmm ha hpos hdoc hdl hkl hcap hnone hmem hkids ih =>
  intro V m d hV h0 h01 hm0 hm1
  have hkl : Kl w ad cap kids := ⟨hkl,hcap,hnone,hmem,hkids⟩
  have hcell := one_cell_of hV.dep
  have hmost := one_cell_of hV.most
  have hself := one_cell_of hV.self
  have hlt := one_lt hV.dep
  have hltm := one_lt hV.most
  have hltd := one_lt hV.self
  have hfr := one_frozen hV.dep
  have hfrm := one_frozen hV.most
  obtain ⟨M,hM⟩ : ∃ M,M = max m (d + 1) := ⟨_,rfl⟩
  have hM1 : max m (d + 1) = M := hM.symm
  have hMb : 0 ≤ M ∧ M ≤ 65 := by omega
  obtain ⟨hMb0,hMb1⟩ := hMb
  have hset := hV.set hp h1 h2 (d + 1)
  have hset2 := hset.set2 hm h1.symm h3 M
  show Calls Tryz.prog 67 #[.agg #[.int .i64 kind,.string (strOfNums text),.int .i64 n,.int .i64 mm,.int .i64 a,.int .i64 pos,.string (strOfNums doc),.slice ad kids.length cap],.pointer (some ⟨gp,0,none⟩),.pointer (some ⟨gm,0,none⟩),.pointer (some ⟨gd,0,none⟩)] V _
  obtain ⟨R,hR⟩ : ∃ R,R = tdp (.mk kind text n mm a pos doc ad cap kids) (d + 1) := ⟨_,rfl⟩
  rw [← hR]
  rw [tdp] at hR
  have hcap' : ∀ (T1 T2 : ByteArray),Dst w gp gm gd (((V.setCell ⟨gp,0,none⟩ (.int .i64 (d + 1))).setCell ⟨gm,0,none⟩ (.int .i64 M)).alloc (.cells #[.int .i64 kind,.string T1,.int .i64 n,.int .i64 mm,.int .i64 a,.int .i64 pos,.string T2,.slice ad kids.length cap] 28)) M (d + 1) := fun _ _ => hset2.under ((Below.refl _ _).alloc (Nat.le_refl _) _)
  generalize strOfNums text = T1
  generalize strOfNums doc = T2
  have HA := hcap' T1 T2
  have hmost2 : (V.setCell ⟨gp,0,none⟩ (.int .i64 (d + 1))).cell? ⟨gm,0,none⟩ = some (.int .i64 m) := one_cell_of hset.most
  have hfrm2 : (V.setCell ⟨gp,0,none⟩ (.int .i64 (d + 1))).frozen? ⟨gm,0,none⟩ = false := one_frozen hset.most
  have hdep2 : ((V.setCell ⟨gp,0,none⟩ (.int .i64 (d + 1))).setCell ⟨gm,0,none⟩ (.int .i64 M)).cell? ⟨gp,0,none⟩ = some (.int .i64 (d + 1)) := one_cell_of hset2.dep
  have hfrd2 : ((V.setCell ⟨gp,0,none⟩ (.int .i64 (d + 1))).setCell ⟨gm,0,none⟩ (.int .i64 M)).frozen? ⟨gp,0,none⟩ = false := one_frozen hset2.dep
  have hself2 : ((V.setCell ⟨gp,0,none⟩ (.int .i64 (d + 1))).setCell ⟨gm,0,none⟩ (.int .i64 M)).cell? ⟨gd,0,none⟩ = some (.func (.func 67) #[] #[.pointer (some ⟨gp,0,none⟩),.pointer (some ⟨gm,0,none⟩),.pointer (some ⟨gd,0,none⟩)]) := one_cell_of hset2.self
  have hsz1 : gm < (V.setCell ⟨gp,0,none⟩ (.int .i64 (d + 1))).heap.size := one_lt hset.most
  have hsz2 : gp < ((V.setCell ⟨gp,0,none⟩ (.int .i64 (d + 1))).setCell ⟨gm,0,none⟩ (.int .i64 M)).heap.size := one_lt hset2.dep
  have hsz3 : gd < ((V.setCell ⟨gp,0,none⟩ (.int .i64 (d + 1))).setCell ⟨gm,0,none⟩ (.int .i64 M)).heap.size := one_lt hset2.self
  have HPs : Hid (w.heap.size ≤ gp ∧ gm ≠ gp ∧ gd ≠ gp) := ⟨hp,h1,h2⟩
  by_cases hbig : d + 1 ≤ 64
  ·rw [if_neg (by omega)] at hR
   have q := peach_any hkl 67 Tryz.call67 #[.pointer (some ⟨gp,0,none⟩),.pointer (some ⟨gm,0,none⟩),.pointer (some ⟨gd,0,none⟩)] (fun i U => ∃ y z,Dst w gp gm gd U y (d + 1) ∧ y = max m z ∧ d + 1 ≤ z ∧ z ≤ 64 ∧ R = tdps (kids.drop i) (d + 1) z) (fun U => 64 < R ∧ ∃ m',Dst w gp gm gd U m' (d + 1))
    (fun i U ⟨y,z,hy,_⟩ => hy.below) (fun i U U' ⟨y,z,hy,h5⟩ hb => ⟨y,z,hy.under hb,h5⟩)
    (fun i t hi U ⟨y,z,hy,h5,h6,h7,h8⟩ => by
     refine (ih i t hi U y (d + 1) hy (by omega) hbig (by omega) (by omega)).mono ?_
     have hil : i < kids.length := (List.getElem?_eq_some_iff.1 hi).1
     rw [List.drop_eq_getElem_cons hil,show kids[i] = t by rw [List.getElem?_eq_getElem hil] at hi; exact Option.some.inj hi,tdps] at h8
     rintro e U' (⟨rfl,h9,h10⟩ | ⟨rfl,h9,h10⟩)
     ·rw [if_neg (by omega)] at h8
      exact .inl ⟨rfl,_,_,h9,by omega,by omega,by omega,h8⟩
     ·rw [if_pos (by omega)] at h8
      exact .inr ⟨rfl,by omega,h10⟩) _ ⟨M,d + 1,HA,hM,by omega,hbig,by rw [hR]; rfl⟩
   have Q : Hid _ := q
   clear q hcap' ih hkl hmem hkids hset hset2 HA hV hR htext hdoc hnone hM hp hm h1 h2 h3
   go_enter Tryz.func67,Tryz.ntmps67
   go_wp2_with fail
   refine Calls.mono Q.out ?_
   clear hdep2 hself2 hmost2 hfrm2 hfrd2 hcell hmost hself hfr hfrm hlt hltm hltd hsz1 hsz2 hsz3
   rintro e U (⟨rfl,y,z,h5,h6,h7,h8,h9⟩ | ⟨rfl,h5,m',h6⟩)
   ·have hc1 := one_cell_of h5.dep
    have hc2 := one_frozen h5.dep
    have HS := h5.set HPs.out.1 HPs.out.2.1 HPs.out.2.2 d
    have H : Hid _ := And.intro HS (And.intro h6 (And.intro h8 h9))
    clear h5 h6 h8 h9 HS
    go_wp2
    go_ret
    obtain ⟨h5,h6,h8,h9⟩ := H.out
    have h9' : R = z := by rw [h9,List.drop_length,tdps]
    subst h9'
    subst h6
    exact .inl ⟨rfl,h5,h8⟩
   ·have hc1 := one_cell_of h6.dep
    have hc2 := one_frozen h6.dep
    have HS := h6.set HPs.out.1 HPs.out.2.1 HPs.out.2.2 d
    have H : Hid _ := And.intro HS h5
    clear h5 h6 HS
    go_wp2
    go_ret
    exact .inr ⟨rfl,H.out.2,m',H.out.1⟩
  ·rw [if_pos (by omega)] at hR
   have HR : Hid (64 < R) := by show _ < _; omega
   have HS : Hid (∀ T1 T2,∃ m',Dst w gp gm gd (((((V.setCell ⟨gp,0,none⟩ (.int .i64 (d + 1))).setCell ⟨gm,0,none⟩ (.int .i64 M)).setCell ⟨gp,0,none⟩ (.int .i64 d)).alloc (.cells #[.int .i64 kind,.string T1,.int .i64 n,.int .i64 mm,.int .i64 a,.int .i64 pos,.string T2,.slice ad kids.length cap] 28))) m' d) := fun T1 T2 => ⟨M,(hset2.set hp h1 h2 d).under ((Below.refl _ _).alloc (Nat.le_refl _) _)⟩
   clear hcap' ih hkl hmem hkids hset hset2 HA hV htext hdoc hnone hR hM hp hm h1 h2 h3
   go_enter Tryz.func67,Tryz.ntmps67
   go_wp2
   go_ret
   exact .inr ⟨rfl,HR.out,HS.out _ _⟩

set_option maxRecDepth 10000 in
set_option maxHeartbeats 2000000 in
theorem pdeep_all {w : World} {t : Tn} (h : TnOk w t) (W : World) (hB : Below w.heap.size w W) :
  Calls Tryz.prog 45 #[t.val] W fun e W' => e = .returned (.int .i64 (tdeep t)) ∧ Below W.heap.size W W' := by
 have q := fun V hV => pdp_any (h.under hB) (W.heap.size + 2) (W.heap.size + 1) (W.heap.size + 3) (by omega) (by omega) (by omega) (by omega) (by omega) V 0 0 hV (by omega) (by omega) (by omega) (by omega)
 have hbd := tdp_bd t 1 (by omega)
 have E0 : tdeep t = if 64 < tdp t 1 then 100 else tdp t 1 := rfl
 rw [E0]
 clear E0
 change ∀ V,_ → Calls _ _ _ V (fun e V' => (e = .returned (.bool true) ∧ Dst W (W.heap.size + 2) (W.heap.size + 1) (W.heap.size + 3) V' (max 0 (tdp t 1)) 0 ∧ tdp t 1 ≤ 64) ∨ (e = .returned (.bool false) ∧ 64 < tdp t 1 ∧ ∃ m',Dst W (W.heap.size + 2) (W.heap.size + 1) (W.heap.size + 3) V' m' 0)) at q
 generalize tdp t 1 = C at q hbd ⊢
 have hmf : ∀ (fn : Fn) (first cap : Array Value) (w : World),(Instr.makeFunc fn first cap).run Tryz.prog w = .ok (.func fn first cap) w := fun _ _ _ _ => rfl
 obtain ⟨kind,text,n,m,a,pos,doc,ad,cap,kids⟩ := t
 show Calls Tryz.prog 45 #[.agg #[.int .i64 kind,.string (strOfNums text),.int .i64 n,.int .i64 m,.int .i64 a,.int .i64 pos,.string (strOfNums doc),.slice ad kids.length cap]] W _
 change ∀ V,_ → Calls Tryz.prog 67 #[.agg #[.int .i64 kind,.string (strOfNums text),.int .i64 n,.int .i64 m,.int .i64 a,.int .i64 pos,.string (strOfNums doc),.slice ad kids.length cap],.pointer (some ⟨W.heap.size + 2,0,none⟩),.pointer (some ⟨W.heap.size + 1,0,none⟩),.pointer (some ⟨W.heap.size + 3,0,none⟩)] V _ at q
 generalize strOfNums text = T1 at q ⊢
 generalize strOfNums doc = T2 at q ⊢
 have HQ : Hid _ := q
 clear q h hB
 go_enter Tryz.func45,Tryz.ntmps45
 go_wp2_with fail
 refine Calls.mono (HQ.out _ ?_) ?_
 ·exact ⟨((((Below.refl _ _).alloc (Nat.le_refl _) _).alloc (by simp only [World.size_alloc]; omega) _).alloc (by simp only [World.size_alloc]; omega) _).alloc (by simp only [World.size_alloc]; omega) _,alloc_old (alloc_at _ _ (by simp)),alloc_old (alloc_old (alloc_at _ _ (by simp))),alloc_at _ _ (by simp)⟩
 ·rintro e U (⟨rfl,h1,h2⟩ | ⟨rfl,h1,m',h2⟩)
  ·have hc := one_cell_of h1.most
   have HB : Hid (Below W.heap.size W U) := h1.below
   clear h1
   rw [show max 0 C = C by omega] at hc
   go_wp2
   go_ret
   exact ⟨by first | rfl | (rw [if_neg (by omega)]; rfl),HB.out⟩
  ·have HB : Hid (Below W.heap.size W U) := h2.below
   clear h2
   go_wp2
   go_ret
   exact ⟨by first | rfl | (rw [if_pos h1]; rfl),HB.out⟩

theorem blk_cell {w : World} {g : Nat} {cs : Array Value} {t : TypeId} {fr : Nat × Nat} (h : w.heap[g]? = some (.cells cs t fr)) (i : Nat) (v : Value) (hv : cs[i]? = some v) : w.cell? ⟨g,i,none⟩ = some v := by
 simp [World.cell?,h,hv]

end Go.Proofs.YtlekfcehmlepkaaGreatDoor

namespace Go.Proofs.YtlekfcehmlepkaaGreatDoor
set_option linter.unusedVariables false

inductive TnShort : Tn → Prop
 | mk {kind : Int} {text : List Int} {n m a pos : Int} {doc : List Int} {ad : Option Addr} {cap : Nat} {kids : List Tn} (hl : (text.length : Int) ≤ 100000) (hk : ∀ (i : Nat) (t : Tn),kids[i]? = some t → TnShort t) : TnShort (.mk kind text n m a pos doc ad cap kids)

theorem tszs_low : ∀ (l : List Tn) (x d : Int),tszs l x d ≤ 400 → x ≤ 400
 | [],x,d,h => by rw [tszs] at h; exact h
 | k :: r,x,d,h => by
  rw [tszs] at h
  by_cases hx : 400 < x
  ·rw [if_pos hx] at h; omega
  ·omega

mutual
theorem tsz_short : ∀ (t : Tn) (x d : Int),tsz t x d ≤ 400 → TnShort t
 | .mk _ text _ _ _ _ doc _ _ kids,x,d,h => by
  rw [tsz] at h
  by_cases hx : 80 < d ∨ 2000 < (text.length : Int) ∨ 2000 < (doc.length : Int)
  ·rw [if_pos hx] at h; omega
  ·rw [if_neg hx] at h
   exact .mk (by omega) (tszs_short kids _ _ h)
theorem tszs_short : ∀ (l : List Tn) (x d : Int),tszs l x d ≤ 400 → ∀ (i : Nat) (t : Tn),l[i]? = some t → TnShort t
 | [],_,_,_,i,t,hi => by simp at hi
 | k :: r,x,d,h,i,t,hi => by
  rw [tszs] at h
  by_cases hx : 400 < x
  ·rw [if_pos hx] at h; omega
  ·rw [if_neg hx] at h
   cases i with
   | zero => simp at hi; rw [← hi]; exact tsz_short k x d (tszs_low _ _ _ h)
   | succ j => exact tszs_short r _ _ h j t (by simpa using hi)
end

theorem tfew_short {t : Tn} (h : tfew t = true) : TnShort t := tsz_short t 0 0 (of_decide_eq_true h)

end Go.Proofs.YtlekfcehmlepkaaGreatDoor

namespace Go.Proofs.YtlekfcehmlepkaaGreatDoor
open Go.RowKit
set_option linter.unusedVariables false
set_option linter.unusedSimpArgs false

def pdv (base c : Int) : Int := if dgt c = 99 then base else dgt c

theorem pdv_in {base c : Int} (h : dgt c < base) (hb : base ≤ 16) : pdv base c = dgt c := by unfold pdv; rw [if_neg (by omega)]

theorem Below.drewN'' (w : World) : ∀ n,Below w.heap.size w (w.drewN n)
 | 0 => Below.refl _ _
 | n + 1 => (Below.drewN'' w n).drew

set_option maxHeartbeats 1000000 in
theorem pclo_1 (c base : Int) (g : Nat) (w : World) (h0 : 48 ≤ c) (h1 : c ≤ 57) (b0 : 0 ≤ base) (b1 : base ≤ 16) (hc : w.cell? ⟨g,0,none⟩ = some (.int .u64 base)) :
  Calls Tryz.prog 174 #[.int .u8 c,.pointer (some ⟨g,0,none⟩)] w fun e w' => e = .returned (.tuple #[.int .u64 (c - 48),.bool (decide (c - 48 < base))]) ∧ ∃ n,w' = w.drewN n := by
 go_enter Tryz.func174,Tryz.ntmps174
 go_wp2
 go_quiet (fail)
 rename_i K _ hK
 refine hK _ _ ?_
 go_wp2
 go_ret2
 exact ⟨rfl,_,rfl⟩

set_option maxHeartbeats 1000000 in
theorem pclo_2 (c base : Int) (g : Nat) (w : World) (h0 : 97 ≤ c) (h1 : c ≤ 102) (b0 : 0 ≤ base) (b1 : base ≤ 16) (hc : w.cell? ⟨g,0,none⟩ = some (.int .u64 base)) :
  Calls Tryz.prog 174 #[.int .u8 c,.pointer (some ⟨g,0,none⟩)] w fun e w' => e = .returned (.tuple #[.int .u64 (c - 97 + 10),.bool (decide (c - 97 + 10 < base))]) ∧ ∃ n,w' = w.drewN n := by
 have e1 : ¬ c ≤ 57 := by omega
 go_enter Tryz.func174,Tryz.ntmps174
 go_wp2
 go_quiet (fail)
 rename_i K _ hK
 refine hK _ _ ?_
 go_wp2
 go_ret2
 exact ⟨rfl,_,rfl⟩

set_option maxHeartbeats 1000000 in
theorem pclo_3 (c base : Int) (g : Nat) (w : World) (h0 : 65 ≤ c) (h1 : c ≤ 70) (b0 : 0 ≤ base) (b1 : base ≤ 16) (hc : w.cell? ⟨g,0,none⟩ = some (.int .u64 base)) :
  Calls Tryz.prog 174 #[.int .u8 c,.pointer (some ⟨g,0,none⟩)] w fun e w' => e = .returned (.tuple #[.int .u64 (c - 65 + 10),.bool (decide (c - 65 + 10 < base))]) ∧ ∃ n,w' = w.drewN n := by
 have e2 : ¬ 97 ≤ c := by omega
 have e1 : ¬ c ≤ 57 := by omega
 go_enter Tryz.func174,Tryz.ntmps174
 go_wp2
 go_quiet (fail)
 rename_i K _ hK
 refine hK _ _ ?_
 go_wp2
 go_ret2
 exact ⟨rfl,_,rfl⟩

set_option maxHeartbeats 1000000 in
theorem pclo_4 (c base : Int) (g : Nat) (w : World) (h0 : 0 ≤ c) (h1 : c ≤ 255) (k1 : ¬ (48 ≤ c ∧ c ≤ 57)) (k2 : ¬ (97 ≤ c ∧ c ≤ 102)) (k3 : ¬ (65 ≤ c ∧ c ≤ 70)) (b0 : 0 ≤ base) (b1 : base ≤ 16) (hc : w.cell? ⟨g,0,none⟩ = some (.int .u64 base)) :
  Calls Tryz.prog 174 #[.int .u8 c,.pointer (some ⟨g,0,none⟩)] w fun e w' => e = .returned (.tuple #[.int .u64 base,.bool false]) ∧ ∃ n,w' = w.drewN n := by
 have hways : c < 48 ∨ (57 < c ∧ c < 65) ∨ (70 < c ∧ c < 97) ∨ 102 < c := by omega
 clear k1 k2 k3
 rcases hways with h | ⟨h,h'⟩ | ⟨h,h'⟩ | h
 all_goals
  go_enter Tryz.func174,Tryz.ntmps174
  go_wp2
  go_quiet (fail)
  first | (rename_i K _ hK; refine hK _ _ ?_) | (rename_i K _ hK _; refine hK _ _ ?_) | (rename_i K _ hK _ _; refine hK _ _ ?_) | (rename_i K _ hK _ _ _; refine hK _ _ ?_)
  go_wp2
  go_ret2
  exact ⟨by simp,_,rfl⟩

theorem pclo_any (c base : Int) (g : Nat) (w : World) (h0 : 0 ≤ c) (h1 : c ≤ 255) (b0 : 0 ≤ base) (b1 : base ≤ 16) (hc : w.cell? ⟨g,0,none⟩ = some (.int .u64 base)) :
  Calls Tryz.prog 174 #[.int .u8 c,.pointer (some ⟨g,0,none⟩)] w fun e w' => e = .returned (.tuple #[.int .u64 (pdv base c),.bool (decide (dgt c < base))]) ∧ Below w.heap.size w w' := by
 have fin : ∀ (x : Int) (y : Bool),x = pdv base c → y = decide (dgt c < base) → Calls Tryz.prog 174 #[.int .u8 c,.pointer (some ⟨g,0,none⟩)] w (fun e w' => e = .returned (.tuple #[.int .u64 x,.bool y]) ∧ ∃ n,w' = w.drewN n) →
   Calls Tryz.prog 174 #[.int .u8 c,.pointer (some ⟨g,0,none⟩)] w fun e w' => e = .returned (.tuple #[.int .u64 (pdv base c),.bool (decide (dgt c < base))]) ∧ Below w.heap.size w w' := by
  intro x y hx hy h
  refine h.mono ?_
  rintro e w' ⟨rfl,n,rfl⟩
  exact ⟨by rw [hx,hy],Below.drewN'' _ _⟩
 by_cases k1 : 48 ≤ c ∧ c ≤ 57
 ·have e := dgt_1 k1
  exact fin _ _ (by unfold pdv; rw [e,if_neg (by omega)]) (by rw [e]) (pclo_1 c base g w k1.1 k1.2 b0 b1 hc)
 by_cases k2 : 97 ≤ c ∧ c ≤ 102
 ·have e := dgt_2 k2
  exact fin _ _ (by unfold pdv; rw [e,if_neg (by omega)]; omega) (by rw [e,show c - 97 + 10 = c - 87 by omega]) (pclo_2 c base g w k2.1 k2.2 b0 b1 hc)
 by_cases k3 : 65 ≤ c ∧ c ≤ 70
 ·have e := dgt_3 k3
  exact fin _ _ (by unfold pdv; rw [e,if_neg (by omega)]; omega) (by rw [e,show c - 65 + 10 = c - 55 by omega]) (pclo_3 c base g w k3.1 k3.2 b0 b1 hc)
 ·have e := dgt_4 k1 k2 k3
  exact fin _ _ (by unfold pdv; rw [e,if_pos rfl]) (by rw [e]; simp; omega) (pclo_4 c base g w h0 h1 k1 k2 k3 b0 b1 hc)

end Go.Proofs.YtlekfcehmlepkaaGreatDoor

namespace Go.Proofs.YtlekfcehmlepkaaGreatDoor
open Go.Shelf

def Sh.lays99_ren : Go.Shelf.Ren := ⟨fun | 99 => 173 | 206 => 158 | n => n,fun | 9 => 9 | 4 => 4 | 3 => 3 | n => n,fun | n => n⟩

theorem Sh.lays99 : Go.Proofs.Lays.n99 Tryz.prog Sh.lays99_ren := {
 mixed := by kernel_rfl
 f99 := Tryz.func173.trans (congrArg some (by kernel_rfl))
 f206 := Tryz.func158.trans (congrArg some (by kernel_rfl))
 t3 := Tryz.underlying3
 a3 := Tryz.isAgg3
 z3 := Tryz.sizeOf3
 v3 := Tryz.zeroValue3
 t4 := Tryz.underlying4
 a4 := Tryz.isAgg4
 z4 := Tryz.sizeOf4
 v4 := Tryz.zeroValue4
 t9 := Tryz.underlying9
 a9 := Tryz.isAgg9
 z9 := Tryz.sizeOf9
 v9 := Tryz.zeroValue9 }

open Go.RowKit Go.Lib in
theorem Sh.strings_HasPrefix (s p : ByteArray) (w : World) :
  Calls Tryz.prog 173 #[.string s,.string p] w fun e w' => e = .returned (.bool (Lib.hasPrefix s.data.toList p.data.toList)) ∧ w' = w := Any.strings_HasPrefix Sh.lays99 s p w

end Go.Proofs.YtlekfcehmlepkaaGreatDoor
