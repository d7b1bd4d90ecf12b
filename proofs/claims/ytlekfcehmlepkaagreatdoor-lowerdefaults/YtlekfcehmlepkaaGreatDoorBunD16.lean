/- Put together by a program out of these texts of mine: PCheck0, PCheck1, PCheck, PNum, PBound. -/
import Derived.Test.YtlekfcehmlepkaaGreatDoorBunD7
import Derived.Test.YtlekfcehmlepkaaGreatDoorBunD13
import Derived.Test.YtlekfcehmlepkaaGreatDoorBunD15

namespace Go.Proofs.YtlekfcehmlepkaaGreatDoor
open Go.RowKit
set_option linter.unusedVariables false
set_option linter.unusedSimpArgs false

def ptk (r : Rl) (t : Tn) : Bool :=
 decide (0 ≤ t.at_) && (decide (0 ≤ t.a) && (decide (t.a ≤ r.most) && ((decide (r.fr ≤ t.n) && decide (t.n ≤ r.to)) && (((t.m == 0) || (r.span && (decide (r.fr ≤ t.m) && decide (t.m ≤ r.to)))) && (((t.doc == []) || (r.doc && pdocOk t.doc)) && (ptxt r.tx t && pkds r.kd t.kids))))))

theorem ptakes_any {V : World} {t : Tn} (B : Nat) (r : Rl) (ft fk : Value) (htx : TxIs B V ft r.tx) (hkd : KdIs B V fk r.kd) (hT : TTab V) (h : TnOk V t) (hsh : TnShort t) :
  Calls Tryz.prog 48 #[.agg #[ft,.int .i64 r.fr,.int .i64 r.to,.bool r.span,.int .i64 r.most,.bool r.doc,fk],t.val] V fun e V' => e = .returned (.bool (ptk r t)) ∧ Below V.heap.size V V' := by
 have hT' := fun U (hU : Below V.heap.size V U) => ptakest_any B ft fk r.fr r.to r.most r.span r.doc (htx.sin (Sin.of hU (Nat.le_refl _))) hkd.one (hT.below hU (Nat.le_refl _)) (h.under hU) hsh
 cases h with
 | @mk kind text n m a pos doc ad cap kids hkind htext htl hn hm ha hpos hdoc hdl hkl hcap hnone hmem hkids =>
 have hkl : Kl V ad cap kids := ⟨hkl,hcap,hnone,hmem,hkids⟩
 have hs : ∀ (i : Nat) (t : Tn),kids[i]? = some t → TnShort t := by cases hsh; assumption
 have hK' := fun U (hU : Below V.heap.size V U) => ptakesk_any B ft fk r.fr r.to r.most r.span r.doc (hkd.sin (Sin.of hU (Nat.le_refl _))) htx.one (hT.below hU (Nat.le_refl _)) (hkl.under hU) hs
 exact ptakes_raw V ft fk r.fr r.to r.most kind n m a pos r.span r.doc (strOfNums text) (strOfNums doc) ad kids.length cap htx.one hkd.one _ _ _ _ _ _ (weq2 doc [] hdoc (by unfold byts; decide) _ (str_lit [] [] rfl))
  (fun U hU => pwithin_any U V.heap.size ft fk r.fr r.to r.most n r.span r.doc _ ((hU.block _ (by simp only [World.size_alloc]; omega)).trans (alloc_old (alloc_at V _ rfl))))
  (fun U hU => pwithin_any U V.heap.size ft fk r.fr r.to r.most m r.span r.doc _ ((hU.block _ (by simp only [World.size_alloc]; omega)).trans (alloc_old (alloc_at V _ rfl))))
  (fun U => pisdoc_any doc U hdoc hdl) hT' hK'

def rlOf (k : Int) : Rl := rls.getD (k - 1).toNat rl1

mutual
def pright : Tn → Bool
 | .mk kind text n m a pos doc ad cap kids => ptk (rlOf kind) (.mk kind text n m a pos doc ad cap kids) && prights kids
def prights : List Tn → Bool
 | [] => true
 | k :: r => pright k && prights r
end

theorem prights_all : ∀ l : List Tn,prights l = l.all pright
 | [] => rfl
 | k :: r => by rw [prights,List.all_cons,prights_all r]

def kok (t : Tn) : Bool := decide (1 ≤ t.kind ∧ t.kind ≤ 24)

theorem all_kok {p : Tn → Bool} {l : List Tn} (h : l.all p = true) (hp : ∀ t,p t = true → kok t = true) : l.all kok = true := by
 rw [List.all_eq_true] at *
 exact fun t ht => hp t (h t ht)

theorem cont_kok {zs : List Int} (hz : ∀ z ∈ zs,1 ≤ z ∧ z ≤ 24) (t : Tn) (h : zs.contains t.kind = true) : kok t = true := by
 have := hz t.kind (by simpa using h)
 exact decide_eq_true this

theorem some_kok {k : Int} (h1 : 1 ≤ k) (h2 : k ≤ 24) {l : List Tn} (h : pkSome k l = true) : l.all kok = true := by
 unfold pkSome at h
 rw [Bool.and_eq_true] at h
 exact all_kok h.2 (cont_kok (fun z hz => by simp at hz; omega))

theorem typ_kok {c : Nat} {l : List Tn} (h : ptyp c l = true) : l.all kok = true := by
 unfold ptyp at h
 rw [Bool.and_eq_true,Bool.and_eq_true] at h
 have h1 := all_kok h.2.1 (cont_kok (fun z hz => by simp at hz; omega))
 have h2 := all_kok h.2.2 (cont_kok (fun z hz => by simp at hz; omega))
 have : (l.take c ++ l.drop c).all kok = true := by rw [List.all_append,h1,h2]; rfl
 rwa [List.take_append_drop] at this

theorem worth_kok {t : Tn} (h : pkWorth t.kind = true) : kok t = true := by
 unfold pkWorth at h
 simp at h
 exact decide_eq_true (by omega)

theorem kd_kok {k : Nat} {r : Rl} (hr : rls[k]? = some r) {l : List Tn} (h : pkds r.kd l = true) : l.all kok = true := by
 have none_ok : ∀ {l : List Tn},(l.length == 0) = true → l.all kok = true := fun {l} h => by
  have : l = [] := List.eq_nil_of_length_eq_zero (by simpa using h)
  subst this; rfl
 have only_ok : ∀ {zs : List Int} {l : List Tn},(∀ z ∈ zs,1 ≤ z ∧ z ≤ 24) → (l.all fun t => zs.contains t.kind) = true → l.all kok = true := fun hz h => all_kok h (cont_kok hz)
 have hk : k < 24 := by
  have := (List.getElem?_eq_some_iff.1 hr).1
  simpa [rls] using this
 rcases (show k = 0 ∨ k = 1 ∨ k = 2 ∨ k = 3 ∨ k = 4 ∨ k = 5 ∨ k = 6 ∨ k = 7 ∨ k = 8 ∨ k = 9 ∨ k = 10 ∨ k = 11 ∨ k = 12 ∨ k = 13 ∨ k = 14 ∨ k = 15 ∨ k = 16 ∨ k = 17 ∨ k = 18 ∨ k = 19 ∨ k = 20 ∨ k = 21 ∨ k = 22 ∨ k = 23 by omega) with rfl | rfl | rfl | rfl | rfl | rfl | rfl | rfl | rfl | rfl | rfl | rfl | rfl | rfl | rfl | rfl | rfl | rfl | rfl | rfl | rfl | rfl | rfl | rfl
 all_goals cases hr
 ·have h' : pkFile l = true := h
  unfold pkFile at h'
  rw [Bool.and_eq_true] at h'
  exact only_ok (by decide) h'.1
 ·exact none_ok h
 ·exact none_ok h
 ·have h' : pkOption l = true := h
  unfold pkOption at h'
  rw [Bool.and_eq_true,Bool.and_eq_true] at h'
  obtain ⟨h1,h2,h3⟩ := h'
  have h1 := of_decide_eq_true h1
  have g1 := some_kok (by omega) (by omega) h2
  have g2 : (l.drop (l.length - 1)).all kok = true := by
   have hd : (l.drop (l.length - 1)).length = 1 := by rw [List.length_drop]; omega
   generalize l.drop (l.length - 1) = q at h3 hd
   match q,hd with
   | [t],_ => simpa using worth_kok h3
  have : (l.take (l.length - 1) ++ l.drop (l.length - 1)).all kok = true := by rw [List.all_append,g1,g2]; rfl
  rwa [List.take_append_drop] at this
 ·exact only_ok (by decide) h
 ·exact only_ok (by decide) h
 ·exact only_ok (by decide) h
 ·exact only_ok (by decide) h
 ·exact typ_kok h
 ·have h' : pkMap l = true := h
  unfold pkMap at h'
  rw [Bool.and_eq_true] at h'
  exact typ_kok h'.1
 ·exact all_kok (show l.all pkOne = true from h) (fun t ht => by
   unfold pkOne at ht
   simp at ht
   exact decide_eq_true (by omega))
 ·exact some_kok (by omega) (by omega) (show pkSome 14 l = true from h)
 ·have h' : (pkSome 14 l || pkSome 15 l) = true := h
  rw [Bool.or_eq_true] at h'
  rcases h' with h' | h'
  ·exact some_kok (by omega) (by omega) h'
  ·exact some_kok (by omega) (by omega) h'
 ·exact none_ok h
 ·exact none_ok h
 ·exact only_ok (by decide) h
 ·exact typ_kok h
 ·exact none_ok h
 ·exact none_ok h
 ·exact none_ok h
 ·exact none_ok h
 ·exact none_ok h
 ·exact only_ok (by decide) h
 ·have h' : pkEntry l = true := h
  unfold pkEntry at h'
  rw [Bool.and_eq_true] at h'
  obtain ⟨h1,h3⟩ := h'
  have hd : l.length = 1 := by simpa using h1
  match l,hd with
  | [t],_ => simpa using worth_kok h3

def RlAt (B : Nat) (V : World) (g : Nat) : Prop := ∃ cs,V.heap[g]? = some (.cells (zrl ++ cs).toArray 96 (0,0)) ∧ AllIs B V rls cs

theorem RlAt.below {B : Nat} {V V' : World} {g : Nat} (h : RlAt B V g) (hb : Below V.heap.size V V') : RlAt B V' g := by
 obtain ⟨cs,h1,h2⟩ := h
 exact ⟨cs,(hb.block _ (one_lt h1)).trans h1,AllIs.sin (Sin.of hb (Nat.le_refl _)) h2⟩

theorem RlAt.get {B : Nat} {V : World} {g : Nat} (h : RlAt B V g) (k : Nat) (hk1 : 1 ≤ k) (hk2 : k ≤ 24) : ∃ ft fk,TxIs B V ft (rlOf k).tx ∧ KdIs B V fk (rlOf k).kd ∧ ∀ j u,[ft,.int .i64 (rlOf k).fr,.int .i64 (rlOf k).to,.bool (rlOf k).span,.int .i64 (rlOf k).most,.bool (rlOf k).doc,fk][j]? = some u → V.cell? ⟨g,k * 7 + j,none⟩ = some u := by
 obtain ⟨cs,h1,h2⟩ := h
 have hr : rls[k - 1]? = some (rlOf k) := by
  unfold rlOf
  have hlt : k - 1 < rls.length := by simp [rls]; omega
  rw [show ((k : Int) - 1).toNat = k - 1 by omega,List.getD_eq_getElem?_getD,List.getElem?_eq_getElem hlt]
  rfl
 obtain ⟨ft,fk,g1,g2,g3⟩ := h2.get (k - 1) _ hr
 refine ⟨ft,fk,g1,g2,fun j u hj => ?_⟩
 have := g3 j u hj
 refine blk_cell h1 _ _ ?_
 rw [List.getElem?_toArray,List.getElem?_append_right (by simp [zrl]; omega),← this]
 congr 1
 simp [zrl]
 omega

set_option maxRecDepth 10000 in
set_option maxHeartbeats 4000000 in
theorem pchk_raw (V : World) (g gd k : Nat) (hk1 : 1 ≤ k) (hk2 : k ≤ 24) (ft fk : Value) (fr to most n m a pos : Int) (span rdoc : Bool) (T1 T2 : ByteArray) (ad : Option Addr) (N cap : Nat) (A R : Bool) (hN : (N : Int) ≤ 9223372036854775807)
  (hc : ∀ j u,[ft,.int .i64 fr,.int .i64 to,.bool span,.int .i64 most,.bool rdoc,fk][j]? = some u → V.cell? ⟨g,k * 7 + j,none⟩ = some u) (hft : ft.oneCell' = true) (hfk : fk.oneCell' = true)
  (hgd : V.heap[gd]? = some (.cells #[.func (.func 47) #[] #[.pointer (some ⟨g,0,none⟩),.pointer (some ⟨gd,0,none⟩)]] 29 (0,0)))
  (q1 : ∀ U,Below V.heap.size V U → Calls Tryz.prog 48 #[.agg #[ft,.int .i64 fr,.int .i64 to,.bool span,.int .i64 most,.bool rdoc,fk],.agg #[.int .i64 (k : Int),.string T1,.int .i64 n,.int .i64 m,.int .i64 a,.int .i64 pos,.string T2,.slice ad N cap]] U fun e U' => e = .returned (.bool A) ∧ Below U.heap.size U U')
  (q2 : A = true → ∀ U,Below V.heap.size V U → Calls Tryz.prog 49 #[.slice ad N cap,.func (.func 47) #[] #[.pointer (some ⟨g,0,none⟩),.pointer (some ⟨gd,0,none⟩)]] U fun e U' => e = .returned (.bool R) ∧ Below U.heap.size U U') :
  Calls Tryz.prog 47 #[.agg #[.int .i64 (k : Int),.string T1,.int .i64 n,.int .i64 m,.int .i64 a,.int .i64 pos,.string T2,.slice ad N cap],.pointer (some ⟨g,0,none⟩),.pointer (some ⟨gd,0,none⟩)] V fun e V' => e = .returned (.bool (A && R)) ∧ Below V.heap.size V V' := by
 have hg0 : g < V.heap.size := cell_lt7 (hc 0 _ rfl)
 obtain ⟨WA,hWA⟩ : ∃ WA,WA = V.alloc (.cells #[.int .i64 (k : Int),.string T1,.int .i64 n,.int .i64 m,.int .i64 a,.int .i64 pos,.string T2,.slice ad N cap] 28) := ⟨_,rfl⟩
 have hBA : Below V.heap.size V WA := by rw [hWA]; exact (Below.refl _ _).alloc (Nat.le_refl _) _
 have hnb : WA.heap[V.heap.size]? = some (.cells #[.int .i64 (k : Int),.string T1,.int .i64 n,.int .i64 m,.int .i64 a,.int .i64 pos,.string T2,.slice ad N cap] 28 (0,0)) := by rw [hWA]; exact alloc_at _ _ rfl
 have r0 := fun x : Ext WA => (x.ok.cell (p := ⟨g,k * 7 + 0,none⟩) (Nat.lt_of_lt_of_le hg0 hBA.size)).trans ((hBA.cell hg0).trans (hc 0 _ rfl))
 have r1 := fun x : Ext WA => (x.ok.cell (p := ⟨g,k * 7 + 1,none⟩) (Nat.lt_of_lt_of_le hg0 hBA.size)).trans ((hBA.cell hg0).trans (hc 1 _ rfl))
 have r2 := fun x : Ext WA => (x.ok.cell (p := ⟨g,k * 7 + 2,none⟩) (Nat.lt_of_lt_of_le hg0 hBA.size)).trans ((hBA.cell hg0).trans (hc 2 _ rfl))
 have r3 := fun x : Ext WA => (x.ok.cell (p := ⟨g,k * 7 + 3,none⟩) (Nat.lt_of_lt_of_le hg0 hBA.size)).trans ((hBA.cell hg0).trans (hc 3 _ rfl))
 have r4 := fun x : Ext WA => (x.ok.cell (p := ⟨g,k * 7 + 4,none⟩) (Nat.lt_of_lt_of_le hg0 hBA.size)).trans ((hBA.cell hg0).trans (hc 4 _ rfl))
 have r5 := fun x : Ext WA => (x.ok.cell (p := ⟨g,k * 7 + 5,none⟩) (Nat.lt_of_lt_of_le hg0 hBA.size)).trans ((hBA.cell hg0).trans (hc 5 _ rfl))
 have r6 := fun x : Ext WA => (x.ok.cell (p := ⟨g,k * 7 + 6,none⟩) (Nat.lt_of_lt_of_le hg0 hBA.size)).trans ((hBA.cell hg0).trans (hc 6 _ rfl))
 simp only [Nat.add_zero] at r0
 have m0 := fun x : Ext WA => x.cell (one_lt hnb) (blk_cell hnb 0 _ rfl)
 have m1 := fun x : Ext WA => x.cell (one_lt hnb) (blk_cell hnb 1 _ rfl)
 have m2 := fun x : Ext WA => x.cell (one_lt hnb) (blk_cell hnb 2 _ rfl)
 have m3 := fun x : Ext WA => x.cell (one_lt hnb) (blk_cell hnb 3 _ rfl)
 have m4 := fun x : Ext WA => x.cell (one_lt hnb) (blk_cell hnb 4 _ rfl)
 have m5 := fun x : Ext WA => x.cell (one_lt hnb) (blk_cell hnb 5 _ rfl)
 have m6 := fun x : Ext WA => x.cell (one_lt hnb) (blk_cell hnb 6 _ rfl)
 have m7 := fun x : Ext WA => x.cell (one_lt hnb) (blk_cell hnb 7 _ rfl)
 have hgd' : WA.heap[gd]? = _ := (hBA.block _ (one_lt hgd)).trans hgd
 have d0 := fun x : Ext WA => x.cell (one_lt hgd') (one_cell_of hgd')
 have Q1 : Hid _ := fun U (hU : Below WA.heap.size WA U) => q1 U (hBA.trans (hU.mono hBA.size))
 have HBA : Hid (Below V.heap.size V WA) := hBA
 have HW : Hid (V.alloc (.cells #[.int .i64 (k : Int),.string T1,.int .i64 n,.int .i64 m,.int .i64 a,.int .i64 pos,.string T2,.slice ad N cap] 28) = WA) := hWA.symm
 have hk3 : k < 25 := by omega
 have hkd : decide (k < 25) = true := decide_eq_true hk3
 cases A with
 | false =>
  clear q1 q2 hgd hgd' hnb hBA hc hWA
  go_enter Tryz.func47,Tryz.ntmps47
  go_wp2_with fail
  rw [HW.out]
  refine wp_region_ext WA (Below.refl _ _) rfl (by kernel_rfl) ?_
  repeat (go_big_quiet_step (exact Ext.call (fun U hU => Q1.out U hU) _))
  refine wpQuiet_nil ?_
  rintro w5 ⟨⟨_,hb5⟩,rfl⟩
  have HB5 : Hid (Below V.heap.size V w5) := HBA.out.trans (hb5.mono HBA.out.size)
  clear hb5
  go_wp2
  go_ret
  exact ⟨rfl,HB5.out⟩
 | true =>
  have Q2 : Hid _ := fun U (hU : Below WA.heap.size WA U) => q2 rfl U (hBA.trans (hU.mono hBA.size))
  clear q1 q2 hgd hgd' hnb hBA hc hWA
  go_enter Tryz.func47,Tryz.ntmps47
  go_wp2_with fail
  rw [HW.out]
  refine wp_region_ext WA (Below.refl _ _) rfl (by kernel_rfl) ?_
  repeat (go_big_quiet_step (first | (go_at_call 48; exact Ext.call (fun U hU => Q1.out U hU) _) | (go_at_call 49; exact Ext.call (fun U hU => Q2.out U hU) _)))
  refine wpQuiet_nil ?_
  rintro w5 ⟨⟨_,hb5⟩,rfl⟩
  have HB5 : Hid (Below V.heap.size V w5) := HBA.out.trans (hb5.mono HBA.out.size)
  clear hb5
  go_wp2
  go_ret
  exact ⟨rfl,HB5.out⟩

set_option maxHeartbeats 1000000 in
theorem pchk_any {w : World} {t : Tn} (h : TnOk w t) : TnShort t → 1 ≤ t.kind → t.kind ≤ 24 → ∀ (B g gd : Nat) (V : World),Below w.heap.size w V → RlAt B V g → V.heap[gd]? = some (.cells #[.func (.func 47) #[] #[.pointer (some ⟨g,0,none⟩),.pointer (some ⟨gd,0,none⟩)]] 29 (0,0)) → TTab V →
  Calls Tryz.prog 47 #[t.val,.pointer (some ⟨g,0,none⟩),.pointer (some ⟨gd,0,none⟩)] V fun e V' => e = .returned (.bool (pright t)) ∧ Below V.heap.size V V' := by
 induction h with
 | @mk kind text n m a pos doc ad cap kids hkind htext htl hn hm ha hpos hdoc hdl hkl hcap hnone hmem hkids ih =>
  intro hsh hk1 hk2 B g gd V hB hR hgd hT
  have hok : TnOk w (.mk kind text n m a pos doc ad cap kids) := .mk hkind htext htl hn hm ha hpos hdoc hdl hkl hcap hnone hmem hkids
  have hs : ∀ (i : Nat) (t : Tn),kids[i]? = some t → TnShort t := by cases hsh; assumption
  obtain ⟨k,rfl⟩ : ∃ k : Nat,kind = (k : Int) := ⟨kind.toNat,by have : 1 ≤ kind := hk1; omega⟩
  have hk1' : 1 ≤ k := by have : (1 : Int) ≤ k := hk1; omega
  have hk2' : k ≤ 24 := by have : (k : Int) ≤ 24 := hk2; omega
  obtain ⟨ft,fk,htx,hkd,hc⟩ := hR.get k hk1' hk2'
  rw [pright,prights_all]
  refine pchk_raw V g gd k hk1' hk2' ft fk _ _ _ n m a pos _ _ (strOfNums text) (strOfNums doc) ad kids.length cap (ptk (rlOf k) (.mk k text n m a pos doc ad cap kids)) (kids.all pright) hkl hc htx.one hkd.one hgd (fun U hU => ?_) (fun hA U hU => ?_)
  ·exact ptakes_any B (rlOf k) ft fk (htx.sin (Sin.of hU (Nat.le_refl _))) (hkd.sin (Sin.of hU (Nat.le_refl _))) (hT.below hU (Nat.le_refl _)) (hok.under (hB.trans (hU.mono hB.size))) hsh
  ·have hkk : kids.all kok = true := by
    unfold ptk at hA
    simp only [Bool.and_eq_true] at hA
    obtain ⟨_,_,_,_,_,_,_,h8⟩ := hA
    refine kd_kok (k := k - 1) (r := rlOf k) ?_ h8
    unfold rlOf
    have hlt : k - 1 < rls.length := by simp [rls]; omega
    rw [show ((k : Int) - 1).toNat = k - 1 by omega,List.getD_eq_getElem?_getD,List.getElem?_eq_getElem hlt]
    rfl
   have hB' := hB.trans (hU.mono hB.size)
   refine peach_ask (hok.kl.under hB') 47 Tryz.call47 #[.pointer (some ⟨g,0,none⟩),.pointer (some ⟨gd,0,none⟩)] pright (fun i t hi X hX => ?_)
   have hkt : kok t = true := (List.all_eq_true.1 hkk) t (List.mem_of_getElem? hi)
   have hkt := of_decide_eq_true hkt
   have hVX : Below V.heap.size V X := hU.trans (hX.mono hU.size)
   exact ih i t hi (hs i t hi) hkt.1 hkt.2 B g gd X (hB'.trans (hX.mono hB'.size)) (hR.below hVX) ((hVX.block _ (one_lt hgd)).trans hgd) (hT.below hVX (Nat.le_refl _))

def pcheckB (t : Tn) : Bool := decide (t.kind = 1) && (decide (tcount t ≤ 20000) && (decide (tdeep t ≤ 64) && pright t))

set_option maxRecDepth 20000 in
set_option maxHeartbeats 4000000 in
theorem pcheck_all {w : World} {t : Tn} (h : TnOk w t) (hsh : TnShort t) (W : World) (hT : Hid (TTab W)) (hB : Below w.heap.size w W) :
  Calls Tryz.prog 24 #[t.val] W fun e W' => e = .returned (.bool (pcheckB t)) ∧ Below W.heap.size W W' := by
 have hmf : ∀ (fn : Fn) (first cap : Array Value) (w : World),(Instr.makeFunc fn first cap).run Tryz.prog w = .ok (.func fn first cap) w := fun _ _ _ _ => rfl
 have hokW := h.under hB
 have qc := fun V hV => pcount_all hokW V hV
 have qd := fun V hV => pdeep_all hokW V hV
 have qr := fun V => prules_any V
 have qk : t.kind = 1 → _ := fun hk V (hV : Below W.heap.size W V) g gd B hR hs => pchk_any hokW hsh (by omega) (by omega) B g gd V hV hR hs (hT.out.below hV (Nat.le_refl _))
 have hc0 : 0 ≤ tcount t ∧ tcount t ≤ 30000 := by have := tcnt_bd t 0 (by omega) (by omega); unfold tcount; omega
 have hd0 : 1 ≤ tdeep t ∧ tdeep t ≤ 100 := by have := tdp_bd t 1 (by omega); unfold tdeep; split <;> omega
 unfold pcheckB
 generalize tcount t = CN at qc hc0 ⊢
 generalize tdeep t = DP at qd hd0 ⊢
 generalize pright t = RB at qk ⊢
 obtain ⟨kind,text,n,m,a,pos,doc,ad,cap,kids⟩ := t
 have hkl : (kids.length : Int) ≤ 9223372036854775807 := by cases h; assumption
 obtain ⟨hc0,hc1⟩ := hc0
 obtain ⟨hd0,hd1⟩ := hd0
 change Calls Tryz.prog 24 #[.agg #[.int .i64 kind,.string (strOfNums text),.int .i64 n,.int .i64 m,.int .i64 a,.int .i64 pos,.string (strOfNums doc),.slice ad kids.length cap]] W fun e W' => e = .returned (.bool (decide (kind = 1) && (decide (CN ≤ 20000) && (decide (DP ≤ 64) && RB)))) ∧ Below W.heap.size W W'
 change ∀ V,Below W.heap.size W V → Calls Tryz.prog 44 #[.agg #[.int .i64 kind,.string (strOfNums text),.int .i64 n,.int .i64 m,.int .i64 a,.int .i64 pos,.string (strOfNums doc),.slice ad kids.length cap]] V (fun e W' => e = .returned (.int .i64 CN) ∧ Below V.heap.size V W') at qc
 change ∀ V,Below W.heap.size W V → Calls Tryz.prog 45 #[.agg #[.int .i64 kind,.string (strOfNums text),.int .i64 n,.int .i64 m,.int .i64 a,.int .i64 pos,.string (strOfNums doc),.slice ad kids.length cap]] V (fun e W' => e = .returned (.int .i64 DP) ∧ Below V.heap.size V W') at qd
 change kind = 1 → ∀ V,Below W.heap.size W V → ∀ g gd B,RlAt B V g → V.heap[gd]? = some (.cells #[.func (.func 47) #[] #[.pointer (some ⟨g,0,none⟩),.pointer (some ⟨gd,0,none⟩)]] 29 (0,0)) → Calls Tryz.prog 47 #[.agg #[.int .i64 kind,.string (strOfNums text),.int .i64 n,.int .i64 m,.int .i64 a,.int .i64 pos,.string (strOfNums doc),.slice ad kids.length cap],.pointer (some ⟨g,0,none⟩),.pointer (some ⟨gd,0,none⟩)] V (fun e V' => e = .returned (.bool RB) ∧ Below V.heap.size V V') at qk
 generalize strOfNums text = T1 at qc qd qk ⊢
 generalize strOfNums doc = T2 at qc qd qk ⊢
 generalize kids.length = N at *
 have HBA : Hid (Below W.heap.size W (W.alloc (.cells #[.int .i64 kind,.string T1,.int .i64 n,.int .i64 m,.int .i64 a,.int .i64 pos,.string T2,.slice ad N cap] 28))) := (Below.refl _ _).alloc (Nat.le_refl _) _
 have QC : Hid _ := qc
 have QD : Hid _ := qd
 have QR : Hid _ := qr
 by_cases hk : kind = 1
 case neg =>
  rw [decide_eq_false hk]
  have e1 : (kind != 1) = true := by simpa using hk
  clear qc qd qr qk h hsh hB hokW hk
  go_enter Tryz.func24,Tryz.ntmps24
  go_wp2
  go_ret
  exact ⟨rfl,HBA.out⟩
 have QK : Hid _ := qk hk
 subst hk
 clear qc qd qr qk h hsh hB hokW
 have own : Hid (∀ w1,Below (W.alloc (.cells #[.int .i64 1,.string T1,.int .i64 n,.int .i64 m,.int .i64 a,.int .i64 pos,.string T2,.slice ad N cap] 28)).heap.size (W.alloc (.cells #[.int .i64 1,.string T1,.int .i64 n,.int .i64 m,.int .i64 a,.int .i64 pos,.string T2,.slice ad N cap] 28)) w1 → ∀ i v,(#[.int .i64 1,.string T1,.int .i64 n,.int .i64 m,.int .i64 a,.int .i64 pos,.string T2,.slice ad N cap] : Array Value)[i]? = some v → w1.cell? ⟨W.heap.size,i,none⟩ = some v) := fun w1 hb i v hv => own_cells hb i v hv
 by_cases hc : CN ≤ 20000
 case neg =>
  rw [decide_eq_false hc]
  go_enter Tryz.func24,Tryz.ntmps24
  go_wp2_with fail
  refine Calls.mono (QC.out _ HBA.out) ?_
  rintro e w1 ⟨rfl,hb1⟩
  have HB1 : Hid (Below W.heap.size W w1) := HBA.out.trans (hb1.mono HBA.out.size)
  clear hb1
  go_wp2
  go_ret
  exact ⟨rfl,HB1.out⟩
 by_cases hd : DP ≤ 64
 case neg =>
  rw [decide_eq_true hc,decide_eq_false hd]
  go_enter Tryz.func24,Tryz.ntmps24
  go_wp2_with fail
  refine Calls.mono (QC.out _ HBA.out) ?_
  rintro e w1 ⟨rfl,hb1⟩
  have HB1 : Hid (Below W.heap.size W w1) := HBA.out.trans (hb1.mono HBA.out.size)
  have p0 := own.out w1 hb1 0 _ rfl
  have p1 := own.out w1 hb1 1 _ rfl
  have p2 := own.out w1 hb1 2 _ rfl
  have p3 := own.out w1 hb1 3 _ rfl
  have p4 := own.out w1 hb1 4 _ rfl
  have p5 := own.out w1 hb1 5 _ rfl
  have p6 := own.out w1 hb1 6 _ rfl
  have p7 := own.out w1 hb1 7 _ rfl
  clear hb1
  go_wp2_with fail
  refine Calls.mono (QD.out _ HB1.out) ?_
  rintro e w2 ⟨rfl,hb2⟩
  have HB2 : Hid (Below W.heap.size W w2) := HB1.out.trans (hb2.mono HB1.out.size)
  clear hb2
  go_wp2
  go_ret
  exact ⟨rfl,HB2.out⟩
 rw [decide_eq_true hc,decide_eq_true hd]
 go_enter Tryz.func24,Tryz.ntmps24
 go_wp2_with fail
 refine Calls.mono (QC.out _ HBA.out) ?_
 rintro e w1 ⟨rfl,hb1⟩
 have HB1 : Hid (Below W.heap.size W w1) := HBA.out.trans (hb1.mono HBA.out.size)
 have p0 := own.out w1 hb1 0 _ rfl
 have p1 := own.out w1 hb1 1 _ rfl
 have p2 := own.out w1 hb1 2 _ rfl
 have p3 := own.out w1 hb1 3 _ rfl
 have p4 := own.out w1 hb1 4 _ rfl
 have p5 := own.out w1 hb1 5 _ rfl
 have p6 := own.out w1 hb1 6 _ rfl
 have p7 := own.out w1 hb1 7 _ rfl
 have HC1 : Hid _ := hb1
 clear hb1
 go_wp2_with fail
 refine Calls.mono (QD.out _ HB1.out) ?_
 rintro e w2 ⟨rfl,hb2⟩
 have HB2 : Hid (Below W.heap.size W w2) := HB1.out.trans (hb2.mono HB1.out.size)
 have HC2 : Hid _ := HC1.out.trans (hb2.mono HC1.out.size)
 clear hb2 p0 p1 p2 p3 p4 p5 p6 p7
 go_wp2_with fail
 refine Calls.mono (QR.out _) ?_
 rintro e w3 ⟨cs,rfl,hall,hb3⟩
 have HB3 : Hid (Below W.heap.size W w3) := HB2.out.trans (hb3.mono HB2.out.size)
 have HC3 := HC2.out.trans (hb3.mono HC2.out.size)
 have HA : Hid (AllIs (w2.heap.size + 1) w3 rls cs) := hall
 clear hb3 hall
 have hl : (zrl ++ cs).toArray.size = 175 := by
  have := AllIs.one HA.out
  simp [zrl,this.2,rls]
 have h1 : ∀ v ∈ (zrl ++ cs).toArray.toList,v.oneCell' = true := by
  have := (AllIs.one HA.out).1
  rw [List.all_eq_true] at this
  intro v hv
  simp only [List.toList_toArray,List.mem_append] at hv
  rcases hv with hv | hv
  ·exact (show ∀ v ∈ zrl,v.oneCell' = true by decide) v hv
  ·exact this v hv
 have hE : ∃ X,X = (zrl ++ cs).toArray := ⟨_,rfl⟩
 obtain ⟨X,hXd⟩ := hE
 rw [← hXd] at hl h1 ⊢
 have hnew := alloc_at w3 (.cells Tryz.zeroCells96 96) rfl
 have hst := run_storeCells_from (P := Tryz.prog) w3.heap.size 96 X.toList 0 Tryz.zeroCells96 _ hnew (by rw [Array.length_toList,hl]; kernel_rfl) h1
 rw [List.take_zero,List.nil_append,Array.toArray_toList] at hst
 have hX := setRow_heap (w3.alloc (.cells Tryz.zeroCells96 96)) w3.heap.size _ X _ _ hnew
 have hbX : Below w3.heap.size w3 ((w3.alloc (.cells Tryz.zeroCells96 96)).setRow w3.heap.size X) := ((Below.refl _ _).alloc (Nat.le_refl _) _).trans ⟨rfl,rfl,rfl,by simp,fun k hk => setRow_other _ _ _ _ (by omega)⟩
 have hsX : ((w3.alloc (.cells Tryz.zeroCells96 96)).setRow w3.heap.size X).heap.size = w3.heap.size + 1 := by simp
 generalize (w3.alloc (.cells Tryz.zeroCells96 96)).setRow w3.heap.size X = WX at hst hX hbX hsX
 have hCX := HC3.trans (hbX.mono HC3.size)
 have HBX : Hid (Below W.heap.size W WX) := HB3.out.trans (hbX.mono HB3.out.size)
 have p0 := own.out WX hCX 0 _ rfl
 have p1 := own.out WX hCX 1 _ rfl
 have p2 := own.out WX hCX 2 _ rfl
 have p3 := own.out WX hCX 3 _ rfl
 have p4 := own.out WX hCX 4 _ rfl
 have p5 := own.out WX hCX 5 _ rfl
 have p6 := own.out WX hCX 6 _ rfl
 have p7 := own.out WX hCX 7 _ rfl
 have hWX : W.heap.size < WX.heap.size := by have := hCX.size; simp only [World.size_alloc] at this; omega
 have hR : RlAt (w2.heap.size + 1) WX w3.heap.size := ⟨cs,by rw [← hXd]; exact hX,AllIs.sin (Sin.of hbX (Nat.le_refl _)) HA.out⟩
 have HR : Hid _ := hR
 have Q : Hid (Calls Tryz.prog 47 #[.agg #[.int .i64 1,.string T1,.int .i64 n,.int .i64 m,.int .i64 a,.int .i64 pos,.string T2,.slice ad N cap],.pointer (some ⟨w3.heap.size,0,none⟩),.pointer (some ⟨WX.heap.size,0,none⟩)] (WX.alloc (.cells #[.func (.func 47) #[] #[.pointer (some ⟨w3.heap.size,0,none⟩),.pointer (some ⟨WX.heap.size,0,none⟩)]] 29)) _) := QK.out _ (HBX.out.alloc HBX.out.size _) w3.heap.size WX.heap.size (w2.heap.size + 1) (hR.below ((Below.refl _ _).alloc (Nat.le_refl _) _)) (alloc_at _ _ rfl)
 have HBY : Hid (Below W.heap.size W (WX.alloc (.cells #[.func (.func 47) #[] #[.pointer (some ⟨w3.heap.size,0,none⟩),.pointer (some ⟨WX.heap.size,0,none⟩)]] 29))) := HBX.out.alloc HBX.out.size _
 clear hXd hX hbX hCX hR h1 hnew HC3 hsX
 go_wp2_with fail
 refine Calls.mono Q.out ?_
 rintro e w4 ⟨rfl,hb4⟩
 have HB4 : Hid (Below W.heap.size W w4) := HBY.out.trans (hb4.mono HBY.out.size)
 clear hb4
 go_wp2
 go_ret
 exact ⟨rfl,HB4.out⟩

end Go.Proofs.YtlekfcehmlepkaaGreatDoor

namespace Go.Proofs.YtlekfcehmlepkaaGreatDoor
set_option linter.unusedVariables false
set_option linter.unusedSimpArgs false

mutual
def tnum : Tn → Int
 | .mk _ _ _ _ _ _ _ _ _ kids => 1 + tnums kids
def tnums : List Tn → Int
 | [] => 0
 | k :: r => tnum k + tnums r
end

mutual
def tbyt : Tn → Int
 | .mk _ text _ _ _ _ doc _ _ kids => 96 + text.length + doc.length + tbyts kids
def tbyts : List Tn → Int
 | [] => 0
 | k :: r => tbyt k + tbyts r
end

mutual
theorem tnum_pos : ∀ (t : Tn),1 ≤ tnum t
 | .mk _ _ _ _ _ _ _ _ _ kids => by
  have := tnums_pos kids
  rw [tnum]; omega
theorem tnums_pos : ∀ (l : List Tn),0 ≤ tnums l
 | [] => by simp [tnums]
 | k :: r => by
  have := tnum_pos k
  have := tnums_pos r
  rw [tnums]; omega
end

mutual
theorem tbyt_pos : ∀ (t : Tn),96 ≤ tbyt t
 | .mk _ _ _ _ _ _ _ _ _ kids => by
  have := tbyts_pos kids
  rw [tbyt]; omega
theorem tbyts_pos : ∀ (l : List Tn),0 ≤ tbyts l
 | [] => by simp [tbyts]
 | k :: r => by
  have := tbyt_pos k
  have := tbyts_pos r
  rw [tbyts]; omega
end

mutual
theorem tsz_num : ∀ (t : Tn) (x d : Int),tsz t x d ≤ 400 → tsz t x d = x + tnum t ∧ tbyt t ≤ 4096 * tnum t
 | .mk _ text _ _ _ _ doc _ _ kids,x,d,h => by
  rw [tsz] at h ⊢
  by_cases hb : 80 < d ∨ 2000 < (text.length : Int) ∨ 2000 < (doc.length : Int)
  ·rw [if_pos hb] at h; omega
  ·rw [if_neg hb] at h ⊢
   have h2 := tszs_num kids (x + 1) (d + 1) h
   rw [tnum,tbyt,h2.1]
   have := h2.2
   omega
theorem tszs_num : ∀ (l : List Tn) (x d : Int),tszs l x d ≤ 400 → tszs l x d = x + tnums l ∧ tbyts l ≤ 4096 * tnums l
 | [],x,d,h => by simp [tszs,tnums,tbyts]
 | k :: r,x,d,h => by
  rw [tszs] at h ⊢
  by_cases hx : 400 < x
  ·rw [if_pos hx] at h; omega
  ·rw [if_neg hx] at h ⊢
   have h2 := tszs_num r _ d h
   have h3 := tsz_num k x d (tszs_low r _ d h)
   rw [tnums,tbyts,h2.1,h3.1]
   have := h2.2
   have := h3.2
   omega
end

theorem tfew_num {t : Tn} (h : tfew t = true) : tnum t ≤ 400 ∧ tbyt t ≤ 1638400 := by
 have h1 : tsz t 0 0 ≤ 400 := of_decide_eq_true h
 have h2 := tsz_num t 0 0 h1
 omega

theorem tnums_at : ∀ (l : List Tn) (i : Nat) (t : Tn),l[i]? = some t → tnum t ≤ tnums l ∧ tbyt t ≤ tbyts l
 | [],i,t,h => by simp at h
 | x :: l,0,t,h => by
  simp at h
  subst h
  have := tnums_pos l
  have := tbyts_pos l
  rw [tnums,tbyts]; omega
 | x :: l,i + 1,t,h => by
  have := tnums_at l i t (by simpa using h)
  have := tnum_pos x
  have := tbyt_pos x
  rw [tnums,tbyts]; omega

theorem tnums_filter (p : Tn → Bool) : ∀ (l : List Tn),tnums (l.filter p) ≤ tnums l ∧ tbyts (l.filter p) ≤ tbyts l
 | [] => by simp
 | x :: l => by
  have h := tnums_filter p l
  have := tnum_pos x
  have := tbyt_pos x
  rw [List.filter_cons]
  split
  ·rw [tnums,tnums,tbyts,tbyts]; omega
  ·rw [tnums,tbyts]; omega

theorem tnums_len : ∀ (l : List Tn),(l.length : Int) ≤ tnums l
 | [] => by simp [tnums]
 | x :: l => by
  have := tnums_len l
  have := tnum_pos x
  rw [tnums]; simp; omega

end Go.Proofs.YtlekfcehmlepkaaGreatDoor

namespace Go.Proofs.YtlekfcehmlepkaaGreatDoor
open Go.RowKit
set_option linter.unusedVariables false
set_option linter.unusedSimpArgs false

structure Bst (w : World) (gs gp gd : Nat) (V : World) (s d : Int) : Prop where
 below : Below w.heap.size w V
 siz : V.heap[gs]? = some (.cells #[.int .i64 s] 3 (0,0))
 dep : V.heap[gp]? = some (.cells #[.int .i64 d] 3 (0,0))
 self : V.heap[gd]? = some (.cells #[.func (.func 180) #[] #[.pointer (some ⟨gs,0,none⟩),.pointer (some ⟨gp,0,none⟩),.pointer (some ⟨gd,0,none⟩)]] 29 (0,0))

theorem Bst.under {w : World} {gs gp gd : Nat} {V V' : World} {s d : Int} (h : Bst w gs gp gd V s d) (hb : Below V.heap.size V V') : Bst w gs gp gd V' s d :=
 ⟨h.below.trans (hb.mono h.below.size),(hb.block _ (one_lt h.siz)).trans h.siz,(hb.block _ (one_lt h.dep)).trans h.dep,(hb.block _ (one_lt h.self)).trans h.self⟩

theorem Bst.setS {w : World} {gs gp gd : Nat} {V : World} {s d : Int} (h : Bst w gs gp gd V s d) (hc : w.heap.size ≤ gs) (h1 : gp ≠ gs) (h2 : gd ≠ gs) (y : Int) : Bst w gs gp gd (V.setCell ⟨gs,0,none⟩ (.int .i64 y)) y d :=
 ⟨h.below.setCell hc _,one_setCell h.siz,(heap_setCell_other _ _ _ _ h1).trans h.dep,(heap_setCell_other _ _ _ _ h2).trans h.self⟩

theorem Bst.setD {w : World} {gs gp gd : Nat} {V : World} {s d : Int} (h : Bst w gs gp gd V s d) (hc : w.heap.size ≤ gp) (h1 : gs ≠ gp) (h2 : gd ≠ gp) (y : Int) : Bst w gs gp gd (V.setCell ⟨gp,0,none⟩ (.int .i64 y)) s y :=
 ⟨h.below.setCell hc _,(heap_setCell_other _ _ _ _ h1).trans h.siz,one_setCell h.dep,(heap_setCell_other _ _ _ _ h2).trans h.self⟩

set_option maxRecDepth 10000 in
set_option maxHeartbeats 2000000 in
theorem pbnd_any {w : World} {t : Tn} (h : TnOk w t) (gs gp gd : Nat) (hs : w.heap.size ≤ gs) (hp : w.heap.size ≤ gp) (h1 : gp ≠ gs) (h2 : gd ≠ gs) (h3 : gd ≠ gp) : ∀ (V : World) (s d : Int),Bst w gs gp gd V s d → 0 ≤ s → 0 ≤ d → s + tbyt t ≤ 2147483647 → d + tnum t ≤ 65536 →
  Calls Tryz.prog 180 #[t.val,.pointer (some ⟨gs,0,none⟩),.pointer (some ⟨gp,0,none⟩),.pointer (some ⟨gd,0,none⟩)] V fun e V' => e = .returned (.bool true) ∧ Bst w gs gp gd V' (s + tbyt t) d := by
 induction h with
 | @mk kind text n mm a pos doc ad cap kids hkind htext htl hn hmm ha hpos hdoc hdl hkl hcap hnone hmem hkids ih =>
  intro V s d hV hs0 hd0 hsb hdb
  have hkl : Kl w ad cap kids := ⟨hkl,hcap,hnone,hmem,hkids⟩
  have hbp := tbyts_pos kids
  have hnp := tnums_pos kids
  have hs1 := strOfNums_size text
  have hs2 := strOfNums_size doc
  rw [tnum] at hdb
  obtain ⟨B,hB⟩ : ∃ B,B = tbyts kids := ⟨_,rfl⟩
  obtain ⟨L,hL⟩ : ∃ L : Int,L = s + (96 + text.length + doc.length) := ⟨_,rfl⟩
  have hR : s + tbyt (.mk kind text n mm a pos doc ad cap kids) = L + B := by rw [tbyt]; omega
  rw [hR] at hsb ⊢
  rw [← hB] at hbp
  have hcell := one_cell_of hV.siz
  have hdep := one_cell_of hV.dep
  have hself := one_cell_of hV.self
  have hlt := one_lt hV.siz
  have hltp := one_lt hV.dep
  have hltd := one_lt hV.self
  have hfr := one_frozen hV.siz
  have hfrp := one_frozen hV.dep
  have hset := hV.setS hs h1 h2 L
  have hset2 := hset.setD hp h1.symm h3 (d + 1)
  show Calls Tryz.prog 180 #[.agg #[.int .i64 kind,.string (strOfNums text),.int .i64 n,.int .i64 mm,.int .i64 a,.int .i64 pos,.string (strOfNums doc),.slice ad kids.length cap],.pointer (some ⟨gs,0,none⟩),.pointer (some ⟨gp,0,none⟩),.pointer (some ⟨gd,0,none⟩)] V _
  have hcap' : ∀ (T1 T2 : ByteArray),Bst w gs gp gd (((V.setCell ⟨gs,0,none⟩ (.int .i64 L)).setCell ⟨gp,0,none⟩ (.int .i64 (d + 1))).alloc (.cells #[.int .i64 kind,.string T1,.int .i64 n,.int .i64 mm,.int .i64 a,.int .i64 pos,.string T2,.slice ad kids.length cap] 28)) L (d + 1) := fun _ _ => hset2.under ((Below.refl _ _).alloc (Nat.le_refl _) _)
  generalize strOfNums text = T1 at hs1 ⊢
  generalize strOfNums doc = T2 at hs2 ⊢
  have HA := hcap' T1 T2
  have hdep2 : (V.setCell ⟨gs,0,none⟩ (.int .i64 L)).cell? ⟨gp,0,none⟩ = some (.int .i64 d) := one_cell_of hset.dep
  have hfrp2 : (V.setCell ⟨gs,0,none⟩ (.int .i64 L)).frozen? ⟨gp,0,none⟩ = false := one_frozen hset.dep
  have hsz2 : gp < (V.setCell ⟨gs,0,none⟩ (.int .i64 L)).heap.size := one_lt hset.dep
  have hsiz3 : ((V.setCell ⟨gs,0,none⟩ (.int .i64 L)).setCell ⟨gp,0,none⟩ (.int .i64 (d + 1))).cell? ⟨gs,0,none⟩ = some (.int .i64 L) := one_cell_of hset2.siz
  have hdep3 : ((V.setCell ⟨gs,0,none⟩ (.int .i64 L)).setCell ⟨gp,0,none⟩ (.int .i64 (d + 1))).cell? ⟨gp,0,none⟩ = some (.int .i64 (d + 1)) := one_cell_of hset2.dep
  have hself3 : ((V.setCell ⟨gs,0,none⟩ (.int .i64 L)).setCell ⟨gp,0,none⟩ (.int .i64 (d + 1))).cell? ⟨gd,0,none⟩ = some (.func (.func 180) #[] #[.pointer (some ⟨gs,0,none⟩),.pointer (some ⟨gp,0,none⟩),.pointer (some ⟨gd,0,none⟩)]) := one_cell_of hset2.self
  have hsz3 : gs < ((V.setCell ⟨gs,0,none⟩ (.int .i64 L)).setCell ⟨gp,0,none⟩ (.int .i64 (d + 1))).heap.size := one_lt hset2.siz
  have hsz4 : gp < ((V.setCell ⟨gs,0,none⟩ (.int .i64 L)).setCell ⟨gp,0,none⟩ (.int .i64 (d + 1))).heap.size := one_lt hset2.dep
  have hsz5 : gd < ((V.setCell ⟨gs,0,none⟩ (.int .i64 L)).setCell ⟨gp,0,none⟩ (.int .i64 (d + 1))).heap.size := one_lt hset2.self
  have HPs : Hid (w.heap.size ≤ gp ∧ gs ≠ gp ∧ gd ≠ gp) := ⟨hp,h1.symm,h3⟩
  have q := peach_any hkl 180 Tryz.call180 #[.pointer (some ⟨gs,0,none⟩),.pointer (some ⟨gp,0,none⟩),.pointer (some ⟨gd,0,none⟩)] (fun i U => ∃ y,Bst w gs gp gd U y (d + 1) ∧ 0 ≤ y ∧ y + tbyts (kids.drop i) = L + B) (fun _ => False)
    (fun i U ⟨y,hy,_⟩ => hy.below) (fun i U U' ⟨y,hy,h5⟩ hb => ⟨y,hy.under hb,h5⟩)
    (fun i t hi U ⟨y,hy,h5,h6⟩ => by
     have hil : i < kids.length := (List.getElem?_eq_some_iff.1 hi).1
     rw [List.drop_eq_getElem_cons hil,show kids[i] = t by rw [List.getElem?_eq_getElem hil] at hi; exact Option.some.inj hi,tbyts] at h6
     have hn := (tnums_at kids i t hi).1
     have hp1 := tbyts_pos (kids.drop (i + 1))
     have hp2 := tbyt_pos t
     refine (ih i t hi U y (d + 1) hy h5 (by omega) (by omega) (by omega)).mono ?_
     rintro e U' ⟨rfl,h7⟩
     exact .inl ⟨rfl,_,h7,by omega,by omega⟩) _ ⟨L,HA,by omega,by rw [hB]; rfl⟩
  have Q : Hid _ := q
  have hLw : s + (96 + (text.length : Int) + (doc.length : Int)) = L := hL.symm
  clear q hcap' ih hkl hmem hkids hset hset2 HA hV hR htext hdoc hnone hB hL hp hs h1 h2 h3
  go_enter Tryz.func180,Tryz.ntmps180
  go_wp2_with fail
  refine Calls.mono Q.out ?_
  clear hdep2 hdep3 hself3 hfrp2 hcell hdep hself hfr hfrp hlt hltp hltd hsz2 hsz3 hsz4 hsz5 hsiz3
  rintro e U (⟨rfl,y,h5,h6,h7⟩ | ⟨_,h5⟩)
  ·have hc1 := one_cell_of h5.dep
   have hc2 := one_frozen h5.dep
   have HS := h5.setD HPs.out.1 HPs.out.2.1 HPs.out.2.2 d
   have H : Hid _ := And.intro HS h7
   clear h5 h7 HS
   go_wp2
   go_ret
   obtain ⟨h5,h7⟩ := H.out
   have h7' : y = L + B := by rw [List.drop_length,tbyts] at h7; omega
   subst h7'
   exact ⟨rfl,h5⟩
  ·exact h5.elim

set_option maxRecDepth 10000 in
set_option maxHeartbeats 2000000 in
theorem pbounded_any {w : World} {ad : Option Addr} {cap : Nat} {kids : List Tn} (hk : Kl w ad cap kids) (hb : tbyts kids ≤ 2147483647) (hn : tnums kids ≤ 65536) :
  Calls Tryz.prog 163 #[.slice ad kids.length cap] w fun e W' => e = .returned (.bool true) ∧ Below w.heap.size w W' := by
 have q := fun V h0 => peach_any hk 180 Tryz.call180 #[.pointer (some ⟨w.heap.size,0,none⟩),.pointer (some ⟨w.heap.size + 1,0,none⟩),.pointer (some ⟨w.heap.size + 2,0,none⟩)] (fun i U => ∃ y,Bst w w.heap.size (w.heap.size + 1) (w.heap.size + 2) U y 0 ∧ 0 ≤ y ∧ y + tbyts (kids.drop i) = tbyts kids) (fun _ => False)
    (fun i U ⟨y,hy,_⟩ => hy.below) (fun i U U' ⟨y,hy,h5⟩ hb => ⟨y,hy.under hb,h5⟩)
    (fun i t hi U ⟨y,hy,h5,h6⟩ => by
     have hil : i < kids.length := (List.getElem?_eq_some_iff.1 hi).1
     rw [List.drop_eq_getElem_cons hil,show kids[i] = t by rw [List.getElem?_eq_getElem hil] at hi; exact Option.some.inj hi,tbyts] at h6
     have hn := (tnums_at kids i t hi).1
     have hp1 := tbyts_pos (kids.drop (i + 1))
     have hp2 := tbyt_pos t
     refine (pbnd_any (hk.hall i t hi) w.heap.size (w.heap.size + 1) (w.heap.size + 2) (by omega) (by omega) (by omega) (by omega) (by omega) U y 0 hy h5 (by omega) (by omega) (by omega)).mono ?_
     rintro e U' ⟨rfl,h7⟩
     exact .inl ⟨rfl,_,h7,by omega,by omega⟩) V ⟨0,h0,by omega,by simp⟩
 have hmf : ∀ (fn : Fn) (first cap : Array Value) (w : World),(Instr.makeFunc fn first cap).run Tryz.prog w = .ok (.func fn first cap) w := fun _ _ _ _ => rfl
 have HQ : Hid _ := q
 clear q hk
 go_enter Tryz.func163,Tryz.ntmps163
 go_wp2_with fail
 refine Calls.mono (HQ.out _ ?_) ?_
 ·exact ⟨((((Below.refl _ _).alloc (Nat.le_refl _) _).alloc (by simp only [World.size_alloc]; omega) _).alloc (by simp only [World.size_alloc]; omega) _),alloc_old (alloc_old (alloc_at _ _ (by simp))),alloc_old (alloc_at _ _ (by simp)),alloc_at _ _ (by simp)⟩
 ·rintro e U (⟨rfl,y,h1,_⟩ | ⟨_,h1⟩)
  ·have HB : Hid (Below w.heap.size w U) := h1.below
   clear h1
   go_wp2
   go_ret
   exact ⟨rfl,HB.out⟩
  ·exact h1.elim

end Go.Proofs.YtlekfcehmlepkaaGreatDoor
