/- Put together by a program out of these texts of mine: PKid2, PRules0. -/
import Derived.Deep.RegionWith
import Derived.Test.YtlekfcehmlepkaaGreatDoorBunD13

namespace Go.Proofs.YtlekfcehmlepkaaGreatDoor
open Go.RowKit
set_option linter.unusedVariables false
set_option linter.unusedSimpArgs false

def pkFile (l : List Tn) : Bool := (l.all fun t => [3,2,4,5,6,7,8].contains t.kind) && decide (pkCount l ≤ 1)

set_option maxRecDepth 10000 in
set_option maxHeartbeats 2000000 in
theorem pfile_any {V : World} {ad : Option Addr} {cap : Nat} {kids : List Tn} (hT : TTab V) (hk : Kl V ad cap kids) (hs : ∀ (i : Nat) (t : Tn),kids[i]? = some t → TnShort t) :
  Calls Tryz.prog 74 #[.slice ad kids.length cap] V fun e V' => e = .returned (.bool (pkFile kids)) ∧ Below V.heap.size V V' := by
 have hmf : ∀ (fn : Fn) (first cap : Array Value) (w : World),(Instr.makeFunc fn first cap).run Tryz.prog w = .ok (.func fn first cap) w := fun _ _ _ _ => rfl
 have q1 := ponly_any ((V.alloc (.cells #[.int .i64 0] 3)).alloc (.cells #[.int .i64 3,.int .i64 2,.int .i64 4,.int .i64 5,.int .i64 6,.int .i64 7,.int .i64 8] 3)) (V.heap.size + 1) 7 [3,2,4,5,6,7,8] (by simp) (fun j hj => by
  have h2 := alloc_at (V.alloc (.cells #[.int .i64 0] 3)) (.cells #[.int .i64 3,.int .i64 2,.int .i64 4,.int .i64 5,.int .i64 6,.int .i64 7,.int .i64 8] 3) (k := V.heap.size + 1) (by simp)
  have hj' : j < 7 := hj
  rcases (show j = 0 ∨ j = 1 ∨ j = 2 ∨ j = 3 ∨ j = 4 ∨ j = 5 ∨ j = 6 by omega) with rfl | rfl | rfl | rfl | rfl | rfl | rfl
  all_goals exact blk_cell h2 _ _ rfl) (by simp) V.heap.size (by omega)
 change Calls Tryz.prog 78 #[.slice (some ⟨V.heap.size + 1,0,none⟩) 7 7] _ _ at q1
 have HBA : Hid (Below V.heap.size V ((V.alloc (.cells #[.int .i64 0] 3)).alloc (.cells #[.int .i64 3,.int .i64 2,.int .i64 4,.int .i64 5,.int .i64 6,.int .i64 7,.int .i64 8] 3))) := ((Below.refl _ _).alloc (Nat.le_refl _) _).alloc (by simp only [World.size_alloc]; omega) _
 have q3 : ∀ k caps,∀ (U : World),(∀ (V' : World) (ad : Option Addr) (cap : Nat) (kids : List Tn),Sin V.heap.size U V' → TTab V' → Kl V' ad cap kids → (∀ (i : Nat) (t : Tn),kids[i]? = some t → TnShort t) → Calls Tryz.prog k (#[.slice ad kids.length cap] ++ caps) V' fun e V'' => e = .returned (.bool (kids.all fun t => [3,2,4,5,6,7,8].contains t.kind)) ∧ Below V'.heap.size V' V'') → Below V.heap.size V U → Calls Tryz.prog k (#[.slice ad kids.length cap] ++ caps) U fun e V'' => e = .returned (.bool (kids.all fun t => [3,2,4,5,6,7,8].contains t.kind)) ∧ Below U.heap.size U V'' :=
  fun k caps U h hU => h U ad cap kids (Sin.refl _ _) (hT.below hU (Nat.le_refl _)) (hk.under hU) hs
 have q4 : ∀ U,Below V.heap.size V U → U.heap[V.heap.size]? = some (.cells #[.int .i64 0] 3 (0,0)) → Calls Tryz.prog 49 #[.slice ad kids.length cap,.func (.func 117) #[] #[.pointer (some ⟨V.heap.size,0,none⟩)]] U fun e U' => e = .returned (.bool (decide (pkCount kids ≤ 1))) ∧ Below V.heap.size V U' := by
  intro U hU hg
  refine (peach_any hk 117 Tryz.call117 #[.pointer (some ⟨V.heap.size,0,none⟩)] (fun i X => Below V.heap.size V X ∧ X.heap[V.heap.size]? = some (.cells #[.int .i64 (pkCount (kids.take i) : Int)] 3 (0,0)) ∧ pkCount (kids.take i) ≤ 1) (fun X => Below V.heap.size V X ∧ ¬ pkCount kids ≤ 1) (fun i X h => h.1) (fun i X X' h hb => ⟨h.1.trans (hb.mono h.1.size),(hb.block _ (one_lt h.2.1)).trans h.2.1,h.2.2⟩) ?_ U ⟨hU,hg,by simp [pkCount]⟩).mono ?_
  ·rintro i t hi X ⟨h1,h2,h3⟩
   refine (pfile1_any t X V.heap.size _ h3 h2 V.heap.size (Nat.le_refl _)).mono ?_
   rintro e X' ⟨rfl,h4,h5⟩
   rw [← pkCount_take hi] at h4 ⊢
   by_cases hc : pkCount (kids.take (i + 1)) ≤ 1
   ·exact .inl ⟨by rw [decide_eq_true hc],h1.trans h5,h4,hc⟩
   ·exact .inr ⟨by rw [decide_eq_false hc],h1.trans h5,fun h => hc (Nat.le_trans (pkCount_le _ _) h)⟩
  ·rintro e X (⟨rfl,h1,h2,h3⟩ | ⟨rfl,h1,h2⟩)
   ·rw [List.take_length] at h3
    exact ⟨by rw [decide_eq_true h3],h1⟩
   ·exact ⟨by rw [decide_eq_false h2],h1⟩
 unfold pkFile
 generalize (kids.all fun t => [3,2,4,5,6,7,8].contains t.kind) = R1 at q3 ⊢
 generalize decide (pkCount kids ≤ 1) = R2 at q4 ⊢
 have hl := hk.hlen
 have Q1 : Hid _ := q1
 have Q3 : Hid _ := q3
 have Q4 : Hid _ := q4
 clear q1 q3 q4 hk hs
 generalize hN : kids.length = N at *
 cases R1 with
 | false =>
  go_enter Tryz.func74,Tryz.ntmps74
  go_wp2_with fail
  refine Calls.mono Q1.out ?_
  rintro e w1 ⟨f,rfl,⟨k,caps,rfl,hin,hask⟩,hb⟩
  have HB : Hid (Below V.heap.size V w1) := HBA.out.trans (hb.mono HBA.out.size)
  have Q : Hid _ := Q3.out k caps w1 hask HB.out
  clear hask hb
  unfold Goin at hin
  go_wp2_with fail
  refine Calls.mono Q.out ?_
  rintro e w2 ⟨rfl,hb2⟩
  have HB2 : Hid (Below V.heap.size V w2) := HB.out.trans (hb2.mono HB.out.size)
  clear hb2 hin
  go_wp2
  go_ret
  exact ⟨rfl,HB2.out⟩
 | true =>
  go_enter Tryz.func74,Tryz.ntmps74
  go_wp2_with fail
  refine Calls.mono Q1.out ?_
  rintro e w1 ⟨f,rfl,⟨k,caps,rfl,hin,hask⟩,hb⟩
  have HB : Hid (Below V.heap.size V w1) := HBA.out.trans (hb.mono HBA.out.size)
  have Q : Hid _ := Q3.out k caps w1 hask HB.out
  have b0 : w1.heap[V.heap.size]? = some (.cells #[.int .i64 0] 3 (0,0)) := (hb.block _ (by simp only [World.size_alloc]; omega)).trans (alloc_old (alloc_at _ _ rfl))
  have HB0 : Hid (w1.heap[V.heap.size]? = some (.cells #[.int .i64 0] 3 (0,0))) := b0
  clear hask hb b0
  unfold Goin at hin
  go_wp2_with fail
  refine Calls.mono Q.out ?_
  rintro e w2 ⟨rfl,hb2⟩
  have HB2 : Hid (Below V.heap.size V w2) := HB.out.trans (hb2.mono HB.out.size)
  have QE : Hid _ := Q4.out w2 HB2.out ((hb2.block _ (one_lt HB0.out)).trans HB0.out)
  clear hb2 hin
  go_wp2_with fail
  refine Calls.mono QE.out ?_
  rintro e w3 ⟨rfl,hb3⟩
  have HB3 : Hid (Below V.heap.size V w3) := hb3
  clear hb3
  go_wp2
  go_ret
  exact ⟨rfl,HB3.out⟩

def pkOption (l : List Tn) : Bool := decide (1 < l.length) && (pkSome 19 (l.take (l.length - 1)) && pkHead (fun t => pkWorth t.kind) (l.drop (l.length - 1)))

set_option maxRecDepth 10000 in
set_option maxHeartbeats 4000000 in
theorem poption_any {V : World} {ad : Option Addr} {cap : Nat} {kids : List Tn} (hT : TTab V) (hk : Kl V ad cap kids) (hs : ∀ (i : Nat) (t : Tn),kids[i]? = some t → TnShort t) :
  Calls Tryz.prog 77 #[.slice ad kids.length cap] V fun e V' => e = .returned (.bool (pkOption kids)) ∧ Below V.heap.size V V' := by
 have hl := hk.hlen
 by_cases h1 : 1 < kids.length
 ·obtain ⟨b,off,rfl,hlt,hc⟩ := hk.hmem (by omega)
  obtain ⟨L,hL⟩ : ∃ L,kids.length = L + 1 := ⟨kids.length - 1,by omega⟩
  obtain ⟨t,hkid⟩ : ∃ t,kids[L]? = some t := ⟨kids[L]'(by omega),List.getElem?_eq_getElem (by omega)⟩
  have hL0 : (0 : Int) < (L : Int) := by omega
  have hP : pkOption kids = (pkSome 19 (kids.take L) && pkWorth t.kind) := by
   unfold pkOption
   rw [decide_eq_true h1,Bool.true_and,hL]
   have hil : L < kids.length := by omega
   rw [Nat.add_sub_cancel,List.drop_eq_getElem_cons hil,show kids[L] = t by rw [List.getElem?_eq_getElem hil] at hkid; exact Option.some.inj hkid]
   rfl
  rw [hP]
  have q1 := fun W => psome_any W 19 (by omega) (by omega)
  have hl1 : (kids.take L).length = L := by rw [List.length_take]; omega
  have q3 : ∀ k caps,∀ (W U : World),(∀ (V' : World) (ad : Option Addr) (cap : Nat) (kids : List Tn),Sin W.heap.size U V' → TTab V' → Kl V' ad cap kids → (∀ (i : Nat) (t : Tn),kids[i]? = some t → TnShort t) → Calls Tryz.prog k (#[.slice ad kids.length cap] ++ caps) V' fun e V'' => e = .returned (.bool (pkSome 19 kids)) ∧ Below V'.heap.size V' V'') → Below V.heap.size V U → Calls Tryz.prog k (#[.slice (some ⟨b,off,none⟩) L cap] ++ caps) U fun e V'' => e = .returned (.bool (pkSome 19 (kids.take L))) ∧ Below U.heap.size U V'' := by
   intro k caps W U h hU
   have := h U (some ⟨b,off,none⟩) cap (kids.take L) (Sin.refl _ _) (hT.below hU (Nat.le_refl _)) ((hk.take L (by omega)).under hU) (fun i t hi => hs i t (by
    rw [List.getElem?_take] at hi
    split at hi
    ·exact hi
    ·cases hi))
   rw [hl1] at this
   exact this
  have q4 := fun U => pworth_any t U
  generalize pkWorth t.kind = R2 at q4 ⊢
  obtain ⟨kd,tx,n2,m2,a2,pos2,doc2,ad2,cap2,ks⟩ := t
  have hcs := fun U (hU : Below V.heap.size V U) => kid_cells hlt hU hc hkid
  change ∀ U,Calls Tryz.prog 92 #[.agg #[.int .i64 kd,.string (strOfNums tx),.int .i64 n2,.int .i64 m2,.int .i64 a2,.int .i64 pos2,.string (strOfNums doc2),.slice ad2 ks.length cap2]] U _ at q4
  generalize strOfNums tx = U1 at hcs q4
  generalize strOfNums doc2 = U2 at hcs q4
  generalize pkSome 19 (kids.take L) = R1 at q3 ⊢
  rw [hL]
  have hcap : L + 1 ≤ cap := by have := hk.hcap; omega
  have hcap1 : L ≤ cap := by omega
  have hLn : 0 < L := by omega
  have hLd : decide (0 < L) = true := decide_eq_true hLn
  have Q1 : Hid _ := q1
  have Q3 : Hid _ := q3
  have Q4 : Hid _ := q4
  have HC : Hid _ := hcs
  have hLb : (L : Int) ≤ 9223372036854775806 := by omega
  clear q1 q3 q4 hcs hk hs hc hkid hP hl1 h1 hl
  go_enter Tryz.func77,Tryz.ntmps77
  go_wp2_with fail
  refine wp_region_any rfl ?_
  refine wpAny_take (i := 0) (v := ?_) rfl (by kernel_rfl) (by kernel_rfl) (by kernel_rfl) (fun _ _ _ h => h) (Or.inl ⟨by rfl,?_⟩) ?_
  rotate_left
  ·intro w
   go_simp
   try with_reducible rfl
  refine wpAny_take (i := 1) (v := ?_) rfl (by kernel_rfl) (by kernel_rfl) (by kernel_rfl) (fun _ _ _ h => h) (Or.inl ⟨by rfl,?_⟩) ?_
  rotate_left
  ·intro w
   go_simp
   try with_reducible rfl
  refine wpAny_take (i := 2) (v := ?_) rfl (by kernel_rfl) (by kernel_rfl) (by kernel_rfl) (fun _ _ _ h => h) (Or.inl ⟨by rfl,?_⟩) ?_
  rotate_left
  ·intro w
   go_simp
   try with_reducible rfl
  refine wpAny_take (i := 4) (v := ?_) rfl (by kernel_rfl) (by kernel_rfl) (by kernel_rfl) (fun _ _ _ h => h) (Or.inl ⟨by rfl,?_⟩) ?_
  rotate_left
  ·intro w
   go_simp
   try with_reducible rfl
  refine wpAny_take (i := 5) (v := ?_) rfl (by kernel_rfl) (by kernel_rfl) (by kernel_rfl) (fun _ _ _ h => h) (Or.inl ⟨by rfl,?_⟩) ?_
  rotate_left
  ·intro w
   go_simp
   try with_reducible rfl
  refine wpAny_take (i := 6) (v := ?_) rfl (by kernel_rfl) (by kernel_rfl) (by kernel_rfl) (fun _ _ _ h => h) (Or.inl ⟨by rfl,?_⟩) ?_
  rotate_left
  ·intro w
   go_simp
   try with_reducible rfl
  refine wpAny_all (rs := [3]) (by kernel_rfl) (by simp) ?_
  intro i hi
  obtain rfl : i = 3 := by simpa using hi
  clear hi
  refine wpOp_list rfl ?_
  intro Q' hQ'
  have HQ : Hid _ := hQ'
  clear hQ'
  go_wp2_with fail
  refine Calls.mono (Q1.out _) ?_
  rintro e w1 ⟨f,rfl,⟨k,caps,rfl,hin,hask⟩,hb⟩
  have HB1 : Hid (Below V.heap.size V w1) := (Below.refl _ _).drew.trans (hb.mono (Nat.le_refl _))
  have Q : Hid _ := fun U (hU : Below w1.heap.size w1 U) => Q3.out k caps V.drew U (fun V' ad cap kids hV' => hask V' ad cap kids ((Sin.of hU (Nat.le_refl _)).trans hV')) (HB1.out.trans (hU.mono HB1.out.size))
  have cs := fun x : Ext w1 => HC.out x.val (HB1.out.trans (x.ok.mono HB1.out.size))
  have c0 := fun x => (cs x).1
  have c1 := fun x => (cs x).2.1
  have c2 := fun x => (cs x).2.2.1
  have c3 := fun x => (cs x).2.2.2.1
  have c4 := fun x => (cs x).2.2.2.2.1
  have c5 := fun x => (cs x).2.2.2.2.2.1
  have c6 := fun x => (cs x).2.2.2.2.2.2.1
  have c7 := fun x => (cs x).2.2.2.2.2.2.2
  clear hask hb cs
  unfold Goin at hin
  go_wp2
  refine HQ.out _ _ ?_
  clear HQ
  refine wpAny_rest 7 (by kernel_rfl) (by kernel_rfl) (by kernel_rfl) ?_
  simp only [List.drop_succ_cons,List.drop_zero]
  cases R1 with
  | false =>
   repeat (go_big_quiet_step (exact Ext.call (fun U hU => Q.out U hU) _))
   refine wpQuiet_nil ?_
   rintro w5 ⟨⟨_,hb5⟩,rfl⟩
   have HB5 : Hid (Below V.heap.size V w5) := HB1.out.trans (hb5.mono HB1.out.size)
   clear hb5
   go_wp2
   go_ret
   exact ⟨rfl,HB5.out⟩
  | true =>
   repeat (go_big_quiet_step (first | (exact Ext.call (fun U hU => Q.out U hU) _) | (exact Ext.call (fun U hU => Q4.out U) _)))
   refine wpQuiet_nil ?_
   rintro w5 ⟨⟨_,hb5⟩,rfl⟩
   have HB5 : Hid (Below V.heap.size V w5) := HB1.out.trans (hb5.mono HB1.out.size)
   clear hb5
   go_wp2
   go_ret
   exact ⟨rfl,HB5.out⟩
 ·rw [show pkOption kids = false by unfold pkOption; rw [decide_eq_false h1]; rfl]
  have hc0 := fun x : Ext V => x.ok
  have HB : Hid (Below V.heap.size V V) := Below.refl _ _
  clear hk hs hc0 hT
  rcases (show kids.length = 0 ∨ kids.length = 1 by omega) with hN | hN
  all_goals
   rw [hN]
   clear hN hl h1
   go_enter Tryz.func77,Tryz.ntmps77
   go_wp2_with fail
   refine wp_region_ext V (Below.refl _ _) rfl (by kernel_rfl) ?_
   repeat (go_big_quiet_step (fail))
   refine wpQuiet_nil ?_
   rintro w5 ⟨⟨_,hb5⟩,rfl⟩
   have HB5 : Hid (Below V.heap.size V w5) := hb5
   clear hb5
   go_wp2
   go_ret
   exact ⟨rfl,HB5.out⟩

def pkOneof (l : List Tn) : Bool := l.all pkOne

def pkReserved (l : List Tn) : Bool := pkSome 14 l || pkSome 15 l

def rl1 : Rl := ⟨(some pxSyntax),0,0,false,0,false,(some pkFile)⟩

def rl2 : Rl := ⟨(some pxPath),0,0,false,1,false,none⟩

def rl3 : Rl := ⟨(some pxFull),0,0,false,0,false,none⟩

def rl4 : Rl := ⟨none,0,0,false,0,false,(some pkOption)⟩

def rl5 : Rl := ⟨(some pxIdent),0,0,false,0,true,(some (fun l => l.all fun t => [9,10,5,6,7,12,13,11,4].contains t.kind))⟩

def rl6 : Rl := ⟨(some pxIdent),0,0,false,0,true,(some (fun l => l.all fun t => [16,4].contains t.kind))⟩

def rl7 : Rl := ⟨(some pxNamed),0,0,false,0,false,(some (fun l => l.all fun t => [9].contains t.kind))⟩

def rl8 : Rl := ⟨(some pxIdent),0,0,false,0,true,(some (fun l => l.all fun t => [17,4].contains t.kind))⟩

def rl9 : Rl := ⟨(some pxIdent),0,2147483647,false,3,true,(some (ptyp 1))⟩

def rl10 : Rl := ⟨(some pxIdent),0,2147483647,false,0,true,(some pkMap)⟩

def rl11 : Rl := ⟨(some pxIdent),0,0,false,0,true,(some pkOneof)⟩

def rl12 : Rl := ⟨none,0,0,false,0,false,(some (pkSome 14))⟩

def rl13 : Rl := ⟨none,0,0,false,0,false,(some pkReserved)⟩

def rl14 : Rl := ⟨none,0,2147483647,true,0,false,none⟩

def rl15 : Rl := ⟨(some pxIdent),0,0,false,0,false,none⟩

def rl16 : Rl := ⟨(some pxValue),(-2147483648),2147483647,false,0,true,(some (fun l => l.all fun t => [4].contains t.kind))⟩

def rl17 : Rl := ⟨(some pxIdent),0,0,false,3,true,(some (ptyp 2))⟩

def rl18 : Rl := ⟨(some pxType),0,0,false,0,false,none⟩

def rl19 : Rl := ⟨(some pxPart),0,0,false,1,false,none⟩

def rl20 : Rl := ⟨(some pxInt),0,0,false,0,false,none⟩

def rl21 : Rl := ⟨(some pxIdent),0,0,false,0,false,none⟩

def rl22 : Rl := ⟨(some pxStr),0,0,false,0,false,none⟩

def rl23 : Rl := ⟨none,0,0,false,0,false,(some (fun l => l.all fun t => [24].contains t.kind))⟩

def rl24 : Rl := ⟨(some pxPart),0,0,false,1,false,(some pkEntry)⟩

def rls : List Rl := [rl1,rl2,rl3,rl4,rl5,rl6,rl7,rl8,rl9,rl10,rl11,rl12,rl13,rl14,rl15,rl16,rl17,rl18,rl19,rl20,rl21,rl22,rl23,rl24]

def rtab (g : Nat) : Nat → Sk
 | 0 => .rule rl1
 | 1 => .rule rl2
 | 2 => .rule rl3
 | 3 => .rule rl4
 | 4 => .val (.func (.func 68) #[] #[])
 | 5 => .ints [9,10,5,6,7,12,13,11,4]
 | 6 => .ask (fun l => l.all fun t => [9,10,5,6,7,12,13,11,4].contains t.kind)
 | 7 => .rule rl5
 | 8 => .val (.func (.func 68) #[] #[])
 | 9 => .ints [16,4]
 | 10 => .ask (fun l => l.all fun t => [16,4].contains t.kind)
 | 11 => .rule rl6
 | 12 => .ints [9]
 | 13 => .ask (fun l => l.all fun t => [9].contains t.kind)
 | 14 => .rule rl7
 | 15 => .val (.func (.func 68) #[] #[])
 | 16 => .ints [17,4]
 | 17 => .ask (fun l => l.all fun t => [17,4].contains t.kind)
 | 18 => .rule rl8
 | 19 => .val (.func (.func 68) #[] #[])
 | 20 => .ask (ptyp 1)
 | 21 => .rule rl9
 | 22 => .val (.func (.func 68) #[] #[])
 | 23 => .rule rl10
 | 24 => .val (.func (.func 68) #[] #[])
 | 25 => .rule rl11
 | 26 => .ask (pkSome 14)
 | 27 => .rule rl12
 | 28 => .rule rl13
 | 29 => .rule rl14
 | 30 => .val (.func (.func 68) #[] #[])
 | 31 => .rule rl15
 | 32 => .ints [4]
 | 33 => .ask (fun l => l.all fun t => [4].contains t.kind)
 | 34 => .val (.func (.func 86) #[] #[.pointer (some ⟨g + 1,0,none⟩)])
 | 35 => .rule rl16
 | 36 => .val (.func (.func 68) #[] #[])
 | 37 => .ask (ptyp 2)
 | 38 => .rule rl17
 | 39 => .rule rl18
 | 40 => .val (.func (.func 70) #[] #[])
 | 41 => .rule rl19
 | 42 => .rule rl20
 | 43 => .val (.func (.func 68) #[] #[])
 | 44 => .rule rl21
 | 45 => .rule rl22
 | 46 => .ints [24]
 | 47 => .ask (fun l => l.all fun t => [24].contains t.kind)
 | 48 => .rule rl23
 | 49 => .val (.func (.func 70) #[] #[])
 | 50 => .rule rl24
 | 51 => .all rls
 | _ => .val undef

def rF (g : Nat) (us : Nat → Value) : Act := { tmps := (.pointer (some ⟨g,0,none⟩) :: .pointer (some ⟨g + 1,0,none⟩) :: .func (.func 70) #[] #[] :: us 3 :: us 4 :: us 5 :: us 6 :: us 7 :: us 8 :: us 9 :: us 10 :: us 11 :: us 12 :: us 13 :: us 14 :: us 15 :: us 16 :: us 17 :: us 18 :: us 19 :: us 20 :: us 21 :: us 22 :: us 23 :: us 24 :: us 25 :: us 26 :: us 27 :: us 28 :: us 29 :: us 30 :: us 31 :: us 32 :: us 33 :: us 34 :: us 35 :: us 36 :: us 37 :: us 38 :: us 39 :: us 40 :: us 41 :: us 42 :: us 43 :: us 44 :: us 45 :: us 46 :: us 47 :: us 48 :: us 49 :: us 50 :: us 51 :: us 52 :: us 53 :: us 54 :: []).toArray,defers := [] }

def rzero : List Value := (List.replicate 25 zrl).flatten

def rX (g : Nat) (L : Nat → Bool) (us : Nat → Value) (w : World) : Prop :=
 w.heap[g + 1]? = some (.cells #[.func (.func 68) #[] #[]] 29 (0,0)) ∧ (L 52 = false → w.heap[g]? = some (.cells rzero.toArray 96 (0,0))) ∧ (L 52 = true → ∃ cs,w.heap[g]? = some (.cells (zrl ++ cs).toArray 96 (0,0)) ∧ AllIs (g + 1) w rls cs)

def rI (W : World) (L : Nat → Bool) (a : Act) (w : World) : Prop := Ist (W.heap.size + 1) W (rF W.heap.size) (· + 3) (rtab W.heap.size) (rX W.heap.size) L a w

theorem rfin {W : World} {L : Nat → Bool} {us : Nat → Value} {w w' : World} (hB : Below W.heap.size W w) (hS : ∀ i,L i = true → (rtab W.heap.size i).holds (W.heap.size + 1) w (us (i + 3))) (hX : rX W.heap.size L us w)
  (i : Nat) (hi : i ≠ 52) (v : Value) (a' : Act) (ha : a' = rF W.heap.size (upv us (i + 3) v)) (hb : Below w.heap.size w w') (hv : (rtab W.heap.size i).holds (W.heap.size + 1) w' v) :
  rI W (fun k => if k = i then true else L k) a' w' := by
 refine Ist.put (F := rF W.heap.size) (dst := (· + 3)) (fun i j h => by simpa using h) hS i v a' ha (Sin.of hb (Nat.le_refl _)) (hB.trans (hb.mono hB.size)) hv ?_
 obtain ⟨h1,h2,h3⟩ := hX
 refine ⟨(hb.block _ (one_lt h1)).trans h1,fun h => ?_,fun h => ?_⟩
 ·have h' : L 52 = false := by simpa [upb,Ne.symm hi] using h
  exact (hb.block _ (one_lt (h2 h'))).trans (h2 h')
 ·have h' : L 52 = true := by simpa [upb,Ne.symm hi] using h
  obtain ⟨cs,g1,g2⟩ := h3 h'
  exact ⟨cs,(hb.block _ (one_lt g1)).trans g1,AllIs.sin (Sin.of hb (Nat.le_refl _)) g2⟩

def rOk (W : World) (i : Nat) (o : Oper) : Prop :=
 ∀ (OPS : Array Oper) (Q : Exit → Act → World → Prop) (L : Nat → Bool) (us : Nat → Value) (w : World),Below W.heap.size W w → (∀ i,L i = true → (rtab W.heap.size i).holds (W.heap.size + 1) w (us (i + 3))) → rX W.heap.size L us w → OPS[i]? = some o → L i = false → (∀ e ∈ o.after,Region.binds .any e = true → L e.on = true) →
  wpOp Tryz.prog OPS Q i (fun a' w' => rI W (fun k => if k = i then true else L k) a' w') (rF W.heap.size us) w

theorem askN_fun {B : Nat} {w : World} (k : FuncId) (hin : Goin k) (p : Tn → Bool) (h : ∀ (V : World) (t : Tn),TTab V → TnOk V t → TnShort t → Calls Tryz.prog k #[t.val] V fun e V' => e = .returned (.bool (p t)) ∧ Below V.heap.size V V') : AskN B w (.func (.func k) #[] #[]) p :=
 ⟨k,#[],rfl,hin,fun V t _ hT ht hs => h V t hT ht hs⟩

theorem askL_fun {B : Nat} {w : World} (k : FuncId) (hin : Goin k) (p : List Tn → Bool) (h : ∀ (V : World) (ad : Option Addr) (cap : Nat) (kids : List Tn),TTab V → Kl V ad cap kids → (∀ (i : Nat) (t : Tn),kids[i]? = some t → TnShort t) → Calls Tryz.prog k #[.slice ad kids.length cap] V fun e V' => e = .returned (.bool (p kids)) ∧ Below V.heap.size V V') : AskL B w (.func (.func k) #[] #[]) p :=
 ⟨k,#[],rfl,hin,fun V ad cap kids _ hT hk hs => h V ad cap kids hT hk hs⟩

theorem pxIdent_ask (B : Nat) (w : World) : AskN B w (.func (.func 68) #[] #[]) pxIdent := askN_fun _ Tryz.call68 _ (fun V t hT ht hs => pxIdent_any hT ht hs)

theorem pxPart_ask (B : Nat) (w : World) : AskN B w (.func (.func 70) #[] #[]) pxPart := askN_fun _ Tryz.call70 _ (fun V t hT ht hs => pxPart_any hT ht hs)

theorem pxSyntax_ask (B : Nat) (w : World) : AskN B w (.func (.func 73) #[] #[]) pxSyntax := askN_fun _ Tryz.call73 _ (fun V t hT ht hs => pxSyntax_any hT ht hs)

theorem pxPath_ask (B : Nat) (w : World) : AskN B w (.func (.func 75) #[] #[]) pxPath := askN_fun _ Tryz.call75 _ (fun V t hT ht hs => pxPath_any hT ht hs)

theorem pxFull_ask (B : Nat) (w : World) : AskN B w (.func (.func 76) #[] #[]) pxFull := askN_fun _ Tryz.call76 _ (fun V t hT ht hs => pxFull_any hT ht hs)

theorem pxNamed_ask (B : Nat) (w : World) : AskN B w (.func (.func 79) #[] #[]) pxNamed := askN_fun _ Tryz.call79 _ (fun V t hT ht hs => pxNamed_any hT ht hs)

theorem pxType_ask (B : Nat) (w : World) : AskN B w (.func (.func 87) #[] #[]) pxType := askN_fun _ Tryz.call87 _ (fun V t hT ht hs => pxType_any hT ht hs)

theorem pxInt_ask (B : Nat) (w : World) : AskN B w (.func (.func 89) #[] #[]) pxInt := askN_fun _ Tryz.call89 _ (fun V t hT ht hs => pxInt_any hT ht hs)

theorem pxStr_ask (B : Nat) (w : World) : AskN B w (.func (.func 90) #[] #[]) pxStr := askN_fun _ Tryz.call90 _ (fun V t hT ht hs => pxStr_any hT ht hs)

theorem pkFile_ask (B : Nat) (w : World) : AskL B w (.func (.func 74) #[] #[]) pkFile := askL_fun _ Tryz.call74 _ (fun V ad cap kids hT hk hs => pfile_any hT hk hs)

theorem pkOption_ask (B : Nat) (w : World) : AskL B w (.func (.func 77) #[] #[]) pkOption := askL_fun _ Tryz.call77 _ (fun V ad cap kids hT hk hs => poption_any hT hk hs)

theorem pkMap_ask (B : Nat) (w : World) : AskL B w (.func (.func 82) #[] #[]) pkMap := askL_fun _ Tryz.call82 _ (fun V ad cap kids hT hk hs => pmap_any hT hk hs)

theorem pkOneof_ask (B : Nat) (w : World) : AskL B w (.func (.func 83) #[] #[]) pkOneof := askL_fun _ Tryz.call83 _ (fun V ad cap kids hT hk hs => poneof_any hk)

theorem pkReserved_ask (B : Nat) (w : World) : AskL B w (.func (.func 85) #[] #[]) pkReserved := askL_fun _ Tryz.call85 _ (fun V ad cap kids hT hk hs => preserved_any hT hk hs)

theorem pkEntry_ask (B : Nat) (w : World) : AskL B w (.func (.func 91) #[] #[]) pkEntry := askL_fun _ Tryz.call91 _ (fun V ad cap kids hT hk hs => pentry7_any hk)

theorem pxValue_ask {B g : Nat} {w : World} (hB : B ≤ g) (hg : w.heap[g]? = some (.cells #[.func (.func 68) #[] #[]] 29 (0,0))) : AskN B w (.func (.func 86) #[] #[.pointer (some ⟨g,0,none⟩)]) pxValue :=
 ⟨_,_,rfl,Tryz.call86,fun V t hV hT ht hs => pxValue_any g ((hV.block _ hB (one_lt hg)).trans hg) hT ht hs⟩

end Go.Proofs.YtlekfcehmlepkaaGreatDoor
