/- Put together by a program out of these texts of mine: PTxt1, PTxt2, PKid0, PKid1. -/
import Derived.Test.YtlekfcehmlepkaaGreatDoorBunD11

namespace Go.Proofs.YtlekfcehmlepkaaGreatDoor
open Go.RowKit
set_option linter.unusedVariables false
set_option linter.unusedSimpArgs false

set_option maxRecDepth 10000 in
set_option maxHeartbeats 2000000 in
theorem pint_core (S D X : ByteArray) (minus is same : Bool) (n : Int) (w : World) (n0 : 0 ≤ n) (n1 : n ≤ 18446744073709551615) (e1 : (X.toList == D.toList) = same)
  (q1 : ∀ W,Calls Tryz.prog 103 #[.string S,.string { data := #[45] }] W fun e w' => e = .returned (.tuple #[.string D,.bool minus]) ∧ w' = W)
  (q2 : ∀ W,Calls Tryz.prog 104 #[.string D] W fun e w' => e = .returned (.tuple #[.int .u64 n,.bool is]) ∧ Below W.heap.size W w')
  (q3 : ∀ W,Below w.heap.size w W → Calls Tryz.prog 105 #[.int .u64 n] W fun e w' => e = .returned (.string X) ∧ Below W.heap.size W w')
  (A : Int) (B C : Bool) (hR : Hid ((A,B,C) = if is = false ∨ same = false ∨ (minus = true ∧ (n = 0 ∨ 9223372036854775808 < n)) then (0,false,false) else (n,minus,true))) :
  Calls Tryz.prog 52 #[.string S] w fun e w' => e = .returned (.tuple #[.int .u64 A,.bool B,.bool C]) ∧ Below w.heap.size w w' := by
 have Q1 : Hid _ := q1
 have Q2 : Hid _ := q2
 have Q3 : Hid _ := q3
 clear q1 q2 q3
 have hBB : Hid (∀ w1 w2,Below w.heap.size w w1 → Below w1.heap.size w1 w2 → Below w.heap.size w w2) := fun w1 w2 a b => a.trans (b.mono a.size)
 cases is with
 | false =>
  have E := hR.out
  rw [if_pos (.inl rfl)] at E
  cases E
  clear hR Q3
  go_enter Tryz.func52,Tryz.ntmps52
  go_wp2_with fail
  refine Calls.mono (Q1.out _) ?_
  rintro e w1 ⟨rfl,rfl⟩
  go_wp2_with fail
  refine Calls.mono (Q2.out _) ?_
  rintro e w2 ⟨rfl,hb⟩
  go_wp2
  go_ret3
  exact ⟨rfl,hb⟩
 | true =>
  cases same with
  | false =>
   have E := hR.out
   rw [if_pos (.inr (.inl rfl))] at E
   cases E
   clear hR
   go_enter Tryz.func52,Tryz.ntmps52
   go_wp2_with fail
   refine Calls.mono (Q1.out _) ?_
   rintro e w1 ⟨rfl,rfl⟩
   go_wp2_with fail
   refine Calls.mono (Q2.out _) ?_
   rintro e w2 ⟨rfl,hb⟩
   have HB : Hid (Below w1.heap.size w1 w2) := hb
   clear hb
   go_wp2_with fail
   refine Calls.mono (Q3.out _ HB.out) ?_
   rintro e w3 ⟨rfl,hb⟩
   have HB3 : Hid (Below w1.heap.size w1 w3) := hBB.out _ _ HB.out hb
   clear hb
   go_wp2
   go_ret3
   exact ⟨rfl,HB3.out⟩
  | true =>
   cases minus with
   | false =>
    have E := hR.out
    rw [if_neg (by simp)] at E
    cases E
    clear hR
    go_enter Tryz.func52,Tryz.ntmps52
    go_wp2_with fail
    refine Calls.mono (Q1.out _) ?_
    rintro e w1 ⟨rfl,rfl⟩
    go_wp2_with fail
    refine Calls.mono (Q2.out _) ?_
    rintro e w2 ⟨rfl,hb⟩
    have HB : Hid (Below w1.heap.size w1 w2) := hb
    clear hb
    go_wp2_with fail
    refine Calls.mono (Q3.out _ HB.out) ?_
    rintro e w3 ⟨rfl,hb⟩
    have HB3 : Hid (Below w1.heap.size w1 w3) := hBB.out _ _ HB.out hb
    clear hb
    go_wp2
    go_ret3
    exact ⟨rfl,HB3.out⟩
   | true =>
    by_cases h0 : n = 0
    ·subst h0
     have E := hR.out
     rw [if_pos (.inr (.inr ⟨rfl,.inl rfl⟩))] at E
     cases E
     clear hR
     go_enter Tryz.func52,Tryz.ntmps52
     go_wp2_with fail
     refine Calls.mono (Q1.out _) ?_
     rintro e w1 ⟨rfl,rfl⟩
     go_wp2_with fail
     refine Calls.mono (Q2.out _) ?_
     rintro e w2 ⟨rfl,hb⟩
     have HB : Hid (Below w1.heap.size w1 w2) := hb
     clear hb
     go_wp2_with fail
     refine Calls.mono (Q3.out _ HB.out) ?_
     rintro e w3 ⟨rfl,hb⟩
     have HB3 : Hid (Below w1.heap.size w1 w3) := hBB.out _ _ HB.out hb
     clear hb
     go_wp2
     go_ret3
     exact ⟨rfl,HB3.out⟩
    ·have z0 : (n == 0) = false := by simpa using h0
     by_cases hbig : 9223372036854775808 < n
     ·have E := hR.out
      rw [if_pos (.inr (.inr ⟨rfl,.inr hbig⟩))] at E
      cases E
      clear hR
      go_enter Tryz.func52,Tryz.ntmps52
      go_wp2_with fail
      refine Calls.mono (Q1.out _) ?_
      rintro e w1 ⟨rfl,rfl⟩
      go_wp2_with fail
      refine Calls.mono (Q2.out _) ?_
      rintro e w2 ⟨rfl,hb⟩
      have HB : Hid (Below w1.heap.size w1 w2) := hb
      clear hb
      go_wp2_with fail
      refine Calls.mono (Q3.out _ HB.out) ?_
      rintro e w3 ⟨rfl,hb⟩
      have HB3 : Hid (Below w1.heap.size w1 w3) := hBB.out _ _ HB.out hb
      clear hb
      go_wp2
      go_ret3
      exact ⟨rfl,HB3.out⟩
     ·have E := hR.out
      rw [if_neg (by simp [h0]; omega)] at E
      cases E
      clear hR
      go_enter Tryz.func52,Tryz.ntmps52
      go_wp2_with fail
      refine Calls.mono (Q1.out _) ?_
      rintro e w1 ⟨rfl,rfl⟩
      go_wp2_with fail
      refine Calls.mono (Q2.out _) ?_
      rintro e w2 ⟨rfl,hb⟩
      have HB : Hid (Below w1.heap.size w1 w2) := hb
      clear hb
      go_wp2_with fail
      refine Calls.mono (Q3.out _ HB.out) ?_
      rintro e w3 ⟨rfl,hb⟩
      have HB3 : Hid (Below w1.heap.size w1 w3) := hBB.out _ _ HB.out hb
      clear hb
      go_wp2
      go_ret3
      exact ⟨rfl,HB3.out⟩

theorem pint_any (s : List Int) (W : World) (hT : Hid (TTab W)) (hz : Hid (∀ i,0 ≤ s.getD i 0 ∧ s.getD i 0 ≤ 255)) (hlen : (s.length : Int) ≤ 1000000) :
  Calls Tryz.prog 52 #[.string (strOfNums s)] W fun e w' => e = .returned (.tuple #[.int .u64 (tint s).1,.bool (tint s).2.1,.bool (tint s).2.2]) ∧ Below W.heap.size W w' := by
 have hs : byts s := mem_bd hz.out
 have hd : byts (if s.getD 0 0 = 45 then s.drop 1 else s) := by
  split
  ·exact fun c hc => hs c (List.mem_of_mem_drop hc)
  ·exact hs
 have hdl : ((if s.getD 0 0 = 45 then s.drop 1 else s).length : Int) ≤ 1000000 := by
  split
  ·rw [List.length_drop]; omega
  ·exact hlen
 have hE : tint s = tintd (decide (s.getD 0 0 = 45)) (if s.getD 0 0 = 45 then s.drop 1 else s) := by
  unfold tint
  by_cases h : s.getD 0 0 = 45
  ·rw [if_pos h,if_pos h,decide_eq_true h]
  ·rw [if_neg h,if_neg h,decide_eq_false h]
 have q1 := fun W => pcutp_any s 45 (by omega) (by omega) W hs
 change ∀ W,Calls Tryz.prog 103 #[.string (strOfNums s),.string { data := #[45] }] W fun e w' => e = .returned (.tuple #[.string (strOfNums (if s.getD 0 0 = 45 then s.drop 1 else s)),.bool (decide (s.getD 0 0 = 45))]) ∧ w' = W at q1
 generalize (if s.getD 0 0 = 45 then s.drop 1 else s) = d at hd hdl hE q1
 generalize decide (s.getD 0 0 = 45) = minus at hE q1
 have hb : 0 ≤ (qnum d).1 ∧ (qnum d).1 ≤ 18446744073709551615 := qnum_bd d
 rw [hE]
 refine pint_core (strOfNums s) (strOfNums d) (strOfNums (qdg 20 (qnum d).1)) minus (qnum d).2 (qdg 20 (qnum d).1 == d) (qnum d).1 W hb.1 hb.2 (str_eq (fun c hc => by have := (qdg_bd 20 _ hb.1).1 c hc; omega) hd) q1 (fun V => pnum_any d V (fun i => bd_mem hd i) (by omega)) (fun V hV => pdig_any _ V (hT.out.1.below hV (Nat.le_refl _)) hb.1 hb.2) _ _ _ ?_
 show _ = _
 unfold tintd
 by_cases h : (qnum d).2 = false ∨ qdg 20 (qnum d).1 ≠ d ∨ (minus = true ∧ ((qnum d).1 = 0 ∨ 9223372036854775808 < (qnum d).1))
 ·rw [if_pos h,if_pos (h.imp id (Or.imp (fun e => by simpa using e) id))]
 ·rw [if_neg h,if_neg (fun g => h (g.imp id (Or.imp (fun e => by simpa using e) id)))]

def Tn.n : Tn → Int | .mk _ _ n _ _ _ _ _ _ _ => n

def Tn.m : Tn → Int | .mk _ _ _ m _ _ _ _ _ _ => m

def Tn.a : Tn → Int | .mk _ _ _ _ a _ _ _ _ _ => a

def Tn.at_ : Tn → Int | .mk _ _ _ _ _ p _ _ _ _ => p

def Tn.doc : Tn → List Int | .mk _ _ _ _ _ _ d _ _ _ => d

theorem weq2 (s t : List Int) (hs : byts s) (ht : byts t) (L : List UInt8) (hL : (strOfNums t).toList = L) : ((strOfNums s).toList == L) = (s == t) := by rw [← hL]; exact str_eq hs ht

def pxIdent (t : Tn) : Bool := nident t.text

def pxPart (t : Tn) : Bool := if t.a = 1 then nfull (if t.text.getD 0 0 = 46 then t.text.drop 1 else t.text) else nident t.text

def pxSyntax (t : Tn) : Bool := (t.text == []) || ((t.text == [112,114,111,116,111,50]) || (t.text == [112,114,111,116,111,51]))

def pxPath (t : Tn) : Bool := decide ((t.text.length : Int) ≤ 1000)

def pxFull (t : Tn) : Bool := nfull t.text

def pxNamed (t : Tn) : Bool := pnamed t.text

def pxValue (t : Tn) : Bool := nident t.text && ((!(t.text == [111,112,116,105,111,110])) && !(t.text == [114,101,115,101,114,118,101,100]))

def pxType (t : Tn) : Bool := decide (t.text ∈ npl) || pnamed t.text

def pxInt (t : Tn) : Bool := (tint t.text).2.2

def pxStr (t : Tn) : Bool := decide ((t.text.length : Int) ≤ 10000)

set_option maxRecDepth 10000 in
set_option maxHeartbeats 1000000 in
theorem pxIdent_any {V : World} {t : Tn} (hT : TTab V) (h : TnOk V t) (hsh : TnShort t) :
  Calls Tryz.prog 68 #[t.val] V fun e V' => e = .returned (.bool (pxIdent t)) ∧ Below V.heap.size V V' := by
 have htl : (t.text.length : Int) ≤ 100000 := by cases hsh; assumption
 have hby : byts t.text := by cases h; assumption
 have hbd : Hid (∀ i,0 ≤ t.text.getD i 0 ∧ t.text.getD i 0 ≤ 255) := fun i => bd_mem hby i
 have q := fun W (hW : Below V.heap.size V W) => pident_any t.text W trivial hbd (by omega)
 unfold pxIdent
 obtain ⟨kind,text,n,m,a,pos,doc,ad,cap,kids⟩ := t
 change Calls Tryz.prog 68 #[.agg #[.int .i64 kind,.string (strOfNums text),.int .i64 n,.int .i64 m,.int .i64 a,.int .i64 pos,.string (strOfNums doc),.slice ad kids.length cap]] V fun e V' => e = .returned (.bool (nident text)) ∧ Below V.heap.size V V'
 change ∀ W,Below V.heap.size V W → Calls Tryz.prog 69 #[.string (strOfNums text)] W _ at q
 generalize strOfNums text = T1 at q ⊢
 generalize strOfNums doc = T2
 have HBA : Hid (Below V.heap.size V (V.alloc (.cells #[.int .i64 kind,.string T1,.int .i64 n,.int .i64 m,.int .i64 a,.int .i64 pos,.string T2,.slice ad kids.length cap] 28))) := (Below.refl _ _).alloc (Nat.le_refl _) _
 have Q : Hid _ := q _ HBA.out
 clear q h hsh hby htl hbd
 go_enter Tryz.func68,Tryz.ntmps68
 go_wp2_with fail
 refine Calls.mono Q.out ?_
 rintro e w1 ⟨rfl,hb⟩
 have HB : Hid (Below V.heap.size V w1) := HBA.out.trans (hb.mono HBA.out.size)
 clear hb
 go_wp2
 go_ret
 exact ⟨rfl,HB.out⟩

set_option maxRecDepth 10000 in
set_option maxHeartbeats 1000000 in
theorem pxFull_any {V : World} {t : Tn} (hT : TTab V) (h : TnOk V t) (hsh : TnShort t) :
  Calls Tryz.prog 76 #[t.val] V fun e V' => e = .returned (.bool (pxFull t)) ∧ Below V.heap.size V V' := by
 have htl : (t.text.length : Int) ≤ 100000 := by cases hsh; assumption
 have hby : byts t.text := by cases h; assumption
 have hbd : Hid (∀ i,0 ≤ t.text.getD i 0 ∧ t.text.getD i 0 ≤ 255) := fun i => bd_mem hby i
 have q := fun W (hW : Below V.heap.size V W) => pfull_any t.text W trivial hbd htl
 unfold pxFull
 obtain ⟨kind,text,n,m,a,pos,doc,ad,cap,kids⟩ := t
 change Calls Tryz.prog 76 #[.agg #[.int .i64 kind,.string (strOfNums text),.int .i64 n,.int .i64 m,.int .i64 a,.int .i64 pos,.string (strOfNums doc),.slice ad kids.length cap]] V fun e V' => e = .returned (.bool (nfull text)) ∧ Below V.heap.size V V'
 change ∀ W,Below V.heap.size V W → Calls Tryz.prog 71 #[.string (strOfNums text)] W _ at q
 generalize strOfNums text = T1 at q ⊢
 generalize strOfNums doc = T2
 have HBA : Hid (Below V.heap.size V (V.alloc (.cells #[.int .i64 kind,.string T1,.int .i64 n,.int .i64 m,.int .i64 a,.int .i64 pos,.string T2,.slice ad kids.length cap] 28))) := (Below.refl _ _).alloc (Nat.le_refl _) _
 have Q : Hid _ := q _ HBA.out
 clear q h hsh hby htl hbd
 go_enter Tryz.func76,Tryz.ntmps76
 go_wp2_with fail
 refine Calls.mono Q.out ?_
 rintro e w1 ⟨rfl,hb⟩
 have HB : Hid (Below V.heap.size V w1) := HBA.out.trans (hb.mono HBA.out.size)
 clear hb
 go_wp2
 go_ret
 exact ⟨rfl,HB.out⟩

set_option maxRecDepth 10000 in
set_option maxHeartbeats 1000000 in
theorem pxNamed_any {V : World} {t : Tn} (hT : TTab V) (h : TnOk V t) (hsh : TnShort t) :
  Calls Tryz.prog 79 #[t.val] V fun e V' => e = .returned (.bool (pxNamed t)) ∧ Below V.heap.size V V' := by
 have htl : (t.text.length : Int) ≤ 100000 := by cases hsh; assumption
 have hby : byts t.text := by cases h; assumption
 have hbd : Hid (∀ i,0 ≤ t.text.getD i 0 ∧ t.text.getD i 0 ≤ 255) := fun i => bd_mem hby i
 have q := fun W (hW : Below V.heap.size V W) => pisnamed_any t.text W (hT.below hW (Nat.le_refl _)) hby htl
 unfold pxNamed
 obtain ⟨kind,text,n,m,a,pos,doc,ad,cap,kids⟩ := t
 change Calls Tryz.prog 79 #[.agg #[.int .i64 kind,.string (strOfNums text),.int .i64 n,.int .i64 m,.int .i64 a,.int .i64 pos,.string (strOfNums doc),.slice ad kids.length cap]] V fun e V' => e = .returned (.bool (pnamed text)) ∧ Below V.heap.size V V'
 change ∀ W,Below V.heap.size V W → Calls Tryz.prog 80 #[.string (strOfNums text)] W _ at q
 generalize strOfNums text = T1 at q ⊢
 generalize strOfNums doc = T2
 have HBA : Hid (Below V.heap.size V (V.alloc (.cells #[.int .i64 kind,.string T1,.int .i64 n,.int .i64 m,.int .i64 a,.int .i64 pos,.string T2,.slice ad kids.length cap] 28))) := (Below.refl _ _).alloc (Nat.le_refl _) _
 have Q : Hid _ := q _ HBA.out
 clear q h hsh hby htl hbd
 go_enter Tryz.func79,Tryz.ntmps79
 go_wp2_with fail
 refine Calls.mono Q.out ?_
 rintro e w1 ⟨rfl,hb⟩
 have HB : Hid (Below V.heap.size V w1) := HBA.out.trans (hb.mono HBA.out.size)
 clear hb
 go_wp2
 go_ret
 exact ⟨rfl,HB.out⟩

set_option maxRecDepth 10000 in
set_option maxHeartbeats 1000000 in
theorem pxInt_any {V : World} {t : Tn} (hT : TTab V) (h : TnOk V t) (hsh : TnShort t) :
  Calls Tryz.prog 89 #[t.val] V fun e V' => e = .returned (.bool (pxInt t)) ∧ Below V.heap.size V V' := by
 have htl : (t.text.length : Int) ≤ 100000 := by cases hsh; assumption
 have hby : byts t.text := by cases h; assumption
 have hbd : Hid (∀ i,0 ≤ t.text.getD i 0 ∧ t.text.getD i 0 ≤ 255) := fun i => bd_mem hby i
 have q := fun W (hW : Below V.heap.size V W) => pint_any t.text W (hT.below hW (Nat.le_refl _)) hbd (by omega)
 unfold pxInt
 obtain ⟨kind,text,n,m,a,pos,doc,ad,cap,kids⟩ := t
 change Calls Tryz.prog 89 #[.agg #[.int .i64 kind,.string (strOfNums text),.int .i64 n,.int .i64 m,.int .i64 a,.int .i64 pos,.string (strOfNums doc),.slice ad kids.length cap]] V fun e V' => e = .returned (.bool ((tint text).2.2)) ∧ Below V.heap.size V V'
 change ∀ W,Below V.heap.size V W → Calls Tryz.prog 52 #[.string (strOfNums text)] W _ at q
 generalize strOfNums text = T1 at q ⊢
 generalize strOfNums doc = T2
 have HBA : Hid (Below V.heap.size V (V.alloc (.cells #[.int .i64 kind,.string T1,.int .i64 n,.int .i64 m,.int .i64 a,.int .i64 pos,.string T2,.slice ad kids.length cap] 28))) := (Below.refl _ _).alloc (Nat.le_refl _) _
 have Q : Hid _ := q _ HBA.out
 clear q h hsh hby htl hbd
 go_enter Tryz.func89,Tryz.ntmps89
 go_wp2_with fail
 refine Calls.mono Q.out ?_
 rintro e w1 ⟨rfl,hb⟩
 have HB : Hid (Below V.heap.size V w1) := HBA.out.trans (hb.mono HBA.out.size)
 clear hb
 go_wp2
 go_ret
 exact ⟨rfl,HB.out⟩

set_option maxRecDepth 10000 in
set_option maxHeartbeats 1000000 in
theorem pxPath_any {V : World} {t : Tn} (hT : TTab V) (h : TnOk V t) (hsh : TnShort t) :
  Calls Tryz.prog 75 #[t.val] V fun e V' => e = .returned (.bool (pxPath t)) ∧ Below V.heap.size V V' := by
 have htl : (t.text.length : Int) ≤ 100000 := by cases hsh; assumption
 have hby : byts t.text := by cases h; assumption
 have hbd : Hid (∀ i,0 ≤ t.text.getD i 0 ∧ t.text.getD i 0 ≤ 255) := fun i => bd_mem hby i
 unfold pxPath
 obtain ⟨kind,text,n,m,a,pos,doc,ad,cap,kids⟩ := t
 change Calls Tryz.prog 75 #[.agg #[.int .i64 kind,.string (strOfNums text),.int .i64 n,.int .i64 m,.int .i64 a,.int .i64 pos,.string (strOfNums doc),.slice ad kids.length cap]] V fun e V' => e = .returned (.bool (decide ((text.length : Int) ≤ 1000))) ∧ Below V.heap.size V V'
 have hsz : ((strOfNums text).size : Int) = (text.length : Int) := by rw [strOfNums_size]
 have htl' : (text.length : Int) ≤ 100000 := htl
 rw [← hsz]
 rw [← hsz] at htl'
 generalize strOfNums text = T1 at htl' ⊢
 generalize strOfNums doc = T2
 have HBA : Hid (Below V.heap.size V (V.alloc (.cells #[.int .i64 kind,.string T1,.int .i64 n,.int .i64 m,.int .i64 a,.int .i64 pos,.string T2,.slice ad kids.length cap] 28))) := (Below.refl _ _).alloc (Nat.le_refl _) _
 clear h hsh hby htl hbd hsz
 go_enter Tryz.func75,Tryz.ntmps75
 go_wp2
 go_ret
 exact ⟨by first | rfl | simp,HBA.out⟩

set_option maxRecDepth 10000 in
set_option maxHeartbeats 1000000 in
theorem pxStr_any {V : World} {t : Tn} (hT : TTab V) (h : TnOk V t) (hsh : TnShort t) :
  Calls Tryz.prog 90 #[t.val] V fun e V' => e = .returned (.bool (pxStr t)) ∧ Below V.heap.size V V' := by
 have htl : (t.text.length : Int) ≤ 100000 := by cases hsh; assumption
 have hby : byts t.text := by cases h; assumption
 have hbd : Hid (∀ i,0 ≤ t.text.getD i 0 ∧ t.text.getD i 0 ≤ 255) := fun i => bd_mem hby i
 unfold pxStr
 obtain ⟨kind,text,n,m,a,pos,doc,ad,cap,kids⟩ := t
 change Calls Tryz.prog 90 #[.agg #[.int .i64 kind,.string (strOfNums text),.int .i64 n,.int .i64 m,.int .i64 a,.int .i64 pos,.string (strOfNums doc),.slice ad kids.length cap]] V fun e V' => e = .returned (.bool (decide ((text.length : Int) ≤ 10000))) ∧ Below V.heap.size V V'
 have hsz : ((strOfNums text).size : Int) = (text.length : Int) := by rw [strOfNums_size]
 have htl' : (text.length : Int) ≤ 100000 := htl
 rw [← hsz]
 rw [← hsz] at htl'
 generalize strOfNums text = T1 at htl' ⊢
 generalize strOfNums doc = T2
 have HBA : Hid (Below V.heap.size V (V.alloc (.cells #[.int .i64 kind,.string T1,.int .i64 n,.int .i64 m,.int .i64 a,.int .i64 pos,.string T2,.slice ad kids.length cap] 28))) := (Below.refl _ _).alloc (Nat.le_refl _) _
 clear h hsh hby htl hbd hsz
 go_enter Tryz.func90,Tryz.ntmps90
 go_wp2
 go_ret
 exact ⟨by first | rfl | simp,HBA.out⟩

set_option maxRecDepth 10000 in
set_option maxHeartbeats 1000000 in
theorem pxSyntax_any {V : World} {t : Tn} (hT : TTab V) (h : TnOk V t) (hsh : TnShort t) :
  Calls Tryz.prog 73 #[t.val] V fun e V' => e = .returned (.bool (pxSyntax t)) ∧ Below V.heap.size V V' := by
 have htl : (t.text.length : Int) ≤ 100000 := by cases hsh; assumption
 have hby : byts t.text := by cases h; assumption
 have hbd : Hid (∀ i,0 ≤ t.text.getD i 0 ∧ t.text.getD i 0 ≤ 255) := fun i => bd_mem hby i
 unfold pxSyntax
 obtain ⟨kind,text,n,m,a,pos,doc,ad,cap,kids⟩ := t
 change Calls Tryz.prog 73 #[.agg #[.int .i64 kind,.string (strOfNums text),.int .i64 n,.int .i64 m,.int .i64 a,.int .i64 pos,.string (strOfNums doc),.slice ad kids.length cap]] V fun e V' => e = .returned (.bool ((text == []) || ((text == [112,114,111,116,111,50]) || (text == [112,114,111,116,111,51])))) ∧ Below V.heap.size V V'
 have e0 : ((strOfNums text).toList == []) = (text == []) := weq2 text [] hby (by unfold byts; decide) _ (str_lit [] [] rfl)
 have e1 : ((strOfNums text).toList == [112,114,111,116,111,50]) = (text == [112,114,111,116,111,50]) := weq2 text [112,114,111,116,111,50] hby (by unfold byts; decide) _ (str_lit [112,114,111,116,111,50] [112,114,111,116,111,50] rfl)
 have e2 : ((strOfNums text).toList == [112,114,111,116,111,51]) = (text == [112,114,111,116,111,51]) := weq2 text [112,114,111,116,111,51] hby (by unfold byts; decide) _ (str_lit [112,114,111,116,111,51] [112,114,111,116,111,51] rfl)
 generalize (text == []) = B0 at e0 ⊢
 generalize (text == [112,114,111,116,111,50]) = B1 at e1 ⊢
 generalize (text == [112,114,111,116,111,51]) = B2 at e2 ⊢
 generalize strOfNums text = T1 at e0 e1 e2 ⊢
 generalize strOfNums doc = T2
 have HBA : Hid (Below V.heap.size V (V.alloc (.cells #[.int .i64 kind,.string T1,.int .i64 n,.int .i64 m,.int .i64 a,.int .i64 pos,.string T2,.slice ad kids.length cap] 28))) := (Below.refl _ _).alloc (Nat.le_refl _) _
 clear h hsh hby htl hbd
 cases B0 <;> cases B1 <;> cases B2
 all_goals
  go_enter Tryz.func73,Tryz.ntmps73
  go_wp2
  go_ret
  exact ⟨rfl,HBA.out⟩

set_option maxRecDepth 10000 in
set_option maxHeartbeats 1000000 in
theorem pxType_any {V : World} {t : Tn} (hT : TTab V) (h : TnOk V t) (hsh : TnShort t) :
  Calls Tryz.prog 87 #[t.val] V fun e V' => e = .returned (.bool (pxType t)) ∧ Below V.heap.size V V' := by
 have htl : (t.text.length : Int) ≤ 100000 := by cases hsh; assumption
 have hby : byts t.text := by cases h; assumption
 have hbd : Hid (∀ i,0 ≤ t.text.getD i 0 ∧ t.text.getD i 0 ≤ 255) := fun i => bd_mem hby i
 have q1 := fun W => pisplain_any t.text W hby
 have q2 := fun W (hW : Below V.heap.size V W) => pisnamed_any t.text W (hT.below hW (Nat.le_refl _)) hby htl
 unfold pxType
 obtain ⟨kind,text,n,m,a,pos,doc,ad,cap,kids⟩ := t
 change Calls Tryz.prog 87 #[.agg #[.int .i64 kind,.string (strOfNums text),.int .i64 n,.int .i64 m,.int .i64 a,.int .i64 pos,.string (strOfNums doc),.slice ad kids.length cap]] V fun e V' => e = .returned (.bool (decide (text ∈ npl) || pnamed text)) ∧ Below V.heap.size V V'
 change ∀ W,Calls Tryz.prog 88 #[.string (strOfNums text)] W (fun e w' => e = .returned (.bool (decide (text ∈ npl))) ∧ W = w') at q1
 change ∀ W,Below V.heap.size V W → Calls Tryz.prog 80 #[.string (strOfNums text)] W (fun e w' => e = .returned (.bool (pnamed text)) ∧ Below W.heap.size W w') at q2
 generalize decide (text ∈ npl) = B1 at q1 ⊢
 generalize pnamed text = B2 at q2 ⊢
 generalize strOfNums text = T1 at q1 q2 ⊢
 generalize strOfNums doc = T2
 have HBA : Hid (Below V.heap.size V (V.alloc (.cells #[.int .i64 kind,.string T1,.int .i64 n,.int .i64 m,.int .i64 a,.int .i64 pos,.string T2,.slice ad kids.length cap] 28))) := (Below.refl _ _).alloc (Nat.le_refl _) _
 have Q1 : Hid _ := q1
 have Q2 : Hid _ := q2 _ HBA.out
 clear h hsh hby htl hbd q1 q2
 cases B1 with
 | true =>
  go_enter Tryz.func87,Tryz.ntmps87
  go_wp2_with fail
  refine Calls.mono (Q1.out _) ?_
  rintro e w1 ⟨rfl,rfl⟩
  go_wp2
  go_ret
  exact ⟨rfl,HBA.out⟩
 | false =>
  go_enter Tryz.func87,Tryz.ntmps87
  go_wp2_with fail
  refine Calls.mono (Q1.out _) ?_
  rintro e w1 ⟨rfl,rfl⟩
  go_wp2_with fail
  refine Calls.mono Q2.out ?_
  rintro e w1 ⟨rfl,hb⟩
  have HB : Hid (Below V.heap.size V w1) := HBA.out.trans (hb.mono HBA.out.size)
  clear hb
  go_wp2
  go_ret
  exact ⟨rfl,HB.out⟩

set_option maxRecDepth 10000 in
set_option maxHeartbeats 1000000 in
theorem pxPart_any {V : World} {t : Tn} (hT : TTab V) (h : TnOk V t) (hsh : TnShort t) :
  Calls Tryz.prog 70 #[t.val] V fun e V' => e = .returned (.bool (pxPart t)) ∧ Below V.heap.size V V' := by
 have htl : (t.text.length : Int) ≤ 100000 := by cases hsh; assumption
 have hby : byts t.text := by cases h; assumption
 have hbd : Hid (∀ i,0 ≤ t.text.getD i 0 ∧ t.text.getD i 0 ≤ 255) := fun i => bd_mem hby i
 have q1 := fun W => ptrimp_any t.text 46 (by omega) (by omega) W hby
 have q2 := fun W => pfull_any (if t.text.getD 0 0 = 46 then t.text.drop 1 else t.text) W trivial (fun i => by
  split
  ·exact bd_mem (fun c hc => hby c (List.mem_of_mem_drop hc)) i
  ·exact bd_mem hby i) (by
  split
  ·rw [List.length_drop]; omega
  ·exact htl)
 have q3 := fun W => pident_any t.text W trivial hbd (by omega)
 unfold pxPart
 obtain ⟨kind,text,n,m,a,pos,doc,ad,cap,kids⟩ := t
 change Calls Tryz.prog 70 #[.agg #[.int .i64 kind,.string (strOfNums text),.int .i64 n,.int .i64 m,.int .i64 a,.int .i64 pos,.string (strOfNums doc),.slice ad kids.length cap]] V fun e V' => e = .returned (.bool (if a = 1 then nfull (if text.getD 0 0 = 46 then text.drop 1 else text) else nident text)) ∧ Below V.heap.size V V'
 change ∀ W,Calls Tryz.prog 72 #[.string (strOfNums text),.string { data := #[46] }] W (fun e w' => e = .returned (.string (strOfNums (if text.getD 0 0 = 46 then text.drop 1 else text))) ∧ w' = W) at q1
 change ∀ W,Calls Tryz.prog 71 #[.string (strOfNums (if text.getD 0 0 = 46 then text.drop 1 else text))] W (fun e w' => e = .returned (.bool (nfull (if text.getD 0 0 = 46 then text.drop 1 else text))) ∧ Below W.heap.size W w') at q2
 change ∀ W,Calls Tryz.prog 69 #[.string (strOfNums text)] W (fun e w' => e = .returned (.bool (nident text)) ∧ Below W.heap.size W w') at q3
 generalize (if text.getD 0 0 = 46 then text.drop 1 else text) = d at q1 q2 ⊢
 generalize nfull d = B1 at q2 ⊢
 generalize nident text = B2 at q3 ⊢
 generalize strOfNums d = T3 at q1 q2
 generalize strOfNums text = T1 at q1 q3 ⊢
 generalize strOfNums doc = T2
 have HBA : Hid (Below V.heap.size V (V.alloc (.cells #[.int .i64 kind,.string T1,.int .i64 n,.int .i64 m,.int .i64 a,.int .i64 pos,.string T2,.slice ad kids.length cap] 28))) := (Below.refl _ _).alloc (Nat.le_refl _) _
 have Q1 : Hid _ := q1
 have Q2 : Hid _ := q2
 have Q3 : Hid _ := q3
 clear h hsh hby htl hbd q1 q2 q3
 by_cases ha : a = 1
 ·subst ha
  rw [if_pos rfl]
  go_enter Tryz.func70,Tryz.ntmps70
  go_wp2_with fail
  refine Calls.mono (Q1.out _) ?_
  rintro e w1 ⟨rfl,rfl⟩
  go_wp2_with fail
  refine Calls.mono (Q2.out _) ?_
  rintro e w1 ⟨rfl,hb⟩
  have HB : Hid (Below V.heap.size V w1) := HBA.out.trans (hb.mono HBA.out.size)
  clear hb
  go_wp2
  go_ret
  exact ⟨rfl,HB.out⟩
 ·rw [if_neg ha]
  have e1 : (a == 1) = false := by simpa using ha
  clear ha
  go_enter Tryz.func70,Tryz.ntmps70
  go_wp2_with fail
  refine Calls.mono (Q3.out _) ?_
  rintro e w1 ⟨rfl,hb⟩
  have HB : Hid (Below V.heap.size V w1) := HBA.out.trans (hb.mono HBA.out.size)
  clear hb
  go_wp2
  go_ret
  exact ⟨rfl,HB.out⟩

set_option maxRecDepth 10000 in
set_option maxHeartbeats 1000000 in
theorem pxValue_any {V : World} {t : Tn} (g : Nat) (hg : V.heap[g]? = some (.cells #[.func (.func 68) #[] #[]] 29 (0,0))) (hT : TTab V) (h : TnOk V t) (hsh : TnShort t) :
  Calls Tryz.prog 86 #[t.val,.pointer (some ⟨g,0,none⟩)] V fun e V' => e = .returned (.bool (pxValue t)) ∧ Below V.heap.size V V' := by
 have htl : (t.text.length : Int) ≤ 100000 := by cases hsh; assumption
 have hby : byts t.text := by cases h; assumption
 have hbd : Hid (∀ i,0 ≤ t.text.getD i 0 ∧ t.text.getD i 0 ≤ 255) := fun i => bd_mem hby i
 have q := fun W (hW : Below V.heap.size V W) => pxIdent_any (hT.below hW (Nat.le_refl _)) (h.under hW) hsh
 have hc := one_cell_of hg
 have hlt := one_lt hg
 unfold pxValue
 unfold pxIdent at q
 obtain ⟨kind,text,n,m,a,pos,doc,ad,cap,kids⟩ := t
 change Calls Tryz.prog 86 #[.agg #[.int .i64 kind,.string (strOfNums text),.int .i64 n,.int .i64 m,.int .i64 a,.int .i64 pos,.string (strOfNums doc),.slice ad kids.length cap],.pointer (some ⟨g,0,none⟩)] V fun e V' => e = .returned (.bool (nident text && ((!(text == [111,112,116,105,111,110])) && !(text == [114,101,115,101,114,118,101,100])))) ∧ Below V.heap.size V V'
 change ∀ W,Below V.heap.size V W → Calls Tryz.prog 68 #[.agg #[.int .i64 kind,.string (strOfNums text),.int .i64 n,.int .i64 m,.int .i64 a,.int .i64 pos,.string (strOfNums doc),.slice ad kids.length cap]] W (fun e w' => e = .returned (.bool (nident text)) ∧ Below W.heap.size W w') at q
 have e1 : ((strOfNums text).toList == [111,112,116,105,111,110]) = (text == [111,112,116,105,111,110]) := weq2 text [111,112,116,105,111,110] hby (by unfold byts; decide) _ (str_lit [111,112,116,105,111,110] [111,112,116,105,111,110] rfl)
 have e2 : ((strOfNums text).toList == [114,101,115,101,114,118,101,100]) = (text == [114,101,115,101,114,118,101,100]) := weq2 text [114,101,115,101,114,118,101,100] hby (by unfold byts; decide) _ (str_lit [114,101,115,101,114,118,101,100] [114,101,115,101,114,118,101,100] rfl)
 generalize (text == [111,112,116,105,111,110]) = B1 at e1 ⊢
 generalize (text == [114,101,115,101,114,118,101,100]) = B2 at e2 ⊢
 generalize nident text = B0 at q ⊢
 generalize strOfNums text = T1 at q e1 e2 ⊢
 generalize strOfNums doc = T2 at q ⊢
 have HBA : Hid (Below V.heap.size V (V.alloc (.cells #[.int .i64 kind,.string T1,.int .i64 n,.int .i64 m,.int .i64 a,.int .i64 pos,.string T2,.slice ad kids.length cap] 28))) := (Below.refl _ _).alloc (Nat.le_refl _) _
 have Q : Hid _ := q _ HBA.out
 clear h hsh hby htl hbd q hg
 cases B0 with
 | false =>
  go_enter Tryz.func86,Tryz.ntmps86
  go_wp2_with fail
  refine Calls.mono Q.out ?_
  rintro e w1 ⟨rfl,hb⟩
  have HB : Hid (Below V.heap.size V w1) := HBA.out.trans (hb.mono HBA.out.size)
  clear hb
  go_wp2
  go_ret
  exact ⟨rfl,HB.out⟩
 | true =>
  cases B1 <;> cases B2
  all_goals
   go_enter Tryz.func86,Tryz.ntmps86
   go_wp2_with fail
   refine Calls.mono Q.out ?_
   rintro e w1 ⟨rfl,hb⟩
   have o1 := own_cells hb 1 _ rfl
   have HB : Hid (Below V.heap.size V w1) := HBA.out.trans (hb.mono HBA.out.size)
   clear hb
   go_wp2
   go_ret
   exact ⟨rfl,HB.out⟩

def pkWorth (k : Int) : Bool := (k == 20) || ((k == 21) || ((k == 22) || (k == 23)))

set_option maxRecDepth 10000 in
set_option maxHeartbeats 1000000 in
theorem pworth_any (t : Tn) (V : World) :
  Calls Tryz.prog 92 #[t.val] V fun e V' => e = .returned (.bool (pkWorth t.kind)) ∧ Below V.heap.size V V' := by
 obtain ⟨kind,text,n,m,a,pos,doc,ad,cap,kids⟩ := t
 change Calls Tryz.prog 92 #[.agg #[.int .i64 kind,.string (strOfNums text),.int .i64 n,.int .i64 m,.int .i64 a,.int .i64 pos,.string (strOfNums doc),.slice ad kids.length cap]] V fun e V' => e = .returned (.bool (pkWorth kind)) ∧ Below V.heap.size V V'
 generalize strOfNums text = T1
 generalize strOfNums doc = T2
 have HBA : Hid (Below V.heap.size V (V.alloc (.cells #[.int .i64 kind,.string T1,.int .i64 n,.int .i64 m,.int .i64 a,.int .i64 pos,.string T2,.slice ad kids.length cap] 28))) := (Below.refl _ _).alloc (Nat.le_refl _) _
 unfold pkWorth
 generalize e0 : (kind == 20) = B0
 generalize e1 : (kind == 21) = B1
 generalize e2 : (kind == 22) = B2
 generalize e3 : (kind == 23) = B3
 cases B0
 case true =>
  go_enter Tryz.func92,Tryz.ntmps92
  go_wp2
  go_ret
  exact ⟨rfl,HBA.out⟩
 cases B1
 case true =>
  go_enter Tryz.func92,Tryz.ntmps92
  go_wp2
  go_ret
  exact ⟨rfl,HBA.out⟩
 cases B2
 case true =>
  go_enter Tryz.func92,Tryz.ntmps92
  go_wp2
  go_ret
  exact ⟨rfl,HBA.out⟩
 cases B3
 all_goals
  go_enter Tryz.func92,Tryz.ntmps92
  go_wp2
  go_ret
  exact ⟨rfl,HBA.out⟩

def pkOne (t : Tn) : Bool := (t.kind == 4) || ((t.kind == 9) && (t.a == 0))

set_option maxRecDepth 10000 in
set_option maxHeartbeats 1000000 in
theorem pone_any (t : Tn) (V : World) :
  Calls Tryz.prog 124 #[t.val] V fun e V' => e = .returned (.bool (pkOne t)) ∧ Below V.heap.size V V' := by
 obtain ⟨kind,text,n,m,a,pos,doc,ad,cap,kids⟩ := t
 change Calls Tryz.prog 124 #[.agg #[.int .i64 kind,.string (strOfNums text),.int .i64 n,.int .i64 m,.int .i64 a,.int .i64 pos,.string (strOfNums doc),.slice ad kids.length cap]] V fun e V' => e = .returned (.bool ((kind == 4) || ((kind == 9) && (a == 0)))) ∧ Below V.heap.size V V'
 generalize strOfNums text = T1
 generalize strOfNums doc = T2
 have HBA : Hid (Below V.heap.size V (V.alloc (.cells #[.int .i64 kind,.string T1,.int .i64 n,.int .i64 m,.int .i64 a,.int .i64 pos,.string T2,.slice ad kids.length cap] 28))) := (Below.refl _ _).alloc (Nat.le_refl _) _
 generalize e0 : (kind == 4) = B0
 generalize e1 : (kind == 9) = B1
 generalize e2 : (a == 0) = B2
 cases B0
 case true =>
  go_enter Tryz.func124,Tryz.ntmps124
  go_wp2
  go_ret
  exact ⟨rfl,HBA.out⟩
 cases B1
 case false =>
  go_enter Tryz.func124,Tryz.ntmps124
  go_wp2
  go_ret
  exact ⟨rfl,HBA.out⟩
 cases B2
 all_goals
  go_enter Tryz.func124,Tryz.ntmps124
  go_wp2
  go_ret
  exact ⟨rfl,HBA.out⟩

set_option maxRecDepth 10000 in
set_option maxHeartbeats 1000000 in
theorem poneof_any {V : World} {ad : Option Addr} {cap : Nat} {kids : List Tn} (hk : Kl V ad cap kids) :
  Calls Tryz.prog 83 #[.slice ad kids.length cap] V fun e V' => e = .returned (.bool (kids.all pkOne)) ∧ Below V.heap.size V V' := by
 have q := peach_ask hk 124 Tryz.call124 #[] pkOne (fun i t hi U hU => pone_any t U)
 generalize kids.all pkOne = R at q ⊢
 generalize kids.length = N at q ⊢
 have Q : Hid _ := q
 clear q hk
 go_enter Tryz.func83,Tryz.ntmps83
 go_wp2_with fail
 refine Calls.mono Q.out ?_
 rintro e w1 ⟨rfl,hb⟩
 go_wp2
 go_ret
 exact ⟨rfl,hb⟩

def pkSome (kind : Int) (l : List Tn) : Bool := decide (0 < l.length) && l.all fun t => [kind].contains t.kind

set_option maxRecDepth 10000 in
set_option maxHeartbeats 2000000 in
theorem preserved_any {V : World} {ad : Option Addr} {cap : Nat} {kids : List Tn} (hT : TTab V) (hk : Kl V ad cap kids) (hs : ∀ (i : Nat) (t : Tn),kids[i]? = some t → TnShort t) :
  Calls Tryz.prog 85 #[.slice ad kids.length cap] V fun e V' => e = .returned (.bool (pkSome 14 kids || pkSome 15 kids)) ∧ Below V.heap.size V V' := by
 have q1 := psome_any V 14 (by omega) (by omega)
 have q2 := fun W => psome_any W 15 (by omega) (by omega)
 have q3 : ∀ k caps,Goin k → ∀ (w1 : World) (p : List Tn → Bool) (U : World),(∀ (V' : World) (ad : Option Addr) (cap : Nat) (kids : List Tn),Sin w1.heap.size U V' → TTab V' → Kl V' ad cap kids → (∀ (i : Nat) (t : Tn),kids[i]? = some t → TnShort t) → Calls Tryz.prog k (#[.slice ad kids.length cap] ++ caps) V' fun e V'' => e = .returned (.bool (p kids)) ∧ Below V'.heap.size V' V'') → Below V.heap.size V U → Calls Tryz.prog k (#[.slice ad kids.length cap] ++ caps) U fun e V'' => e = .returned (.bool (p kids)) ∧ Below U.heap.size U V'' :=
  fun k caps _ w1 p U h hU => h U ad cap kids (Sin.refl _ _) (hT.below hU (Nat.le_refl _)) (hk.under hU) hs
 have hl := hk.hlen
 generalize h1 : pkSome 14 kids = R1
 generalize h2 : pkSome 15 kids = R2
 have Q1 : Hid _ := q1
 have Q2 : Hid _ := q2
 have Q3 : Hid _ := q3
 have H1 : Hid _ := h1
 have H2 : Hid _ := h2
 clear q1 q2 q3 h1 h2 hk hs
 generalize hN : kids.length = N at *
 cases R1 with
 | true =>
  go_enter Tryz.func85,Tryz.ntmps85
  go_wp2_with fail
  refine Calls.mono Q1.out ?_
  rintro e w1 ⟨f,rfl,⟨k,caps,rfl,hin,hask⟩,hb⟩
  have q := Q3.out k caps hin V _ w1 hask hb
  have HB : Hid (Below V.heap.size V w1) := hb
  have Q : Hid _ := q
  clear q hask hb
  unfold Goin at hin
  go_wp2_with fail
  refine Calls.mono Q.out ?_
  rintro e w2 ⟨rfl,hb2⟩
  have HB2 : Hid (Below V.heap.size V w2) := HB.out.trans (hb2.mono HB.out.size)
  have e1 : (decide (0 < kids.length) && kids.all fun t => [14].contains t.kind) = true := H1.out
  rw [e1]
  clear hb2 e1 hin
  go_wp2
  go_ret
  exact ⟨rfl,HB2.out⟩
 | false =>
  go_enter Tryz.func85,Tryz.ntmps85
  go_wp2_with fail
  refine Calls.mono Q1.out ?_
  rintro e w1 ⟨f,rfl,⟨k,caps,rfl,hin,hask⟩,hb⟩
  have q := Q3.out k caps hin V _ w1 hask hb
  have HB : Hid (Below V.heap.size V w1) := hb
  have Q : Hid _ := q
  clear q hask hb
  unfold Goin at hin
  go_wp2_with fail
  refine Calls.mono Q.out ?_
  rintro e w2 ⟨rfl,hb2⟩
  have HB2 : Hid (Below V.heap.size V w2) := HB.out.trans (hb2.mono HB.out.size)
  have e1 : (decide (0 < kids.length) && kids.all fun t => [14].contains t.kind) = false := H1.out
  rw [e1]
  clear hb2 e1 hin Q
  go_wp2_with fail
  refine Calls.mono (Q2.out _) ?_
  rintro e w3 ⟨f,rfl,⟨k2,caps2,rfl,hin2,hask2⟩,hb3⟩
  have HB3 : Hid (Below V.heap.size V w3) := HB2.out.trans (hb3.mono HB2.out.size)
  have Q : Hid _ := Q3.out k2 caps2 hin2 w2 _ w3 hask2 HB3.out
  clear hask2 hb3
  unfold Goin at hin2
  go_wp2_with fail
  refine Calls.mono Q.out ?_
  rintro e w4 ⟨rfl,hb4⟩
  have HB4 : Hid (Below V.heap.size V w4) := HB3.out.trans (hb4.mono HB3.out.size)
  have e1 : (decide (0 < kids.length) && kids.all fun t => [15].contains t.kind) = R2 := H2.out
  rw [e1]
  clear hb4 e1 hin2 Q
  go_wp2
  go_ret
  exact ⟨rfl,HB4.out⟩

def pkHead (p : Tn → Bool) : List Tn → Bool
 | [] => false
 | t :: _ => p t

def pkMap (l : List Tn) : Bool := ptyp 2 l && pkHead (fun t => decide (t.text ∈ npl)) l

set_option maxRecDepth 10000 in
set_option maxHeartbeats 2000000 in
theorem pmap_any {V : World} {ad : Option Addr} {cap : Nat} {kids : List Tn} (hT : TTab V) (hk : Kl V ad cap kids) (hs : ∀ (i : Nat) (t : Tn),kids[i]? = some t → TnShort t) :
  Calls Tryz.prog 82 #[.slice ad kids.length cap] V fun e V' => e = .returned (.bool (pkMap kids)) ∧ Below V.heap.size V V' := by
 have q1 := ptyped_any V 2 (by omega) (by omega)
 change Calls Tryz.prog 81 #[.int .i64 2] V _ at q1
 have q3 : ∀ k caps,∀ (U : World),(∀ (V' : World) (ad : Option Addr) (cap : Nat) (kids : List Tn),Sin V.heap.size U V' → TTab V' → Kl V' ad cap kids → (∀ (i : Nat) (t : Tn),kids[i]? = some t → TnShort t) → Calls Tryz.prog k (#[.slice ad kids.length cap] ++ caps) V' fun e V'' => e = .returned (.bool (ptyp 2 kids)) ∧ Below V'.heap.size V' V'') → Below V.heap.size V U → Calls Tryz.prog k (#[.slice ad kids.length cap] ++ caps) U fun e V'' => e = .returned (.bool (ptyp 2 kids)) ∧ Below U.heap.size U V'' :=
  fun k caps U h hU => h U ad cap kids (Sin.refl _ _) (hT.below hU (Nat.le_refl _)) (hk.under hU) hs
 have hl := hk.hlen
 have Q1 : Hid _ := q1
 clear q1
 cases hp : ptyp 2 kids with
 | false =>
  rw [show pkMap kids = false by unfold pkMap; rw [hp]; rfl]
  rw [hp] at q3
  have Q3 : Hid _ := q3
  clear q3 hk hs
  generalize hN : kids.length = N at *
  go_enter Tryz.func82,Tryz.ntmps82
  go_wp2_with fail
  refine Calls.mono Q1.out ?_
  rintro e w1 ⟨f,rfl,⟨k,caps,rfl,hin,hask⟩,hb⟩
  have Q : Hid _ := Q3.out k caps w1 hask hb
  have HB : Hid (Below V.heap.size V w1) := hb
  clear hask hb
  unfold Goin at hin
  go_wp2_with fail
  refine Calls.mono Q.out ?_
  rintro e w2 ⟨rfl,hb2⟩
  have HB2 : Hid (Below V.heap.size V w2) := HB.out.trans (hb2.mono HB.out.size)
  clear hb2 hin
  go_wp2
  go_ret
  exact ⟨rfl,HB2.out⟩
 | true =>
  have hlen : 2 ≤ kids.length := by unfold ptyp at hp; simp at hp; exact hp.1
  obtain ⟨b,off,rfl,hlt,hc⟩ := hk.hmem (by omega)
  obtain ⟨⟨kd,tx,n2,m2,a2,pos2,doc2,ad2,cap2,ks⟩,hkid⟩ : ∃ t,kids[0]? = some t := ⟨kids[0]'(by omega),List.getElem?_eq_getElem (by omega)⟩
  have hby : byts tx := by have := hk.hall 0 _ hkid; cases this; assumption
  rw [show pkMap kids = decide (tx ∈ npl) by
   unfold pkMap; rw [hp,Bool.true_and]
   cases kids with
   | nil => simp at hkid
   | cons t r => simp at hkid; subst hkid; rfl]
  rw [hp] at q3
  have qp := fun W => pisplain_any tx W hby
  have hcell := fun U (hU : Below V.heap.size V U) => (hU.cell (p := ⟨b,off + 0 * 8 + 1,none⟩) hlt).trans (hc 0 _ hkid 1 _ rfl)
  simp only [Nat.zero_mul,Nat.add_zero] at hcell
  generalize decide (tx ∈ npl) = R at qp ⊢
  generalize strOfNums tx = TX at qp hcell
  have Q3 : Hid _ := q3
  have QP : Hid _ := qp
  have HC : Hid _ := hcell
  clear q3 hk hs qp hcell hc hkid hp
  generalize hN : kids.length = N at *
  go_enter Tryz.func82,Tryz.ntmps82
  go_wp2_with fail
  refine Calls.mono Q1.out ?_
  rintro e w1 ⟨f,rfl,⟨k,caps,rfl,hin,hask⟩,hb⟩
  have Q : Hid _ := Q3.out k caps w1 hask hb
  have HB : Hid (Below V.heap.size V w1) := hb
  clear hask hb
  unfold Goin at hin
  go_wp2_with fail
  refine Calls.mono Q.out ?_
  rintro e w2 ⟨rfl,hb2⟩
  have HB2 : Hid (Below V.heap.size V w2) := HB.out.trans (hb2.mono HB.out.size)
  have c1 := HC.out w2 HB2.out
  clear hb2 hin
  go_wp2_with fail
  refine Calls.mono (QP.out _) ?_
  rintro e w3 ⟨rfl,rfl⟩
  go_wp2
  go_ret
  exact ⟨rfl,HB2.out⟩

def pkEntry (l : List Tn) : Bool := (l.length == 1) && pkHead (fun t => pkWorth t.kind) l

set_option maxRecDepth 10000 in
set_option maxHeartbeats 2000000 in
theorem pentry7_any {V : World} {ad : Option Addr} {cap : Nat} {kids : List Tn} (hk : Kl V ad cap kids) :
  Calls Tryz.prog 91 #[.slice ad kids.length cap] V fun e V' => e = .returned (.bool (pkEntry kids)) ∧ Below V.heap.size V V' := by
 have hl := hk.hlen
 have HB : Hid (Below V.heap.size V V) := Below.refl _ _
 by_cases h1 : kids.length = 1
 ·obtain ⟨b,off,rfl,hlt,hc⟩ := hk.hmem (by omega)
  obtain ⟨t,hkid⟩ : ∃ t,kids[0]? = some t := ⟨kids[0]'(by omega),List.getElem?_eq_getElem (by omega)⟩
  rw [show pkEntry kids = pkWorth t.kind by
   unfold pkEntry; rw [h1]
   cases kids with
   | nil => simp at hkid
   | cons t r => simp at hkid; subst hkid; rfl]
  have q := pworth_any t V
  generalize pkWorth t.kind = R at q ⊢
  obtain ⟨kd,tx,n2,m2,a2,pos2,doc2,ad2,cap2,ks⟩ := t
  obtain ⟨c0,c1,c2,c3,c4,c5,c6,c7⟩ := kid_cells hlt (Below.refl _ _) hc hkid
  simp only [Nat.zero_mul,Nat.add_zero] at c0 c1 c2 c3 c4 c5 c6 c7
  rw [h1]
  change Calls Tryz.prog 92 #[.agg #[.int .i64 kd,.string (strOfNums tx),.int .i64 n2,.int .i64 m2,.int .i64 a2,.int .i64 pos2,.string (strOfNums doc2),.slice ad2 ks.length cap2]] V _ at q
  generalize strOfNums tx = U1 at c1 q
  generalize strOfNums doc2 = U2 at c6 q
  have Q : Hid _ := q
  clear q hk hc hkid h1 hl
  go_enter Tryz.func91,Tryz.ntmps91
  go_wp2_with fail
  refine Calls.mono Q.out ?_
  rintro e w1 ⟨rfl,hb⟩
  go_wp2
  go_ret
  exact ⟨rfl,hb⟩
 ·rw [show pkEntry kids = false by unfold pkEntry; rw [show (kids.length == 1) = false by simpa using h1]; rfl]
  have e1 : ((kids.length : Int) == 1) = false := by simp; omega
  clear hk h1
  generalize kids.length = N at *
  go_enter Tryz.func91,Tryz.ntmps91
  go_wp2
  go_ret
  exact ⟨rfl,HB.out⟩

def pkCount (l : List Tn) : Nat := (l.filter fun t => t.kind == 3).length

theorem pkCount_take {l : List Tn} {i : Nat} {t : Tn} (h : l[i]? = some t) : pkCount (l.take (i + 1)) = pkCount (l.take i) + if t.kind = 3 then 1 else 0 := by
 unfold pkCount
 rw [List.take_add_one,h,List.filter_append,List.length_append]
 by_cases hk : t.kind = 3
 ·simp [hk]
 ·simp [hk]

theorem pkCount_le (l : List Tn) (i : Nat) : pkCount (l.take i) ≤ pkCount l := by
 unfold pkCount
 exact ((List.take_sublist i l).filter _).length_le

set_option maxRecDepth 10000 in
set_option maxHeartbeats 2000000 in
theorem pfile1_any (t : Tn) (V : World) (g c : Nat) (hc1 : c ≤ 1) (hg : V.heap[g]? = some (.cells #[.int .i64 (c : Int)] 3 (0,0))) (B : Nat) (hB : B ≤ g) :
  Calls Tryz.prog 117 #[t.val,.pointer (some ⟨g,0,none⟩)] V fun e V' => e = .returned (.bool (decide (c + (if t.kind = 3 then 1 else 0) ≤ 1))) ∧ V'.heap[g]? = some (.cells #[.int .i64 ((c + (if t.kind = 3 then 1 else 0) : Nat) : Int)] 3 (0,0)) ∧ Below B V V' := by
 obtain ⟨kind,text,n,m,a,pos,doc,ad,cap,kids⟩ := t
 change Calls Tryz.prog 117 #[.agg #[.int .i64 kind,.string (strOfNums text),.int .i64 n,.int .i64 m,.int .i64 a,.int .i64 pos,.string (strOfNums doc),.slice ad kids.length cap],.pointer (some ⟨g,0,none⟩)] V fun e V' => e = .returned (.bool (decide (c + (if kind = 3 then 1 else 0) ≤ 1))) ∧ V'.heap[g]? = some (.cells #[.int .i64 ((c + (if kind = 3 then 1 else 0) : Nat) : Int)] 3 (0,0)) ∧ Below B V V'
 generalize strOfNums text = T1
 generalize strOfNums doc = T2
 have hcell := one_cell_of hg
 have hlt := one_lt hg
 have hfr := one_frozen hg
 by_cases hk : kind = 3
 ·subst hk
  rw [if_pos rfl]
  have F : Hid (((V.setCell ⟨g,0,none⟩ (.int .i64 ((c : Int) + 1))).alloc (.cells #[.int .i64 3,.string T1,.int .i64 n,.int .i64 m,.int .i64 a,.int .i64 pos,.string T2,.slice ad kids.length cap] 28)).heap[g]? = some (.cells #[.int .i64 ((c + 1 : Nat) : Int)] 3 (0,0)) ∧ Below B V ((V.setCell ⟨g,0,none⟩ (.int .i64 ((c : Int) + 1))).alloc (.cells #[.int .i64 3,.string T1,.int .i64 n,.int .i64 m,.int .i64 a,.int .i64 pos,.string T2,.slice ad kids.length cap] 28))) := by
   refine ⟨alloc_old ?_,((Below.refl _ _).setCell hB _).alloc (by simp [World.setCell]; omega) _⟩
   have := one_setCell (u := .int .i64 ((c : Int) + 1)) hg
   rw [this]; rfl
  clear hg
  rcases (show c = 0 ∨ c = 1 by omega) with rfl | rfl
  all_goals
   go_enter Tryz.func117,Tryz.ntmps117
   go_wp2
   go_ret
   exact ⟨rfl,F.out⟩
 ·rw [if_neg hk]
  have F : Hid ((V.alloc (.cells #[.int .i64 kind,.string T1,.int .i64 n,.int .i64 m,.int .i64 a,.int .i64 pos,.string T2,.slice ad kids.length cap] 28)).heap[g]? = some (.cells #[.int .i64 ((c + 0 : Nat) : Int)] 3 (0,0)) ∧ Below B V (V.alloc (.cells #[.int .i64 kind,.string T1,.int .i64 n,.int .i64 m,.int .i64 a,.int .i64 pos,.string T2,.slice ad kids.length cap] 28))) :=
   ⟨alloc_old hg,(Below.refl _ _).alloc (by omega) _⟩
  have e1 : (kind == 3) = false := by simpa using hk
  clear hg hk
  rcases (show c = 0 ∨ c = 1 by omega) with rfl | rfl
  all_goals
   go_enter Tryz.func117,Tryz.ntmps117
   go_wp2
   go_ret
   exact ⟨rfl,F.out⟩

end Go.Proofs.YtlekfcehmlepkaaGreatDoor
