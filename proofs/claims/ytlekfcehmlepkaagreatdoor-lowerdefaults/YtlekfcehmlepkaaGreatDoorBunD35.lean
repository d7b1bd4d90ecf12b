/- Put together by a program out of these texts of mine: KMath, KSm, KDef. -/
import Derived.Test.YtlekfcehmlepkaaGreatDoorBunD1
import Derived.Test.YtlekfcehmlepkaaGreatDoorBunD5
import Derived.Test.YtlekfcehmlepkaaGreatDoorBunD7

namespace Go.Proofs.YtlekfcehmlepkaaGreatDoor
set_option linter.unusedVariables false
set_option linter.unusedSimpArgs false

def lbits (t : Int) : Int × Bool :=
 if t = 5 then (32,true)
 else if t = 17 then (32,true)
 else if t = 15 then (32,true)
 else if t = 3 then (64,true)
 else if t = 18 then (64,true)
 else if t = 16 then (64,true)
 else if t = 13 then (32,false)
 else if t = 7 then (32,false)
 else if t = 4 then (64,false)
 else if t = 6 then (64,false)
 else (0,false)

def lmost (b : Int × Bool) : Int := if b.2 = true then (if b.1 = 32 then 2147483647 else 9223372036854775807) else (if b.1 = 32 then 4294967295 else 18446744073709551615)

def lwithin (t : Int) (s : List Int) : Bool :=
 if (lbits t).1 = 0 ∨ (tint s).2.2 = false ∨ ((tint s).2.1 = true ∧ (lbits t).2 = false) then false
 else if (tint s).2.1 = true then decide ((tint s).1 ≤ lmost (lbits t) + 1) else decide ((tint s).1 ≤ lmost (lbits t))

def wTrue : List Int := [116,114,117,101]
def wFalse : List Int := [102,97,108,115,101]
def wDefault : List Int := [100,101,102,97,117,108,116]
def wJson : List Int := [106,115,111,110,95,110,97,109,101]
def wProto3 : List Int := [112,114,111,116,111,51]

def ldefault (t : Int) (w : Tn) : Option (List Int) :=
 if 0 < (lbits t).1 ∧ w.kind = 20 then (if lwithin t w.text = true then some w.text else none)
 else if t = 8 ∧ w.kind = 21 ∧ (w.text = wTrue ∨ w.text = wFalse) then some w.text
 else if (t = 9 ∨ t = 12) ∧ w.kind = 22 then some w.text
 else if t = 0 ∧ w.kind = 21 then some w.text
 else none

end Go.Proofs.YtlekfcehmlepkaaGreatDoor

namespace Go.Proofs.YtlekfcehmlepkaaGreatDoor
open Go.RowKit
set_option linter.unusedVariables false
set_option linter.unusedSimpArgs false

set_option maxRecDepth 10000 in
set_option maxHeartbeats 2000000 in
theorem rbits_any (t : Int) (w : World) :
  Calls Tryz.prog 20 #[.int .i64 t] w fun e w' => e = .returned (.tuple #[.int .i64 (lbits t).1,.bool (lbits t).2]) ∧ w = w' := by
 by_cases h5 : t = 5
 ·subst h5
  go_enter Tryz.func20,Tryz.ntmps20
  go_wp2
  go_ret2
  exact ⟨rfl,rfl⟩
 by_cases h17 : t = 17
 ·subst h17
  go_enter Tryz.func20,Tryz.ntmps20
  go_wp2
  go_ret2
  exact ⟨rfl,rfl⟩
 by_cases h15 : t = 15
 ·subst h15
  go_enter Tryz.func20,Tryz.ntmps20
  go_wp2
  go_ret2
  exact ⟨rfl,rfl⟩
 by_cases h3 : t = 3
 ·subst h3
  go_enter Tryz.func20,Tryz.ntmps20
  go_wp2
  go_ret2
  exact ⟨rfl,rfl⟩
 by_cases h18 : t = 18
 ·subst h18
  go_enter Tryz.func20,Tryz.ntmps20
  go_wp2
  go_ret2
  exact ⟨rfl,rfl⟩
 by_cases h16 : t = 16
 ·subst h16
  go_enter Tryz.func20,Tryz.ntmps20
  go_wp2
  go_ret2
  exact ⟨rfl,rfl⟩
 by_cases h13 : t = 13
 ·subst h13
  go_enter Tryz.func20,Tryz.ntmps20
  go_wp2
  go_ret2
  exact ⟨rfl,rfl⟩
 by_cases h7 : t = 7
 ·subst h7
  go_enter Tryz.func20,Tryz.ntmps20
  go_wp2
  go_ret2
  exact ⟨rfl,rfl⟩
 by_cases h4 : t = 4
 ·subst h4
  go_enter Tryz.func20,Tryz.ntmps20
  go_wp2
  go_ret2
  exact ⟨rfl,rfl⟩
 by_cases h6 : t = 6
 ·subst h6
  go_enter Tryz.func20,Tryz.ntmps20
  go_wp2
  go_ret2
  exact ⟨rfl,rfl⟩
 have e : lbits t = (0,false) := by unfold lbits; simp [h5,h17,h15,h3,h18,h16,h13,h7,h4,h6]
 rw [e]
 have g5 : (t == 5) = false := by simpa using h5
 have g17 : (t == 17) = false := by simpa using h17
 have g15 : (t == 15) = false := by simpa using h15
 have g3 : (t == 3) = false := by simpa using h3
 have g18 : (t == 18) = false := by simpa using h18
 have g16 : (t == 16) = false := by simpa using h16
 have g13 : (t == 13) = false := by simpa using h13
 have g7 : (t == 7) = false := by simpa using h7
 have g4 : (t == 4) = false := by simpa using h4
 have g6 : (t == 6) = false := by simpa using h6
 clear e h5 h17 h15 h3 h18 h16 h13 h7 h4 h6
 go_enter Tryz.func20,Tryz.ntmps20
 go_wp2
 go_ret2
 exact ⟨rfl,rfl⟩

theorem lbits_cases (t : Int) : lbits t = (32,true) ∨ lbits t = (64,true) ∨ lbits t = (32,false) ∨ lbits t = (64,false) ∨ lbits t = (0,false) := by
 unfold lbits
 repeat (split; (first | exact .inl rfl | exact .inr (.inl rfl) | exact .inr (.inr (.inl rfl)) | exact .inr (.inr (.inr (.inl rfl))) | exact .inr (.inr (.inr (.inr rfl)))))
 exact .inr (.inr (.inr (.inr rfl)))

def Tb (x : Int × Bool × Bool) : Prop := 0 ≤ x.1 ∧ x.1 ≤ 18446744073709551615

def lnum1 (b : Int × Bool) (r : Int × Bool × Bool) : Int := if b.1 = 0 ∨ r.2.2 = false ∨ (r.2.1 = true ∧ b.2 = false) then 0 else if r.2.1 = true then IntKind.u64.wrap (-r.1) else r.1

def lin1 (b : Int × Bool) (r : Int × Bool × Bool) : Bool :=
 if b.1 = 0 ∨ r.2.2 = false ∨ (r.2.1 = true ∧ b.2 = false) then false
 else if r.2.1 = true then decide (r.1 ≤ lmost b + 1) else decide (r.1 ≤ lmost b)

theorem lwithin_eq (t : Int) (s : List Int) : lwithin t s = lin1 (lbits t) (tint s) := rfl

set_option maxRecDepth 10000 in
set_option maxHeartbeats 4000000 in
theorem rwithin_any (t : Int) (s : List Int) (w : World) (hz : Hid (∀ i,0 ≤ s.getD i 0 ∧ s.getD i 0 ≤ 255)) (hlen : (s.length : Int) ≤ 1000000) (hb : Hid (Tb (tint s))) :
  Calls Tryz.prog 21 #[.int .i64 t,.string (strOfNums s)] w fun e w' => e = .returned (.tuple #[.int .u64 (lnum1 (lbits t) (tint s)),.bool (lwithin t s)]) ∧ Below w.heap.size w w' := by
 have QB : Hid _ := fun V => rbits_any t V
 have QI : Hid _ := fun V => rint_any s V hz hlen
 have hc := lbits_cases t
 obtain ⟨b0,b1⟩ := hb.out
 rw [lwithin_eq]
 generalize tint s = r at QI b0 b1
 generalize lbits t = b at QB hc
 obtain ⟨r1,r2,r3⟩ := r
 simp only at QI b0 b1
 clear hz hlen hb
 obtain ⟨L1,HL1⟩ : ∃ L,Hid (L = lnum1 b (r1,r2,r3)) := ⟨_,rfl⟩
 obtain ⟨L2,HL2⟩ : ∃ L,Hid (L = lin1 b (r1,r2,r3)) := ⟨_,rfl⟩
 rw [← HL1.out,← HL2.out]
 cases r3 with
 | false =>
  rcases hc with rfl | rfl | rfl | rfl | rfl
  all_goals
   simp only at QB
   go_enter Tryz.func21,Tryz.ntmps21
   go_wp2_with fail
   refine Calls.mono (QB.out _) ?_
   rintro e w1 ⟨rfl,rfl⟩
   go_wp2_with fail
   refine Calls.mono (QI.out _) ?_
   rintro e w2 ⟨rfl,hb2⟩
   have HB2 : Hid _ := hb2
   clear hb2
   go_wp2
   go_ret2
   exact ⟨by rw [HL1.out,HL2.out]; rfl,HB2.out⟩
 | true =>
  cases r2 with
  | false =>
   rcases hc with rfl | rfl | rfl | rfl | rfl
   all_goals
    simp only at QB
    go_enter Tryz.func21,Tryz.ntmps21
    go_wp2_with fail
    refine Calls.mono (QB.out _) ?_
    rintro e w1 ⟨rfl,rfl⟩
    go_wp2_with fail
    refine Calls.mono (QI.out _) ?_
    rintro e w2 ⟨rfl,hb2⟩
    have HB2 : Hid _ := hb2
    clear hb2
    go_wp2
    go_ret2
    refine ⟨?_,HB2.out⟩
    rw [HL1.out,HL2.out]
    first | rfl | (simp [lnum1,lin1,lmost]; done) | (simp [lnum1,lin1,lmost,b1]; done) | (simp [lnum1,lin1,lmost]; omega)
  | true =>
   rcases hc with rfl | rfl | rfl | rfl | rfl
   all_goals
    simp only at QB
    go_enter Tryz.func21,Tryz.ntmps21
    go_wp2_with fail
    refine Calls.mono (QB.out _) ?_
    rintro e w1 ⟨rfl,rfl⟩
    go_wp2_with fail
    refine Calls.mono (QI.out _) ?_
    rintro e w2 ⟨rfl,hb2⟩
    have HB2 : Hid _ := hb2
    clear hb2
    go_wp2
    go_ret2
    refine ⟨?_,HB2.out⟩
    rw [HL1.out,HL2.out]
    first | rfl | (simp [lnum1,lin1,lmost]; done) | (simp [lnum1,lin1,lmost,b1]; done) | (simp [lnum1,lin1,lmost]; omega)

theorem byts_at {s : List Int} (h : byts s) (i : Nat) : 0 ≤ s.getD i 0 ∧ s.getD i 0 ≤ 255 := by
 rw [List.getD_eq_getElem?_getD]
 cases hq : s[i]? with
 | none => simp
 | some c => exact h c (List.mem_of_getElem? hq)

theorem word_is {s k : List Int} (hs : byts s) (hk : byts k) {L : List UInt8} (hL : (strOfNums k).toList = L) : ((strOfNums s).toList == L) = decide (s = k) := by
 rw [← hL,str_eq hs hk]
 by_cases h : s = k
 ·subst h; simp
 ·simp [h]

def dret (o : Option (List Int)) : Value := .tuple #[.string (strOfNums (o.getD [])),.bool o.isSome]

theorem dret_none : dret none = .tuple #[.string ⟨#[]⟩,.bool false] := rfl

theorem dret_some (s : List Int) : dret (some s) = .tuple #[.string (strOfNums s),.bool true] := rfl

theorem lbits_low {t : Int} (h : t = 8 ∨ t = 9 ∨ t = 12 ∨ t = 0) : lbits t = (0,false) := by
 rcases h with rfl | rfl | rfl | rfl <;> rfl

set_option maxRecDepth 10000 in
set_option maxHeartbeats 4000000 in
theorem rdefault_any {W : World} (t : Int) {u : Tn} (hu : TnOk W u) (hlen : (u.text.length : Int) ≤ 1000000) (hb : Hid (Tb (tint u.text))) :
  Calls Tryz.prog 13 #[.int .i64 t,u.val] W fun e W' => e = .returned (dret (ldefault t u)) ∧ Below W.heap.size W W' := by
 have QB : Hid _ := fun V => rbits_any t V
 have hc := lbits_cases t
 obtain ⟨kind,text,n,m,a,pos,doc,ad,cap,kids⟩ := u
 cases hu with
 | mk hkind htext htl hn hm ha hpos hdoc hdl hkl hcap hnone hmem hkids =>
 simp only [Tn.text] at hlen hb
 have QW : Hid _ := fun V => rwithin_any t text V (byts_at htext) hlen hb
 have HB : Hid (Below W.heap.size W (W.alloc (.cells #[.int .i64 kind,.string (strOfNums text),.int .i64 n,.int .i64 m,.int .i64 a,.int .i64 pos,.string (strOfNums doc),.slice ad kids.length cap] 28))) := (Below.refl _ _).alloc (Nat.le_refl _) _
 have e1 := word_is htext (k := wTrue) (by unfold byts; decide) (L := [116,114,117,101]) (by rw [str_list]; rfl)
 have e2 := word_is htext (k := wFalse) (by unfold byts; decide) (L := [102,97,108,115,101]) (by rw [str_list]; rfl)
 obtain ⟨L,HL⟩ : ∃ L,Hid (L = ldefault t (.mk kind text n m a pos doc ad cap kids)) := ⟨_,rfl⟩
 rw [← HL.out]
 have HL1 : Hid (L = if 0 < (lbits t).1 ∧ kind = 20 then (if lwithin t text = true then some text else none) else if t = 8 ∧ kind = 21 ∧ (text = wTrue ∨ text = wFalse) then some text else if (t = 9 ∨ t = 12) ∧ kind = 22 then some text else if t = 0 ∧ kind = 21 then some text else none) := HL.out
 clear hmem hkids HL hnone
 unfold Tn.val Tn.cells
 by_cases hA : 0 < (lbits t).1 ∧ kind = 20
 ·obtain ⟨hA1,rfl⟩ := hA
  have HL2 : Hid (L = if lwithin t text = true then some text else none) := by rw [HL1.out,if_pos ⟨hA1,rfl⟩]; rfl
  clear HL1
  generalize lnum1 (lbits t) (tint text) = nn at QW
  generalize lwithin t text = wi at QW HL2
  generalize lbits t = b at QB hc hA1
  have hc4 : b = (32,true) ∨ b = (64,true) ∨ b = (32,false) ∨ b = (64,false) := by
   rcases hc with h | h | h | h | h
   ·exact .inl h
   ·exact .inr (.inl h)
   ·exact .inr (.inr (.inl h))
   ·exact .inr (.inr (.inr h))
   ·rw [h] at hA1; simp at hA1
  clear hc hA1
  cases wi with
  | false =>
   have HL3 : Hid (L = none) := by rw [HL2.out]; rfl
   clear HL2 hb
   rcases hc4 with rfl | rfl | rfl | rfl
   all_goals
    simp only at QB
    go_enter Tryz.func13,Tryz.ntmps13
    go_wp2_with fail
    refine Calls.mono (QB.out _) ?_
    rintro e w1 ⟨rfl,rfl⟩
    go_wp2_with fail
    refine Calls.mono (QW.out _) ?_
    rintro e w2 ⟨rfl,hb2⟩
    have HB2 : Hid (Below W.heap.size W w2) := HB.out.trans (hb2.mono HB.out.size)
    clear hb2
    go_wp2
    go_ret2
    exact ⟨by rw [HL3.out,dret_none]; rfl,HB2.out⟩
  | true =>
   have HL3 : Hid (L = some text) := by rw [HL2.out]; rfl
   clear HL2 hb
   rcases hc4 with rfl | rfl | rfl | rfl
   all_goals
    simp only at QB
    go_enter Tryz.func13,Tryz.ntmps13
    go_wp2_with fail
    refine Calls.mono (QB.out _) ?_
    rintro e w1 ⟨rfl,rfl⟩
    go_wp2_with fail
    refine Calls.mono (QW.out _) ?_
    rintro e w2 ⟨rfl,hb2⟩
    have HB2 : Hid (Below W.heap.size W w2) := HB.out.trans (hb2.mono HB.out.size)
    have c1 : w2.cell? ⟨W.heap.size,1,none⟩ = some (.string (strOfNums text)) := by
     rw [hb2.cell (by simp)]
     simp [World.cell?_alloc_new]
    have hgl : W.heap.size < w2.heap.size := by have := hb2.size; simp at this; omega
    clear hb2
    go_wp2
    go_ret2
    exact ⟨by rw [HL3.out,dret_some]; rfl,HB2.out⟩
 ·have HL2 : Hid (L = if t = 8 ∧ kind = 21 ∧ (text = wTrue ∨ text = wFalse) then some text else if (t = 9 ∨ t = 12) ∧ kind = 22 then some text else if t = 0 ∧ kind = 21 then some text else none) := by rw [HL1.out,if_neg hA]; rfl
  clear HL1 hb QW
  by_cases h8 : t = 8
  ·subst h8
   rw [lbits_low (.inl rfl)] at QB
   clear hA hc
   by_cases k21 : kind = 21
   ·subst k21
    by_cases w1 : text = wTrue
    ·rw [decide_eq_true w1] at e1
     have HL3 : Hid (L = some text) := by rw [HL2.out,if_pos ⟨rfl,rfl,.inl w1⟩]; rfl
     clear HL2 w1
     go_enter Tryz.func13,Tryz.ntmps13
     go_wp2_with fail
     refine Calls.mono (QB.out _) ?_
     rintro e w1 ⟨rfl,rfl⟩
     go_wp2
     go_ret2
     exact ⟨by rw [HL3.out,dret_some]; rfl,HB.out⟩
    ·by_cases w2 : text = wFalse
     ·rw [decide_eq_false w1] at e1
      rw [decide_eq_true w2] at e2
      have HL3 : Hid (L = some text) := by rw [HL2.out,if_pos ⟨rfl,rfl,.inr w2⟩]; rfl
      clear HL2 w1 w2
      go_enter Tryz.func13,Tryz.ntmps13
      go_wp2_with fail
      refine Calls.mono (QB.out _) ?_
      rintro e w1 ⟨rfl,rfl⟩
      go_wp2
      go_ret2
      exact ⟨by rw [HL3.out,dret_some]; rfl,HB.out⟩
     ·rw [decide_eq_false w1] at e1
      rw [decide_eq_false w2] at e2
      have HL3 : Hid (L = none) := by rw [HL2.out,if_neg (by simp [w1,w2]),if_neg (by simp),if_neg (by simp)]; rfl
      clear HL2 w1 w2
      go_enter Tryz.func13,Tryz.ntmps13
      go_wp2_with fail
      refine Calls.mono (QB.out _) ?_
      rintro e w1 ⟨rfl,rfl⟩
      go_wp2
      go_ret2
      exact ⟨by rw [HL3.out,dret_none]; rfl,HB.out⟩
   ·have g1 : (kind == 21) = false := by simpa using k21
    have HL3 : Hid (L = none) := by rw [HL2.out,if_neg (by simp [k21]),if_neg (by simp),if_neg (by simp)]; rfl
    clear HL2 k21 e1 e2
    go_enter Tryz.func13,Tryz.ntmps13
    go_wp2_with fail
    refine Calls.mono (QB.out _) ?_
    rintro e w1 ⟨rfl,rfl⟩
    go_wp2
    go_ret2
    exact ⟨by rw [HL3.out,dret_none]; rfl,HB.out⟩
  ·have f8 : (t == 8) = false := by simpa using h8
   by_cases h9 : t = 9 ∨ t = 12
   ·have hb0 := lbits_low (t := t) (by rcases h9 with h | h <;> simp [h])
    rw [hb0] at QB
    clear hA hc hb0
    by_cases k22 : kind = 22
    ·subst k22
     have HL3 : Hid (L = some text) := by rw [HL2.out,if_neg (by simp [h8]),if_pos ⟨h9,rfl⟩]; rfl
     rcases h9 with rfl | rfl
     all_goals
      clear HL2 e1 e2 h8 f8
      go_enter Tryz.func13,Tryz.ntmps13
      go_wp2_with fail
      refine Calls.mono (QB.out _) ?_
      rintro e w1 ⟨rfl,rfl⟩
      go_wp2
      go_ret2
      exact ⟨by rw [HL3.out,dret_some]; rfl,HB.out⟩
    ·have g1 : (kind == 22) = false := by simpa using k22
     have HL3 : Hid (L = none) := by rw [HL2.out,if_neg (by simp [h8]),if_neg (by simp [k22]),if_neg (by rcases h9 with h | h <;> simp [h])]; rfl
     rcases h9 with rfl | rfl
     all_goals
      clear HL2 e1 e2 h8 f8 k22
      go_enter Tryz.func13,Tryz.ntmps13
      go_wp2_with fail
      refine Calls.mono (QB.out _) ?_
      rintro e w1 ⟨rfl,rfl⟩
      go_wp2
      go_ret2
      exact ⟨by rw [HL3.out,dret_none]; rfl,HB.out⟩
   ·have f9 : (t == 9) = false := by simp; exact fun h => h9 (.inl h)
    have f12 : (t == 12) = false := by simp; exact fun h => h9 (.inr h)
    by_cases h0 : t = 0
    ·subst h0
     rw [lbits_low (by simp)] at QB
     clear hA hc
     by_cases k21 : kind = 21
     ·subst k21
      have HL3 : Hid (L = some text) := by rw [HL2.out,if_neg (by simp),if_neg (by simp),if_pos ⟨rfl,rfl⟩]; rfl
      clear HL2 e1 e2 h8 h9 f8 f9 f12
      go_enter Tryz.func13,Tryz.ntmps13
      go_wp2_with fail
      refine Calls.mono (QB.out _) ?_
      rintro e w1 ⟨rfl,rfl⟩
      go_wp2
      go_ret2
      exact ⟨by rw [HL3.out,dret_some]; rfl,HB.out⟩
     ·have g1 : (kind == 21) = false := by simpa using k21
      have HL3 : Hid (L = none) := by rw [HL2.out,if_neg (by simp),if_neg (by simp),if_neg (by simp [k21])]; rfl
      clear HL2 e1 e2 h8 h9 f8 f9 f12 k21
      go_enter Tryz.func13,Tryz.ntmps13
      go_wp2_with fail
      refine Calls.mono (QB.out _) ?_
      rintro e w1 ⟨rfl,rfl⟩
      go_wp2
      go_ret2
      exact ⟨by rw [HL3.out,dret_none]; rfl,HB.out⟩
    ·have f0 : (t == 0) = false := by simpa using h0
     have HL3 : Hid (L = none) := by rw [HL2.out,if_neg (by simp [h8]),if_neg (by simp [h9]),if_neg (by simp [h0])]; rfl
     clear HL2 e1 e2 h8 h9 h0
     generalize lbits t = b at QB hc hA
     by_cases k20 : kind = 20
     ·subst k20
      have hb0 : b = (0,false) := by
       rcases hc with h | h | h | h | h
       ·rw [h] at hA; simp at hA
       ·rw [h] at hA; simp at hA
       ·rw [h] at hA; simp at hA
       ·rw [h] at hA; simp at hA
       ·exact h
      subst hb0
      clear hA hc
      go_enter Tryz.func13,Tryz.ntmps13
      go_wp2_with fail
      refine Calls.mono (QB.out _) ?_
      rintro e w1 ⟨rfl,rfl⟩
      go_wp2
      go_ret2
      exact ⟨by rw [HL3.out,dret_none]; rfl,HB.out⟩
     ·have g0 : (kind == 20) = false := by simpa using k20
      clear hA k20
      rcases hc with rfl | rfl | rfl | rfl | rfl
      all_goals
       simp only at QB
       go_enter Tryz.func13,Tryz.ntmps13
       go_wp2_with fail
       refine Calls.mono (QB.out _) ?_
       rintro e w1 ⟨rfl,rfl⟩
       go_wp2
       go_ret2
       exact ⟨by rw [HL3.out,dret_none]; rfl,HB.out⟩

end Go.Proofs.YtlekfcehmlepkaaGreatDoor
