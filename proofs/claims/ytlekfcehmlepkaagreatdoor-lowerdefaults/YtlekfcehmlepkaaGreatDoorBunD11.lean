/- Put together by a program out of these texts of mine: NPd, PTxt0. -/
import Derived.Test.YtlekfcehmlepkaaGreatDoorBunD5
import Derived.Test.YtlekfcehmlepkaaGreatDoorBunD9
import Derived.Test.YtlekfcehmlepkaaGreatDoorBunD10

namespace Go.Proofs.YtlekfcehmlepkaaGreatDoor
open Go.RowKit
set_option linter.unusedVariables false
set_option linter.unusedSimpArgs false

def npl : List (List Int) := [[100,111,117,98,108,101],[102,108,111,97,116],[105,110,116,51,50],[105,110,116,54,52],[117,105,110,116,51,50],[117,105,110,116,54,52],[115,105,110,116,51,50],[115,105,110,116,54,52],[102,105,120,101,100,51,50],[102,105,120,101,100,54,52],[115,102,105,120,101,100,51,50],[115,102,105,120,101,100,54,52],[98,111,111,108],[115,116,114,105,110,103],[98,121,116,101,115]]

theorem nwf_none (s : List Int) : ∀ (l : List (List Int)) (k : Nat),s ∉ l → nwf s l k = 0
 | [],k,_ => rfl
 | z :: r,k,h => by
  rw [nwf,if_neg (fun e => h (by rw [← e.2]; simp)),nwf_none s r (k + 1) (fun e => h (List.mem_cons_of_mem _ e))]

theorem npl_word (s : List Int) : decide (nword s ≠ 0) = decide (s ∈ npl) := by
 by_cases h : s ∈ npl
 ·rw [decide_eq_true h,decide_eq_true_eq]
  have all : ∀ z ∈ npl,nword z ≠ 0 := by decide
  exact all s h
 ·rw [decide_eq_false h,decide_eq_false_iff_not]
  intro hn
  apply hn
  unfold nword
  by_cases h0 : s = []
  ·subst h0; decide
  ·refine nwf_none s nwords 0 (fun hm => ?_)
   have all : ∀ z ∈ nwords,z = [] ∨ z ∈ npl := by decide
   rcases all s hm with e | e
   ·exact h0 e
   ·exact h e

theorem weq (s t : List Int) (hs : byts s) (ht : byts t) (L : List UInt8) (hL : (strOfNums t).toList = L) (h : s ≠ t) : ((strOfNums s).toList == L) = false := by
 rw [← hL,str_eq hs ht]
 simpa using h

theorem str_lit (t : List Int) (L : List UInt8) (h : (t.map fun n => UInt8.ofNat n.toNat) = L) : (strOfNums t).toList = L := by rw [str_list,h]

set_option maxHeartbeats 4000000 in
theorem pplain_any (s : List Int) (w : World) (hs : Hid (byts s)) :
  Calls Tryz.prog 161 #[.string (strOfNums s)] w fun e w' => e = .returned (.bool (decide (s ∈ npl))) ∧ w = w' := by
 by_cases k0 : s = [100,111,117,98,108,101]
 ·have e0 : ((strOfNums s).toList == [100,111,117,98,108,101]) = true := by rw [k0,str_lit _ [100,111,117,98,108,101] rfl]; rfl
  have E : Hid (decide (s ∈ npl) = true) := decide_eq_true (by rw [k0]; decide)
  clear k0
  generalize strOfNums s = S at *
  go_enter Tryz.func161,Tryz.ntmps161
  go_wp2
  go_ret
  exact ⟨by rw [E.out]; rfl,rfl⟩
 have e0 : ((strOfNums s).toList == [100,111,117,98,108,101]) = false := weq s _ hs.out (by unfold byts; decide) _ (str_lit _ [100,111,117,98,108,101] rfl) k0
 by_cases k1 : s = [102,108,111,97,116]
 ·have e1 : ((strOfNums s).toList == [102,108,111,97,116]) = true := by rw [k1,str_lit _ [102,108,111,97,116] rfl]; rfl
  have E : Hid (decide (s ∈ npl) = true) := decide_eq_true (by rw [k1]; decide)
  clear k1
  generalize strOfNums s = S at *
  go_enter Tryz.func161,Tryz.ntmps161
  go_wp2
  go_ret
  exact ⟨by rw [E.out]; rfl,rfl⟩
 have e1 : ((strOfNums s).toList == [102,108,111,97,116]) = false := weq s _ hs.out (by unfold byts; decide) _ (str_lit _ [102,108,111,97,116] rfl) k1
 by_cases k2 : s = [105,110,116,51,50]
 ·have e2 : ((strOfNums s).toList == [105,110,116,51,50]) = true := by rw [k2,str_lit _ [105,110,116,51,50] rfl]; rfl
  have E : Hid (decide (s ∈ npl) = true) := decide_eq_true (by rw [k2]; decide)
  clear k2
  generalize strOfNums s = S at *
  go_enter Tryz.func161,Tryz.ntmps161
  go_wp2
  go_ret
  exact ⟨by rw [E.out]; rfl,rfl⟩
 have e2 : ((strOfNums s).toList == [105,110,116,51,50]) = false := weq s _ hs.out (by unfold byts; decide) _ (str_lit _ [105,110,116,51,50] rfl) k2
 by_cases k3 : s = [105,110,116,54,52]
 ·have e3 : ((strOfNums s).toList == [105,110,116,54,52]) = true := by rw [k3,str_lit _ [105,110,116,54,52] rfl]; rfl
  have E : Hid (decide (s ∈ npl) = true) := decide_eq_true (by rw [k3]; decide)
  clear k3
  generalize strOfNums s = S at *
  go_enter Tryz.func161,Tryz.ntmps161
  go_wp2
  go_ret
  exact ⟨by rw [E.out]; rfl,rfl⟩
 have e3 : ((strOfNums s).toList == [105,110,116,54,52]) = false := weq s _ hs.out (by unfold byts; decide) _ (str_lit _ [105,110,116,54,52] rfl) k3
 by_cases k4 : s = [117,105,110,116,51,50]
 ·have e4 : ((strOfNums s).toList == [117,105,110,116,51,50]) = true := by rw [k4,str_lit _ [117,105,110,116,51,50] rfl]; rfl
  have E : Hid (decide (s ∈ npl) = true) := decide_eq_true (by rw [k4]; decide)
  clear k4
  generalize strOfNums s = S at *
  go_enter Tryz.func161,Tryz.ntmps161
  go_wp2
  go_ret
  exact ⟨by rw [E.out]; rfl,rfl⟩
 have e4 : ((strOfNums s).toList == [117,105,110,116,51,50]) = false := weq s _ hs.out (by unfold byts; decide) _ (str_lit _ [117,105,110,116,51,50] rfl) k4
 by_cases k5 : s = [117,105,110,116,54,52]
 ·have e5 : ((strOfNums s).toList == [117,105,110,116,54,52]) = true := by rw [k5,str_lit _ [117,105,110,116,54,52] rfl]; rfl
  have E : Hid (decide (s ∈ npl) = true) := decide_eq_true (by rw [k5]; decide)
  clear k5
  generalize strOfNums s = S at *
  go_enter Tryz.func161,Tryz.ntmps161
  go_wp2
  go_ret
  exact ⟨by rw [E.out]; rfl,rfl⟩
 have e5 : ((strOfNums s).toList == [117,105,110,116,54,52]) = false := weq s _ hs.out (by unfold byts; decide) _ (str_lit _ [117,105,110,116,54,52] rfl) k5
 by_cases k6 : s = [115,105,110,116,51,50]
 ·have e6 : ((strOfNums s).toList == [115,105,110,116,51,50]) = true := by rw [k6,str_lit _ [115,105,110,116,51,50] rfl]; rfl
  have E : Hid (decide (s ∈ npl) = true) := decide_eq_true (by rw [k6]; decide)
  clear k6
  generalize strOfNums s = S at *
  go_enter Tryz.func161,Tryz.ntmps161
  go_wp2
  go_ret
  exact ⟨by rw [E.out]; rfl,rfl⟩
 have e6 : ((strOfNums s).toList == [115,105,110,116,51,50]) = false := weq s _ hs.out (by unfold byts; decide) _ (str_lit _ [115,105,110,116,51,50] rfl) k6
 by_cases k7 : s = [115,105,110,116,54,52]
 ·have e7 : ((strOfNums s).toList == [115,105,110,116,54,52]) = true := by rw [k7,str_lit _ [115,105,110,116,54,52] rfl]; rfl
  have E : Hid (decide (s ∈ npl) = true) := decide_eq_true (by rw [k7]; decide)
  clear k7
  generalize strOfNums s = S at *
  go_enter Tryz.func161,Tryz.ntmps161
  go_wp2
  go_ret
  exact ⟨by rw [E.out]; rfl,rfl⟩
 have e7 : ((strOfNums s).toList == [115,105,110,116,54,52]) = false := weq s _ hs.out (by unfold byts; decide) _ (str_lit _ [115,105,110,116,54,52] rfl) k7
 by_cases k8 : s = [102,105,120,101,100,51,50]
 ·have e8 : ((strOfNums s).toList == [102,105,120,101,100,51,50]) = true := by rw [k8,str_lit _ [102,105,120,101,100,51,50] rfl]; rfl
  have E : Hid (decide (s ∈ npl) = true) := decide_eq_true (by rw [k8]; decide)
  clear k8
  generalize strOfNums s = S at *
  go_enter Tryz.func161,Tryz.ntmps161
  go_wp2
  go_ret
  exact ⟨by rw [E.out]; rfl,rfl⟩
 have e8 : ((strOfNums s).toList == [102,105,120,101,100,51,50]) = false := weq s _ hs.out (by unfold byts; decide) _ (str_lit _ [102,105,120,101,100,51,50] rfl) k8
 by_cases k9 : s = [102,105,120,101,100,54,52]
 ·have e9 : ((strOfNums s).toList == [102,105,120,101,100,54,52]) = true := by rw [k9,str_lit _ [102,105,120,101,100,54,52] rfl]; rfl
  have E : Hid (decide (s ∈ npl) = true) := decide_eq_true (by rw [k9]; decide)
  clear k9
  generalize strOfNums s = S at *
  go_enter Tryz.func161,Tryz.ntmps161
  go_wp2
  go_ret
  exact ⟨by rw [E.out]; rfl,rfl⟩
 have e9 : ((strOfNums s).toList == [102,105,120,101,100,54,52]) = false := weq s _ hs.out (by unfold byts; decide) _ (str_lit _ [102,105,120,101,100,54,52] rfl) k9
 by_cases k10 : s = [115,102,105,120,101,100,51,50]
 ·have e10 : ((strOfNums s).toList == [115,102,105,120,101,100,51,50]) = true := by rw [k10,str_lit _ [115,102,105,120,101,100,51,50] rfl]; rfl
  have E : Hid (decide (s ∈ npl) = true) := decide_eq_true (by rw [k10]; decide)
  clear k10
  generalize strOfNums s = S at *
  go_enter Tryz.func161,Tryz.ntmps161
  go_wp2
  go_ret
  exact ⟨by rw [E.out]; rfl,rfl⟩
 have e10 : ((strOfNums s).toList == [115,102,105,120,101,100,51,50]) = false := weq s _ hs.out (by unfold byts; decide) _ (str_lit _ [115,102,105,120,101,100,51,50] rfl) k10
 by_cases k11 : s = [115,102,105,120,101,100,54,52]
 ·have e11 : ((strOfNums s).toList == [115,102,105,120,101,100,54,52]) = true := by rw [k11,str_lit _ [115,102,105,120,101,100,54,52] rfl]; rfl
  have E : Hid (decide (s ∈ npl) = true) := decide_eq_true (by rw [k11]; decide)
  clear k11
  generalize strOfNums s = S at *
  go_enter Tryz.func161,Tryz.ntmps161
  go_wp2
  go_ret
  exact ⟨by rw [E.out]; rfl,rfl⟩
 have e11 : ((strOfNums s).toList == [115,102,105,120,101,100,54,52]) = false := weq s _ hs.out (by unfold byts; decide) _ (str_lit _ [115,102,105,120,101,100,54,52] rfl) k11
 by_cases k12 : s = [98,111,111,108]
 ·have e12 : ((strOfNums s).toList == [98,111,111,108]) = true := by rw [k12,str_lit _ [98,111,111,108] rfl]; rfl
  have E : Hid (decide (s ∈ npl) = true) := decide_eq_true (by rw [k12]; decide)
  clear k12
  generalize strOfNums s = S at *
  go_enter Tryz.func161,Tryz.ntmps161
  go_wp2
  go_ret
  exact ⟨by rw [E.out]; rfl,rfl⟩
 have e12 : ((strOfNums s).toList == [98,111,111,108]) = false := weq s _ hs.out (by unfold byts; decide) _ (str_lit _ [98,111,111,108] rfl) k12
 by_cases k13 : s = [115,116,114,105,110,103]
 ·have e13 : ((strOfNums s).toList == [115,116,114,105,110,103]) = true := by rw [k13,str_lit _ [115,116,114,105,110,103] rfl]; rfl
  have E : Hid (decide (s ∈ npl) = true) := decide_eq_true (by rw [k13]; decide)
  clear k13
  generalize strOfNums s = S at *
  go_enter Tryz.func161,Tryz.ntmps161
  go_wp2
  go_ret
  exact ⟨by rw [E.out]; rfl,rfl⟩
 have e13 : ((strOfNums s).toList == [115,116,114,105,110,103]) = false := weq s _ hs.out (by unfold byts; decide) _ (str_lit _ [115,116,114,105,110,103] rfl) k13
 by_cases k14 : s = [98,121,116,101,115]
 ·have e14 : ((strOfNums s).toList == [98,121,116,101,115]) = true := by rw [k14,str_lit _ [98,121,116,101,115] rfl]; rfl
  have E : Hid (decide (s ∈ npl) = true) := decide_eq_true (by rw [k14]; decide)
  clear k14
  generalize strOfNums s = S at *
  go_enter Tryz.func161,Tryz.ntmps161
  go_wp2
  go_ret
  exact ⟨by rw [E.out]; rfl,rfl⟩
 have e14 : ((strOfNums s).toList == [98,121,116,101,115]) = false := weq s _ hs.out (by unfold byts; decide) _ (str_lit _ [98,121,116,101,115] rfl) k14
 have E : Hid (decide (s ∈ npl) = false) := decide_eq_false (fun h => by
  simp only [npl,List.mem_cons,List.not_mem_nil,or_false,k0,k1,k2,k3,k4,k5,k6,k7,k8,k9,k10,k11,k12,k13,k14] at h)
 clear k0 k1 k2 k3 k4 k5 k6 k7 k8 k9 k10 k11 k12 k13 k14
 generalize strOfNums s = S at *
 go_enter Tryz.func161,Tryz.ntmps161
 go_wp2
 go_ret
 exact ⟨by rw [E.out]; rfl,rfl⟩

set_option maxHeartbeats 4000000 in
theorem pkey_any (s : List Int) (w : World) (hT : Hid (NTab w)) (hz : Hid (∀ i,0 ≤ s.getD i 0 ∧ s.getD i 0 ≤ 255)) (hlen : (s.length : Int) ≤ 100000) :
  Calls Tryz.prog 122 #[.string (strOfNums s)] w fun e w' => e = .returned (.bool (nkey s)) ∧ Below w.heap.size w w' := by
 have hs : Hid (byts s) := mem_bd hz.out
 have q := fun W => pplain_any s W hs
 have Q : Hid _ := q
 clear q
 by_cases k0 : s = [109,101,115,115,97,103,101]
 ·have e0 : ((strOfNums s).toList == [109,101,115,115,97,103,101]) = true := by rw [k0,str_lit _ [109,101,115,115,97,103,101] rfl]; rfl
  have E : Hid (nkey s = true) := by show _ = _; unfold nkey; rw [decide_eq_true (by rw [k0]; decide)]; rfl
  clear k0
  clear Q
  generalize strOfNums s = S at *
  go_enter Tryz.func122,Tryz.ntmps122
  go_wp2
  go_ret
  exact ⟨by rw [E.out]; rfl,Below.refl _ _⟩
 have e0 : ((strOfNums s).toList == [109,101,115,115,97,103,101]) = false := weq s _ hs.out (by unfold byts; decide) _ (str_lit _ [109,101,115,115,97,103,101] rfl) k0
 by_cases k1 : s = [101,110,117,109]
 ·have e1 : ((strOfNums s).toList == [101,110,117,109]) = true := by rw [k1,str_lit _ [101,110,117,109] rfl]; rfl
  have E : Hid (nkey s = true) := by show _ = _; unfold nkey; rw [decide_eq_true (by rw [k1]; decide)]; rfl
  clear k1
  clear Q
  generalize strOfNums s = S at *
  go_enter Tryz.func122,Tryz.ntmps122
  go_wp2
  go_ret
  exact ⟨by rw [E.out]; rfl,Below.refl _ _⟩
 have e1 : ((strOfNums s).toList == [101,110,117,109]) = false := weq s _ hs.out (by unfold byts; decide) _ (str_lit _ [101,110,117,109] rfl) k1
 by_cases k2 : s = [101,120,116,101,110,100]
 ·have e2 : ((strOfNums s).toList == [101,120,116,101,110,100]) = true := by rw [k2,str_lit _ [101,120,116,101,110,100] rfl]; rfl
  have E : Hid (nkey s = true) := by show _ = _; unfold nkey; rw [decide_eq_true (by rw [k2]; decide)]; rfl
  clear k2
  clear Q
  generalize strOfNums s = S at *
  go_enter Tryz.func122,Tryz.ntmps122
  go_wp2
  go_ret
  exact ⟨by rw [E.out]; rfl,Below.refl _ _⟩
 have e2 : ((strOfNums s).toList == [101,120,116,101,110,100]) = false := weq s _ hs.out (by unfold byts; decide) _ (str_lit _ [101,120,116,101,110,100] rfl) k2
 by_cases k3 : s = [101,120,116,101,110,115,105,111,110,115]
 ·have e3 : ((strOfNums s).toList == [101,120,116,101,110,115,105,111,110,115]) = true := by rw [k3,str_lit _ [101,120,116,101,110,115,105,111,110,115] rfl]; rfl
  have E : Hid (nkey s = true) := by show _ = _; unfold nkey; rw [decide_eq_true (by rw [k3]; decide)]; rfl
  clear k3
  clear Q
  generalize strOfNums s = S at *
  go_enter Tryz.func122,Tryz.ntmps122
  go_wp2
  go_ret
  exact ⟨by rw [E.out]; rfl,Below.refl _ _⟩
 have e3 : ((strOfNums s).toList == [101,120,116,101,110,115,105,111,110,115]) = false := weq s _ hs.out (by unfold byts; decide) _ (str_lit _ [101,120,116,101,110,115,105,111,110,115] rfl) k3
 by_cases k4 : s = [111,112,116,105,111,110]
 ·have e4 : ((strOfNums s).toList == [111,112,116,105,111,110]) = true := by rw [k4,str_lit _ [111,112,116,105,111,110] rfl]; rfl
  have E : Hid (nkey s = true) := by show _ = _; unfold nkey; rw [decide_eq_true (by rw [k4]; decide)]; rfl
  clear k4
  clear Q
  generalize strOfNums s = S at *
  go_enter Tryz.func122,Tryz.ntmps122
  go_wp2
  go_ret
  exact ⟨by rw [E.out]; rfl,Below.refl _ _⟩
 have e4 : ((strOfNums s).toList == [111,112,116,105,111,110]) = false := weq s _ hs.out (by unfold byts; decide) _ (str_lit _ [111,112,116,105,111,110] rfl) k4
 by_cases k5 : s = [111,110,101,111,102]
 ·have e5 : ((strOfNums s).toList == [111,110,101,111,102]) = true := by rw [k5,str_lit _ [111,110,101,111,102] rfl]; rfl
  have E : Hid (nkey s = true) := by show _ = _; unfold nkey; rw [decide_eq_true (by rw [k5]; decide)]; rfl
  clear k5
  clear Q
  generalize strOfNums s = S at *
  go_enter Tryz.func122,Tryz.ntmps122
  go_wp2
  go_ret
  exact ⟨by rw [E.out]; rfl,Below.refl _ _⟩
 have e5 : ((strOfNums s).toList == [111,110,101,111,102]) = false := weq s _ hs.out (by unfold byts; decide) _ (str_lit _ [111,110,101,111,102] rfl) k5
 by_cases k6 : s = [109,97,112]
 ·have e6 : ((strOfNums s).toList == [109,97,112]) = true := by rw [k6,str_lit _ [109,97,112] rfl]; rfl
  have E : Hid (nkey s = true) := by show _ = _; unfold nkey; rw [decide_eq_true (by rw [k6]; decide)]; rfl
  clear k6
  clear Q
  generalize strOfNums s = S at *
  go_enter Tryz.func122,Tryz.ntmps122
  go_wp2
  go_ret
  exact ⟨by rw [E.out]; rfl,Below.refl _ _⟩
 have e6 : ((strOfNums s).toList == [109,97,112]) = false := weq s _ hs.out (by unfold byts; decide) _ (str_lit _ [109,97,112] rfl) k6
 by_cases k7 : s = [114,101,115,101,114,118,101,100]
 ·have e7 : ((strOfNums s).toList == [114,101,115,101,114,118,101,100]) = true := by rw [k7,str_lit _ [114,101,115,101,114,118,101,100] rfl]; rfl
  have E : Hid (nkey s = true) := by show _ = _; unfold nkey; rw [decide_eq_true (by rw [k7]; decide)]; rfl
  clear k7
  clear Q
  generalize strOfNums s = S at *
  go_enter Tryz.func122,Tryz.ntmps122
  go_wp2
  go_ret
  exact ⟨by rw [E.out]; rfl,Below.refl _ _⟩
 have e7 : ((strOfNums s).toList == [114,101,115,101,114,118,101,100]) = false := weq s _ hs.out (by unfold byts; decide) _ (str_lit _ [114,101,115,101,114,118,101,100] rfl) k7
 by_cases k8 : s = [111,112,116,105,111,110,97,108]
 ·have e8 : ((strOfNums s).toList == [111,112,116,105,111,110,97,108]) = true := by rw [k8,str_lit _ [111,112,116,105,111,110,97,108] rfl]; rfl
  have E : Hid (nkey s = true) := by show _ = _; unfold nkey; rw [decide_eq_true (by rw [k8]; decide)]; rfl
  clear k8
  clear Q
  generalize strOfNums s = S at *
  go_enter Tryz.func122,Tryz.ntmps122
  go_wp2
  go_ret
  exact ⟨by rw [E.out]; rfl,Below.refl _ _⟩
 have e8 : ((strOfNums s).toList == [111,112,116,105,111,110,97,108]) = false := weq s _ hs.out (by unfold byts; decide) _ (str_lit _ [111,112,116,105,111,110,97,108] rfl) k8
 by_cases k9 : s = [114,101,113,117,105,114,101,100]
 ·have e9 : ((strOfNums s).toList == [114,101,113,117,105,114,101,100]) = true := by rw [k9,str_lit _ [114,101,113,117,105,114,101,100] rfl]; rfl
  have E : Hid (nkey s = true) := by show _ = _; unfold nkey; rw [decide_eq_true (by rw [k9]; decide)]; rfl
  clear k9
  clear Q
  generalize strOfNums s = S at *
  go_enter Tryz.func122,Tryz.ntmps122
  go_wp2
  go_ret
  exact ⟨by rw [E.out]; rfl,Below.refl _ _⟩
 have e9 : ((strOfNums s).toList == [114,101,113,117,105,114,101,100]) = false := weq s _ hs.out (by unfold byts; decide) _ (str_lit _ [114,101,113,117,105,114,101,100] rfl) k9
 by_cases k10 : s = [114,101,112,101,97,116,101,100]
 ·have e10 : ((strOfNums s).toList == [114,101,112,101,97,116,101,100]) = true := by rw [k10,str_lit _ [114,101,112,101,97,116,101,100] rfl]; rfl
  have E : Hid (nkey s = true) := by show _ = _; unfold nkey; rw [decide_eq_true (by rw [k10]; decide)]; rfl
  clear k10
  clear Q
  generalize strOfNums s = S at *
  go_enter Tryz.func122,Tryz.ntmps122
  go_wp2
  go_ret
  exact ⟨by rw [E.out]; rfl,Below.refl _ _⟩
 have e10 : ((strOfNums s).toList == [114,101,112,101,97,116,101,100]) = false := weq s _ hs.out (by unfold byts; decide) _ (str_lit _ [114,101,112,101,97,116,101,100] rfl) k10
 by_cases k11 : s = [114,112,99]
 ·have e11 : ((strOfNums s).toList == [114,112,99]) = true := by rw [k11,str_lit _ [114,112,99] rfl]; rfl
  have E : Hid (nkey s = true) := by show _ = _; unfold nkey; rw [decide_eq_true (by rw [k11]; decide)]; rfl
  clear k11
  clear Q
  generalize strOfNums s = S at *
  go_enter Tryz.func122,Tryz.ntmps122
  go_wp2
  go_ret
  exact ⟨by rw [E.out]; rfl,Below.refl _ _⟩
 have e11 : ((strOfNums s).toList == [114,112,99]) = false := weq s _ hs.out (by unfold byts; decide) _ (str_lit _ [114,112,99] rfl) k11
 by_cases k12 : s = [115,101,114,118,105,99,101]
 ·have e12 : ((strOfNums s).toList == [115,101,114,118,105,99,101]) = true := by rw [k12,str_lit _ [115,101,114,118,105,99,101] rfl]; rfl
  have E : Hid (nkey s = true) := by show _ = _; unfold nkey; rw [decide_eq_true (by rw [k12]; decide)]; rfl
  clear k12
  clear Q
  generalize strOfNums s = S at *
  go_enter Tryz.func122,Tryz.ntmps122
  go_wp2
  go_ret
  exact ⟨by rw [E.out]; rfl,Below.refl _ _⟩
 have e12 : ((strOfNums s).toList == [115,101,114,118,105,99,101]) = false := weq s _ hs.out (by unfold byts; decide) _ (str_lit _ [115,101,114,118,105,99,101] rfl) k12
 by_cases k13 : s = [105,109,112,111,114,116]
 ·have e13 : ((strOfNums s).toList == [105,109,112,111,114,116]) = true := by rw [k13,str_lit _ [105,109,112,111,114,116] rfl]; rfl
  have E : Hid (nkey s = true) := by show _ = _; unfold nkey; rw [decide_eq_true (by rw [k13]; decide)]; rfl
  clear k13
  clear Q
  generalize strOfNums s = S at *
  go_enter Tryz.func122,Tryz.ntmps122
  go_wp2
  go_ret
  exact ⟨by rw [E.out]; rfl,Below.refl _ _⟩
 have e13 : ((strOfNums s).toList == [105,109,112,111,114,116]) = false := weq s _ hs.out (by unfold byts; decide) _ (str_lit _ [105,109,112,111,114,116] rfl) k13
 by_cases k14 : s = [112,97,99,107,97,103,101]
 ·have e14 : ((strOfNums s).toList == [112,97,99,107,97,103,101]) = true := by rw [k14,str_lit _ [112,97,99,107,97,103,101] rfl]; rfl
  have E : Hid (nkey s = true) := by show _ = _; unfold nkey; rw [decide_eq_true (by rw [k14]; decide)]; rfl
  clear k14
  clear Q
  generalize strOfNums s = S at *
  go_enter Tryz.func122,Tryz.ntmps122
  go_wp2
  go_ret
  exact ⟨by rw [E.out]; rfl,Below.refl _ _⟩
 have e14 : ((strOfNums s).toList == [112,97,99,107,97,103,101]) = false := weq s _ hs.out (by unfold byts; decide) _ (str_lit _ [112,97,99,107,97,103,101] rfl) k14
 by_cases k15 : s = [115,121,110,116,97,120]
 ·have e15 : ((strOfNums s).toList == [115,121,110,116,97,120]) = true := by rw [k15,str_lit _ [115,121,110,116,97,120] rfl]; rfl
  have E : Hid (nkey s = true) := by show _ = _; unfold nkey; rw [decide_eq_true (by rw [k15]; decide)]; rfl
  clear k15
  clear Q
  generalize strOfNums s = S at *
  go_enter Tryz.func122,Tryz.ntmps122
  go_wp2
  go_ret
  exact ⟨by rw [E.out]; rfl,Below.refl _ _⟩
 have e15 : ((strOfNums s).toList == [115,121,110,116,97,120]) = false := weq s _ hs.out (by unfold byts; decide) _ (str_lit _ [115,121,110,116,97,120] rfl) k15
 by_cases k16 : s = [115,116,114,101,97,109]
 ·have e16 : ((strOfNums s).toList == [115,116,114,101,97,109]) = true := by rw [k16,str_lit _ [115,116,114,101,97,109] rfl]; rfl
  have E : Hid (nkey s = true) := by show _ = _; unfold nkey; rw [decide_eq_true (by rw [k16]; decide)]; rfl
  clear k16
  clear Q
  generalize strOfNums s = S at *
  go_enter Tryz.func122,Tryz.ntmps122
  go_wp2
  go_ret
  exact ⟨by rw [E.out]; rfl,Below.refl _ _⟩
 have e16 : ((strOfNums s).toList == [115,116,114,101,97,109]) = false := weq s _ hs.out (by unfold byts; decide) _ (str_lit _ [115,116,114,101,97,109] rfl) k16
 by_cases k17 : s = [114,101,116,117,114,110,115]
 ·have e17 : ((strOfNums s).toList == [114,101,116,117,114,110,115]) = true := by rw [k17,str_lit _ [114,101,116,117,114,110,115] rfl]; rfl
  have E : Hid (nkey s = true) := by show _ = _; unfold nkey; rw [decide_eq_true (by rw [k17]; decide)]; rfl
  clear k17
  clear Q
  generalize strOfNums s = S at *
  go_enter Tryz.func122,Tryz.ntmps122
  go_wp2
  go_ret
  exact ⟨by rw [E.out]; rfl,Below.refl _ _⟩
 have e17 : ((strOfNums s).toList == [114,101,116,117,114,110,115]) = false := weq s _ hs.out (by unfold byts; decide) _ (str_lit _ [114,101,116,117,114,110,115] rfl) k17
 by_cases k18 : s = [116,111]
 ·have e18 : ((strOfNums s).toList == [116,111]) = true := by rw [k18,str_lit _ [116,111] rfl]; rfl
  have E : Hid (nkey s = true) := by show _ = _; unfold nkey; rw [decide_eq_true (by rw [k18]; decide)]; rfl
  clear k18
  clear Q
  generalize strOfNums s = S at *
  go_enter Tryz.func122,Tryz.ntmps122
  go_wp2
  go_ret
  exact ⟨by rw [E.out]; rfl,Below.refl _ _⟩
 have e18 : ((strOfNums s).toList == [116,111]) = false := weq s _ hs.out (by unfold byts; decide) _ (str_lit _ [116,111] rfl) k18
 by_cases k19 : s = [109,97,120]
 ·have e19 : ((strOfNums s).toList == [109,97,120]) = true := by rw [k19,str_lit _ [109,97,120] rfl]; rfl
  have E : Hid (nkey s = true) := by show _ = _; unfold nkey; rw [decide_eq_true (by rw [k19]; decide)]; rfl
  clear k19
  clear Q
  generalize strOfNums s = S at *
  go_enter Tryz.func122,Tryz.ntmps122
  go_wp2
  go_ret
  exact ⟨by rw [E.out]; rfl,Below.refl _ _⟩
 have e19 : ((strOfNums s).toList == [109,97,120]) = false := weq s _ hs.out (by unfold byts; decide) _ (str_lit _ [109,97,120] rfl) k19
 by_cases k20 : s = [112,117,98,108,105,99]
 ·have e20 : ((strOfNums s).toList == [112,117,98,108,105,99]) = true := by rw [k20,str_lit _ [112,117,98,108,105,99] rfl]; rfl
  have E : Hid (nkey s = true) := by show _ = _; unfold nkey; rw [decide_eq_true (by rw [k20]; decide)]; rfl
  clear k20
  clear Q
  generalize strOfNums s = S at *
  go_enter Tryz.func122,Tryz.ntmps122
  go_wp2
  go_ret
  exact ⟨by rw [E.out]; rfl,Below.refl _ _⟩
 have e20 : ((strOfNums s).toList == [112,117,98,108,105,99]) = false := weq s _ hs.out (by unfold byts; decide) _ (str_lit _ [112,117,98,108,105,99] rfl) k20
 have E : Hid (nkey s = decide (s ∈ npl)) := by
  show _ = _
  unfold nkey
  rw [decide_eq_false (p := s ∈ nkeys) (fun h => by simp only [nkeys,List.mem_cons,List.not_mem_nil,or_false,k0,k1,k2,k3,k4,k5,k6,k7,k8,k9,k10,k11,k12,k13,k14,k15,k16,k17,k18,k19,k20] at h),Bool.false_or,npl_word]
 clear k0 k1 k2 k3 k4 k5 k6 k7 k8 k9 k10 k11 k12 k13 k14 k15 k16 k17 k18 k19 k20
 generalize decide (s ∈ npl) = b at Q E
 generalize strOfNums s = S at *
 go_enter Tryz.func122,Tryz.ntmps122
 go_wp2_with fail
 refine Calls.mono (Q.out _) ?_
 rintro e w1 ⟨rfl,rfl⟩
 go_wp2
 go_ret
 exact ⟨by rw [E.out]; rfl,Below.refl _ _⟩

set_option maxHeartbeats 4000000 in
theorem pisplain_any (s : List Int) (w : World) (hs : Hid (byts s)) :
  Calls Tryz.prog 88 #[.string (strOfNums s)] w fun e w' => e = .returned (.bool (decide (s ∈ npl))) ∧ w = w' := by
 by_cases k0 : s = [100,111,117,98,108,101]
 ·have e0 : ((strOfNums s).toList == [100,111,117,98,108,101]) = true := by rw [k0,str_lit _ [100,111,117,98,108,101] rfl]; rfl
  have E : Hid (decide (s ∈ npl) = true) := decide_eq_true (by rw [k0]; decide)
  clear k0
  generalize strOfNums s = S at *
  go_enter Tryz.func88,Tryz.ntmps88
  go_wp2
  go_ret
  exact ⟨by rw [E.out]; rfl,rfl⟩
 have e0 : ((strOfNums s).toList == [100,111,117,98,108,101]) = false := weq s _ hs.out (by unfold byts; decide) _ (str_lit _ [100,111,117,98,108,101] rfl) k0
 by_cases k1 : s = [102,108,111,97,116]
 ·have e1 : ((strOfNums s).toList == [102,108,111,97,116]) = true := by rw [k1,str_lit _ [102,108,111,97,116] rfl]; rfl
  have E : Hid (decide (s ∈ npl) = true) := decide_eq_true (by rw [k1]; decide)
  clear k1
  generalize strOfNums s = S at *
  go_enter Tryz.func88,Tryz.ntmps88
  go_wp2
  go_ret
  exact ⟨by rw [E.out]; rfl,rfl⟩
 have e1 : ((strOfNums s).toList == [102,108,111,97,116]) = false := weq s _ hs.out (by unfold byts; decide) _ (str_lit _ [102,108,111,97,116] rfl) k1
 by_cases k2 : s = [105,110,116,51,50]
 ·have e2 : ((strOfNums s).toList == [105,110,116,51,50]) = true := by rw [k2,str_lit _ [105,110,116,51,50] rfl]; rfl
  have E : Hid (decide (s ∈ npl) = true) := decide_eq_true (by rw [k2]; decide)
  clear k2
  generalize strOfNums s = S at *
  go_enter Tryz.func88,Tryz.ntmps88
  go_wp2
  go_ret
  exact ⟨by rw [E.out]; rfl,rfl⟩
 have e2 : ((strOfNums s).toList == [105,110,116,51,50]) = false := weq s _ hs.out (by unfold byts; decide) _ (str_lit _ [105,110,116,51,50] rfl) k2
 by_cases k3 : s = [105,110,116,54,52]
 ·have e3 : ((strOfNums s).toList == [105,110,116,54,52]) = true := by rw [k3,str_lit _ [105,110,116,54,52] rfl]; rfl
  have E : Hid (decide (s ∈ npl) = true) := decide_eq_true (by rw [k3]; decide)
  clear k3
  generalize strOfNums s = S at *
  go_enter Tryz.func88,Tryz.ntmps88
  go_wp2
  go_ret
  exact ⟨by rw [E.out]; rfl,rfl⟩
 have e3 : ((strOfNums s).toList == [105,110,116,54,52]) = false := weq s _ hs.out (by unfold byts; decide) _ (str_lit _ [105,110,116,54,52] rfl) k3
 by_cases k4 : s = [117,105,110,116,51,50]
 ·have e4 : ((strOfNums s).toList == [117,105,110,116,51,50]) = true := by rw [k4,str_lit _ [117,105,110,116,51,50] rfl]; rfl
  have E : Hid (decide (s ∈ npl) = true) := decide_eq_true (by rw [k4]; decide)
  clear k4
  generalize strOfNums s = S at *
  go_enter Tryz.func88,Tryz.ntmps88
  go_wp2
  go_ret
  exact ⟨by rw [E.out]; rfl,rfl⟩
 have e4 : ((strOfNums s).toList == [117,105,110,116,51,50]) = false := weq s _ hs.out (by unfold byts; decide) _ (str_lit _ [117,105,110,116,51,50] rfl) k4
 by_cases k5 : s = [117,105,110,116,54,52]
 ·have e5 : ((strOfNums s).toList == [117,105,110,116,54,52]) = true := by rw [k5,str_lit _ [117,105,110,116,54,52] rfl]; rfl
  have E : Hid (decide (s ∈ npl) = true) := decide_eq_true (by rw [k5]; decide)
  clear k5
  generalize strOfNums s = S at *
  go_enter Tryz.func88,Tryz.ntmps88
  go_wp2
  go_ret
  exact ⟨by rw [E.out]; rfl,rfl⟩
 have e5 : ((strOfNums s).toList == [117,105,110,116,54,52]) = false := weq s _ hs.out (by unfold byts; decide) _ (str_lit _ [117,105,110,116,54,52] rfl) k5
 by_cases k6 : s = [115,105,110,116,51,50]
 ·have e6 : ((strOfNums s).toList == [115,105,110,116,51,50]) = true := by rw [k6,str_lit _ [115,105,110,116,51,50] rfl]; rfl
  have E : Hid (decide (s ∈ npl) = true) := decide_eq_true (by rw [k6]; decide)
  clear k6
  generalize strOfNums s = S at *
  go_enter Tryz.func88,Tryz.ntmps88
  go_wp2
  go_ret
  exact ⟨by rw [E.out]; rfl,rfl⟩
 have e6 : ((strOfNums s).toList == [115,105,110,116,51,50]) = false := weq s _ hs.out (by unfold byts; decide) _ (str_lit _ [115,105,110,116,51,50] rfl) k6
 by_cases k7 : s = [115,105,110,116,54,52]
 ·have e7 : ((strOfNums s).toList == [115,105,110,116,54,52]) = true := by rw [k7,str_lit _ [115,105,110,116,54,52] rfl]; rfl
  have E : Hid (decide (s ∈ npl) = true) := decide_eq_true (by rw [k7]; decide)
  clear k7
  generalize strOfNums s = S at *
  go_enter Tryz.func88,Tryz.ntmps88
  go_wp2
  go_ret
  exact ⟨by rw [E.out]; rfl,rfl⟩
 have e7 : ((strOfNums s).toList == [115,105,110,116,54,52]) = false := weq s _ hs.out (by unfold byts; decide) _ (str_lit _ [115,105,110,116,54,52] rfl) k7
 by_cases k8 : s = [102,105,120,101,100,51,50]
 ·have e8 : ((strOfNums s).toList == [102,105,120,101,100,51,50]) = true := by rw [k8,str_lit _ [102,105,120,101,100,51,50] rfl]; rfl
  have E : Hid (decide (s ∈ npl) = true) := decide_eq_true (by rw [k8]; decide)
  clear k8
  generalize strOfNums s = S at *
  go_enter Tryz.func88,Tryz.ntmps88
  go_wp2
  go_ret
  exact ⟨by rw [E.out]; rfl,rfl⟩
 have e8 : ((strOfNums s).toList == [102,105,120,101,100,51,50]) = false := weq s _ hs.out (by unfold byts; decide) _ (str_lit _ [102,105,120,101,100,51,50] rfl) k8
 by_cases k9 : s = [102,105,120,101,100,54,52]
 ·have e9 : ((strOfNums s).toList == [102,105,120,101,100,54,52]) = true := by rw [k9,str_lit _ [102,105,120,101,100,54,52] rfl]; rfl
  have E : Hid (decide (s ∈ npl) = true) := decide_eq_true (by rw [k9]; decide)
  clear k9
  generalize strOfNums s = S at *
  go_enter Tryz.func88,Tryz.ntmps88
  go_wp2
  go_ret
  exact ⟨by rw [E.out]; rfl,rfl⟩
 have e9 : ((strOfNums s).toList == [102,105,120,101,100,54,52]) = false := weq s _ hs.out (by unfold byts; decide) _ (str_lit _ [102,105,120,101,100,54,52] rfl) k9
 by_cases k10 : s = [115,102,105,120,101,100,51,50]
 ·have e10 : ((strOfNums s).toList == [115,102,105,120,101,100,51,50]) = true := by rw [k10,str_lit _ [115,102,105,120,101,100,51,50] rfl]; rfl
  have E : Hid (decide (s ∈ npl) = true) := decide_eq_true (by rw [k10]; decide)
  clear k10
  generalize strOfNums s = S at *
  go_enter Tryz.func88,Tryz.ntmps88
  go_wp2
  go_ret
  exact ⟨by rw [E.out]; rfl,rfl⟩
 have e10 : ((strOfNums s).toList == [115,102,105,120,101,100,51,50]) = false := weq s _ hs.out (by unfold byts; decide) _ (str_lit _ [115,102,105,120,101,100,51,50] rfl) k10
 by_cases k11 : s = [115,102,105,120,101,100,54,52]
 ·have e11 : ((strOfNums s).toList == [115,102,105,120,101,100,54,52]) = true := by rw [k11,str_lit _ [115,102,105,120,101,100,54,52] rfl]; rfl
  have E : Hid (decide (s ∈ npl) = true) := decide_eq_true (by rw [k11]; decide)
  clear k11
  generalize strOfNums s = S at *
  go_enter Tryz.func88,Tryz.ntmps88
  go_wp2
  go_ret
  exact ⟨by rw [E.out]; rfl,rfl⟩
 have e11 : ((strOfNums s).toList == [115,102,105,120,101,100,54,52]) = false := weq s _ hs.out (by unfold byts; decide) _ (str_lit _ [115,102,105,120,101,100,54,52] rfl) k11
 by_cases k12 : s = [98,111,111,108]
 ·have e12 : ((strOfNums s).toList == [98,111,111,108]) = true := by rw [k12,str_lit _ [98,111,111,108] rfl]; rfl
  have E : Hid (decide (s ∈ npl) = true) := decide_eq_true (by rw [k12]; decide)
  clear k12
  generalize strOfNums s = S at *
  go_enter Tryz.func88,Tryz.ntmps88
  go_wp2
  go_ret
  exact ⟨by rw [E.out]; rfl,rfl⟩
 have e12 : ((strOfNums s).toList == [98,111,111,108]) = false := weq s _ hs.out (by unfold byts; decide) _ (str_lit _ [98,111,111,108] rfl) k12
 by_cases k13 : s = [115,116,114,105,110,103]
 ·have e13 : ((strOfNums s).toList == [115,116,114,105,110,103]) = true := by rw [k13,str_lit _ [115,116,114,105,110,103] rfl]; rfl
  have E : Hid (decide (s ∈ npl) = true) := decide_eq_true (by rw [k13]; decide)
  clear k13
  generalize strOfNums s = S at *
  go_enter Tryz.func88,Tryz.ntmps88
  go_wp2
  go_ret
  exact ⟨by rw [E.out]; rfl,rfl⟩
 have e13 : ((strOfNums s).toList == [115,116,114,105,110,103]) = false := weq s _ hs.out (by unfold byts; decide) _ (str_lit _ [115,116,114,105,110,103] rfl) k13
 by_cases k14 : s = [98,121,116,101,115]
 ·have e14 : ((strOfNums s).toList == [98,121,116,101,115]) = true := by rw [k14,str_lit _ [98,121,116,101,115] rfl]; rfl
  have E : Hid (decide (s ∈ npl) = true) := decide_eq_true (by rw [k14]; decide)
  clear k14
  generalize strOfNums s = S at *
  go_enter Tryz.func88,Tryz.ntmps88
  go_wp2
  go_ret
  exact ⟨by rw [E.out]; rfl,rfl⟩
 have e14 : ((strOfNums s).toList == [98,121,116,101,115]) = false := weq s _ hs.out (by unfold byts; decide) _ (str_lit _ [98,121,116,101,115] rfl) k14
 have E : Hid (decide (s ∈ npl) = false) := decide_eq_false (fun h => by
  simp only [npl,List.mem_cons,List.not_mem_nil,or_false,k0,k1,k2,k3,k4,k5,k6,k7,k8,k9,k10,k11,k12,k13,k14] at h)
 clear k0 k1 k2 k3 k4 k5 k6 k7 k8 k9 k10 k11 k12 k13 k14
 generalize strOfNums s = S at *
 go_enter Tryz.func88,Tryz.ntmps88
 go_wp2
 go_ret
 exact ⟨by rw [E.out]; rfl,rfl⟩

theorem bd_mem {l : List Int} (h : byts l) (i : Nat) : 0 ≤ l.getD i 0 ∧ l.getD i 0 ≤ 255 := by
 rcases Nat.lt_or_ge i l.length with hi | hi
 ·rw [List.getD_eq_getElem?_getD,List.getElem?_eq_getElem hi]
  exact h _ (List.getElem_mem hi)
 ·rw [List.getD_eq_getElem?_getD,List.getElem?_eq_none hi]; decide

theorem pby_pre (s : List Int) (hs : byts s) (n : Nat) (h0 : 0 < n) (hn : n ≤ 255) : Lib.hasPrefix (strOfNums s).data.toList [UInt8.ofNat n] = decide (s.getD 0 0 = (n : Int)) := by
 rw [strOfNums_data]
 unfold Lib.hasPrefix
 cases s with
 | nil =>
  symm
  apply decide_eq_false
  simp
  omega
 | cons c r =>
  have hc := hs c (by simp)
  rw [Bool.eq_iff_iff,decide_eq_true_eq]
  simp only [List.map_cons,List.isPrefixOf,Bool.and_true,beq_iff_eq,List.getD_cons_zero]
  constructor
  ·intro e
   exact u8_inj hc (by omega) (by rw [← e]; simp)
  ·rintro rfl; simp

theorem pby_of (l : List Int) : (⟨(l.map fun n => UInt8.ofNat n.toNat).toArray⟩ : ByteArray) = strOfNums l := by
 unfold strOfNums
 rfl

theorem pby_trim (s : List Int) (hs : byts s) (n : Nat) (h0 : 0 < n) (hn : n ≤ 255) : (⟨(Lib.trimPrefix (strOfNums s).data.toList [UInt8.ofNat n]).toArray⟩ : ByteArray) = strOfNums (if s.getD 0 0 = (n : Int) then s.drop 1 else s) := by
 unfold Lib.trimPrefix
 rw [pby_pre s hs n h0 hn,strOfNums_data]
 by_cases h : s.getD 0 0 = (n : Int)
 ·rw [if_pos (decide_eq_true h),if_pos h,← pby_of,List.map_drop]; rfl
 ·rw [if_neg (by simpa using h),if_neg h,← pby_of]

theorem pcutp_any (s : List Int) (n : Nat) (h0 : 0 < n) (hn : n ≤ 255) (w : World) (hs : Hid (byts s)) :
  Calls Tryz.prog 103 #[.string (strOfNums s),.string { data := #[UInt8.ofNat n] }] w fun e w' => e = .returned (.tuple #[.string (strOfNums (if s.getD 0 0 = (n : Int) then s.drop 1 else s)),.bool (decide (s.getD 0 0 = (n : Int)))]) ∧ w' = w := by
 have q := Sh.strings_CutPrefix (strOfNums s) { data := #[UInt8.ofNat n] } w
 rw [show ({ data := #[UInt8.ofNat n] } : ByteArray).data.toList = [UInt8.ofNat n] from rfl,pby_pre s hs.out n h0 hn,pby_trim s hs.out n h0 hn] at q
 exact q

theorem ptrimp_any (s : List Int) (n : Nat) (h0 : 0 < n) (hn : n ≤ 255) (w : World) (hs : Hid (byts s)) :
  Calls Tryz.prog 72 #[.string (strOfNums s),.string { data := #[UInt8.ofNat n] }] w fun e w' => e = .returned (.string (strOfNums (if s.getD 0 0 = (n : Int) then s.drop 1 else s))) ∧ w' = w := by
 have q := Sh.strings_TrimPrefix (strOfNums s) { data := #[UInt8.ofNat n] } w
 rw [show ({ data := #[UInt8.ofNat n] } : ByteArray).data.toList = [UInt8.ofNat n] from rfl,pby_trim s hs.out n h0 hn] at q
 exact q

def ppt (c : Int) : Bool := decide (c ≠ 46)

theorem ix46 : ∀ s : List Int,(∀ c ∈ s,0 ≤ c ∧ c ≤ 255) → (Lib.index (s.map fun n => UInt8.ofNat n.toNat) [46] = -1 ∧ s.takeWhile ppt = s) ∨ ∃ k : Nat,Lib.index (s.map fun n => UInt8.ofNat n.toNat) [46] = k ∧ s.takeWhile ppt = s.take k
 | [],_ => .inl ⟨rfl,rfl⟩
 | c :: r,h => by
  have hc := h c (by simp)
  have ih := ix46 r (fun x hx => h x (by simp [hx]))
  have e : Lib.index ((c :: r).map fun n => UInt8.ofNat n.toNat) [46] = if c = 46 then 0 else if Lib.index (r.map fun n => UInt8.ofNat n.toNat) [46] == -1 then -1 else Lib.index (r.map fun n => UInt8.ofNat n.toNat) [46] + 1 := by
   show (if ([46] : List UInt8).isPrefixOf (UInt8.ofNat c.toNat :: (r.map fun n => UInt8.ofNat n.toNat)) = true then (0 : Int) else if Lib.index (r.map fun n => UInt8.ofNat n.toNat) [46] == -1 then -1 else Lib.index (r.map fun n => UInt8.ofNat n.toNat) [46] + 1) = _
   have hp : ([46] : List UInt8).isPrefixOf (UInt8.ofNat c.toNat :: (r.map fun n => UInt8.ofNat n.toNat)) = decide (c = 46) := by
    simp only [List.isPrefixOf,Bool.and_true]
    rw [Bool.eq_iff_iff,beq_iff_eq,decide_eq_true_eq]
    constructor
    ·intro g; exact u8_inj hc (by omega) (by rw [← g]; rfl)
    ·rintro rfl; rfl
   rw [hp]
   by_cases k : c = 46 <;> simp [k]
  rw [e]
  by_cases k : c = 46
  ·subst k
   exact .inr ⟨0,by simp,by simp [ppt]⟩
  ·rw [if_neg k]
   have hl : ppt c = true := decide_eq_true k
   rcases ih with ⟨h1,h2⟩ | ⟨j,h1,h2⟩
   ·left
    rw [h1,List.takeWhile_cons,if_pos hl,h2]
    simp
   ·right
    refine ⟨j + 1,?_,?_⟩
    ·rw [h1,if_neg (by simp only [beq_iff_eq]; omega)]; rfl
    ·rw [List.takeWhile_cons,if_pos hl,h2]; simp

theorem cut46 (s : List Int) (h : ∀ c ∈ s,0 ≤ c ∧ c ≤ 255) : (⟨(Lib.cut (s.map fun n => UInt8.ofNat n.toNat) [46]).1.toArray⟩ : ByteArray) = strOfNums (s.takeWhile ppt) := by
 rw [← pby_of]
 unfold Lib.cut
 rcases ix46 s h with ⟨h1,h2⟩ | ⟨k,h1,h2⟩
 ·rw [h1,if_neg (by omega),h2]
 ·rw [h1,if_pos (by omega),h2]
  simp [List.map_take]

def pnamed (s : List Int) : Bool := if s.getD 0 0 = 46 then nfull (s.drop 1) else (nfull s && !nkey (s.takeWhile ppt))

set_option maxRecDepth 10000 in
set_option maxHeartbeats 2000000 in
theorem pisnamed_any (s : List Int) (w : World) (hT : Hid (TTab w)) (hs : Hid (byts s)) (hlen : (s.length : Int) ≤ 100000) :
  Calls Tryz.prog 80 #[.string (strOfNums s)] w fun e w' => e = .returned (.bool (pnamed s)) ∧ Below w.heap.size w w' := by
 have q := fun W => pcutp_any s 46 (by omega) (by omega) W hs
 change ∀ W,Calls Tryz.prog 103 #[.string (strOfNums s),.string { data := #[46] }] W fun e w' => e = .returned (.tuple #[.string (strOfNums (if s.getD 0 0 = 46 then s.drop 1 else s)),.bool (decide (s.getD 0 0 = 46))]) ∧ w' = W at q
 by_cases hpt : s.getD 0 0 = 46
 ·rw [if_pos hpt,decide_eq_true hpt] at q
  rw [show pnamed s = nfull (s.drop 1) by unfold pnamed; rw [if_pos hpt]]
  have qf := fun W => pfull_any (s.drop 1) W trivial (fun i => by
   have : byts (s.drop 1) := fun c hc => hs.out c (List.mem_of_mem_drop hc)
   exact bd_mem this i) (by rw [List.length_drop]; omega)
  generalize nfull (s.drop 1) = R at qf ⊢
  generalize strOfNums (s.drop 1) = D at q qf
  generalize strOfNums s = S at q ⊢
  have Q : Hid _ := q
  have QF : Hid _ := qf
  clear q qf hpt
  go_enter Tryz.func80,Tryz.ntmps80
  go_wp2_with fail
  refine Calls.mono (Q.out _) ?_
  rintro e w1 ⟨rfl,rfl⟩
  go_wp2_with fail
  refine Calls.mono (QF.out _) ?_
  rintro e w2 ⟨rfl,hb⟩
  go_wp2
  go_ret
  exact ⟨rfl,hb⟩
 ·rw [if_neg hpt,decide_eq_false hpt] at q
  rw [show pnamed s = (nfull s && !nkey (s.takeWhile ppt)) by unfold pnamed; rw [if_neg hpt]]
  obtain ⟨_,m,hm⟩ := hT.out
  have qc := Sh.strings_Cut (strOfNums s) { data := #[46] } m w (by rw [strOfNums_size]; omega) hm
  rw [show ({ data := #[46] } : ByteArray).data.toList = [46] from rfl,strOfNums_data,cut46 s hs.out] at qc
  have qf := fun W => pfull_any s W trivial (fun i => bd_mem hs.out i) hlen
  have qk := fun W => pkey_any (s.takeWhile ppt) W trivial (fun i => bd_mem (fun c hc => hs.out c ((List.takeWhile_sublist _).subset hc)) i) (by
   have : (s.takeWhile ppt).length ≤ s.length := (List.takeWhile_sublist _).length_le
   omega)
  generalize nfull s = R at qf ⊢
  generalize nkey (s.takeWhile ppt) = K at qk ⊢
  generalize strOfNums (s.takeWhile ppt) = D at qc qk
  generalize (⟨(Lib.cut (s.map fun n => UInt8.ofNat n.toNat) [46]).2.1.toArray⟩ : ByteArray) = D2 at qc
  generalize (Lib.cut (s.map fun n => UInt8.ofNat n.toNat) [46]).2.2 = B2 at qc
  generalize strOfNums s = S at q qc qf ⊢
  have Q : Hid _ := q
  have QC : Hid _ := qc
  have QF : Hid _ := qf
  have QK : Hid _ := qk
  clear q qf qc qk hpt hm
  cases R with
  | false =>
   go_enter Tryz.func80,Tryz.ntmps80
   go_wp2_with fail
   refine Calls.mono (Q.out _) ?_
   rintro e w1 ⟨rfl,rfl⟩
   go_wp2_with fail
   refine Calls.mono QC.out ?_
   rintro e w2 ⟨rfl,n,rfl⟩
   go_wp2_with fail
   refine Calls.mono (QF.out _) ?_
   rintro e w2 ⟨rfl,hb⟩
   go_wp2
   go_ret
   exact ⟨rfl,(Below.drewN'' _ _).trans (hb.mono (Below.drewN'' _ _).size)⟩
  | true =>
   go_enter Tryz.func80,Tryz.ntmps80
   go_wp2_with fail
   refine Calls.mono (Q.out _) ?_
   rintro e w1 ⟨rfl,rfl⟩
   go_wp2_with fail
   refine Calls.mono QC.out ?_
   rintro e w2 ⟨rfl,n,rfl⟩
   go_wp2_with fail
   refine Calls.mono (QF.out _) ?_
   rintro e w2 ⟨rfl,hb⟩
   go_wp2_with fail
   refine Calls.mono (QK.out _) ?_
   rintro e w3 ⟨rfl,hb3⟩
   have hb13 := (Below.drewN'' w1 n).trans ((hb.trans (hb3.mono hb.size)).mono (Below.drewN'' w1 n).size)
   have HB : Hid (Below w1.heap.size w1 w3) := hb13
   clear hb13 hb hb3
   go_wp2
   go_ret
   exact ⟨by cases K <;> rfl,HB.out⟩

end Go.Proofs.YtlekfcehmlepkaaGreatDoor
