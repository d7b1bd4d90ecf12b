/- Put together by a program out of these texts of mine: NPd, VLg, VLh. -/
import Derived.Test.YtmhbjkoabbmfpaaGreatBunL1
import Derived.Test.YtmhbjkoabbmfpaaGreatBunL2
import Derived.Test.YtmhbjkoabbmfpaaGreatBunL3
import Derived.Test.YtmhbjkoabbmfpaaGreatBunL4
import Derived.Test.YtmhbjkoabbmfpaaGreatBunL5
import Derived.Test.YtmhbjkoabbmfpaaGreatBunL6
import Derived.Test.YtmhbjkoabbmfpaaGreatBunL7
import Derived.Test.YtmhbjkoabbmfpaaGreatBunL8
import Derived.Test.YtmhbjkoabbmfpaaGreatBunL9
import Derived.Test.YtmhbjkoabbmfpaaGreatBunL10
import Derived.Test.YtmhbjkoabbmfpaaGreatBunL11
import Derived.Test.YtmhbjkoabbmfpaaGreatBunL12
import Derived.Test.YtmhbjkoabbmfpaaGreatBunL13
import Derived.Test.YtmhbjkoabbmfpaaGreatBunL14
import Derived.Test.YtmhbjkoabbmfpaaGreatBunL15
import Derived.Test.YtmhbjkoabbmfpaaGreatBunL16
import Derived.Test.YtmhbjkoabbmfpaaGreatBunL17
import Derived.Test.YtmhbjkoabbmfpaaGreatBunL18
import Derived.Test.YtmhbjkoabbmfpaaGreatBunL19
import Derived.Test.YtmhbjkoabbmfpaaGreatBunL20
import Derived.Test.YtmhbjkoabbmfpaaGreatBunL21
import Derived.Test.YtmhbjkoabbmfpaaGreatBunL22
import Derived.Test.YtmhbjkoabbmfpaaGreatBunL23
import Derived.Test.YtmhbjkoabbmfpaaGreatBunL24
import Derived.Test.YtmhbjkoabbmfpaaGreatBunL25
import Derived.Test.YtmhbjkoabbmfpaaGreatBunL26
import Derived.Test.YtmhbjkoabbmfpaaGreatBunL27
import Derived.Test.YtmhbjkoabbmfpaaGreatBunL28
import Derived.Test.YtmhbjkoabbmfpaaGreatBunL29
import Derived.Test.YtmhbjkoabbmfpaaGreatBunL30
import Derived.Test.YtmhbjkoabbmfpaaGreatBunL31
import Derived.Test.YtmhbjkoabbmfpaaGreatBunL32
import Derived.Test.YtmhbjkoabbmfpaaGreatBunL33
import Derived.Test.YtmhbjkoabbmfpaaGreatBunL34
import Derived.Test.YtmhbjkoabbmfpaaGreatBunL35
import Derived.Test.YtmhbjkoabbmfpaaGreatBunL36
import Derived.Test.YtmhbjkoabbmfpaaGreatBunL37
import Derived.Test.YtmhbjkoabbmfpaaGreatBunL38
import Derived.Lib.OthersKept
import Derived.Test.YtmhbjkoabbmfpaaGreatBunF1

namespace Go.Proofs.YtmhbjkoabbmfpaaGreat
open Go.RowKit
set_option linter.unusedVariables false
set_option linter.unusedSimpArgs false

def npl : List (List Int) := [[100, 111, 117, 98, 108, 101], [102, 108, 111, 97, 116], [105, 110, 116, 51, 50], [105, 110, 116, 54, 52], [117, 105, 110, 116, 51, 50], [117, 105, 110, 116, 54, 52], [115, 105, 110, 116, 51, 50], [115, 105, 110, 116, 54, 52], [102, 105, 120, 101, 100, 51, 50], [102, 105, 120, 101, 100, 54, 52], [115, 102, 105, 120, 101, 100, 51, 50], [115, 102, 105, 120, 101, 100, 54, 52], [98, 111, 111, 108], [115, 116, 114, 105, 110, 103], [98, 121, 116, 101, 115]]

theorem nwf_none (s : List Int) : ∀ (l : List (List Int)) (k : Nat), s ∉ l → nwf s l k = 0
  | [], k, _ => rfl
  | z :: r, k, h => by
    rw [nwf, if_neg (fun e => h (by rw [← e.2]; simp)), nwf_none s r (k + 1) (fun e => h (List.mem_cons_of_mem _ e))]

theorem npl_word (s : List Int) : decide (nword s ≠ 0) = decide (s ∈ npl) := by
  by_cases h : s ∈ npl
  · rw [decide_eq_true h, decide_eq_true_eq]
    have all : ∀ z ∈ npl, nword z ≠ 0 := by decide
    exact all s h
  · rw [decide_eq_false h, decide_eq_false_iff_not]
    intro hn
    apply hn
    unfold nword
    by_cases h0 : s = []
    · subst h0; decide
    · refine nwf_none s nwords 0 (fun hm => ?_)
      have all : ∀ z ∈ nwords, z = [] ∨ z ∈ npl := by decide
      rcases all s hm with e | e
      · exact h0 e
      · exact h e

theorem weq (s t : List Int) (hs : byts s) (ht : byts t) (L : List UInt8) (hL : (strOfNums t).toList = L) (h : s ≠ t) : ((strOfNums s).toList == L) = false := by
  rw [← hL, str_eq hs ht]
  simpa using h

theorem str_lit (t : List Int) (L : List UInt8) (h : (t.map fun n => UInt8.ofNat n.toNat) = L) : (strOfNums t).toList = L := by rw [str_list, h]

set_option maxHeartbeats 4000000 in
theorem pplain_any (s : List Int) (w : World) (hs : Hid (byts s)) :
    Calls Tryz.prog 115 #[.string (strOfNums s)] w fun e w' => e = .returned (.bool (decide (s ∈ npl))) ∧ w = w' := by
  by_cases k0 : s = [100, 111, 117, 98, 108, 101]
  · have e0 : ((strOfNums s).toList == [100, 111, 117, 98, 108, 101]) = true := by rw [k0, str_lit _ [100, 111, 117, 98, 108, 101] rfl]; rfl
    have E : Hid (decide (s ∈ npl) = true) := decide_eq_true (by rw [k0]; decide)
    clear k0
    generalize strOfNums s = S at *
    go_enter Tryz.func115, Tryz.ntmps115
    go_wp2
    go_ret
    exact ⟨by rw [E.out]; rfl, rfl⟩
  have e0 : ((strOfNums s).toList == [100, 111, 117, 98, 108, 101]) = false := weq s _ hs.out (by unfold byts; decide) _ (str_lit _ [100, 111, 117, 98, 108, 101] rfl) k0
  by_cases k1 : s = [102, 108, 111, 97, 116]
  · have e1 : ((strOfNums s).toList == [102, 108, 111, 97, 116]) = true := by rw [k1, str_lit _ [102, 108, 111, 97, 116] rfl]; rfl
    have E : Hid (decide (s ∈ npl) = true) := decide_eq_true (by rw [k1]; decide)
    clear k1
    generalize strOfNums s = S at *
    go_enter Tryz.func115, Tryz.ntmps115
    go_wp2
    go_ret
    exact ⟨by rw [E.out]; rfl, rfl⟩
  have e1 : ((strOfNums s).toList == [102, 108, 111, 97, 116]) = false := weq s _ hs.out (by unfold byts; decide) _ (str_lit _ [102, 108, 111, 97, 116] rfl) k1
  by_cases k2 : s = [105, 110, 116, 51, 50]
  · have e2 : ((strOfNums s).toList == [105, 110, 116, 51, 50]) = true := by rw [k2, str_lit _ [105, 110, 116, 51, 50] rfl]; rfl
    have E : Hid (decide (s ∈ npl) = true) := decide_eq_true (by rw [k2]; decide)
    clear k2
    generalize strOfNums s = S at *
    go_enter Tryz.func115, Tryz.ntmps115
    go_wp2
    go_ret
    exact ⟨by rw [E.out]; rfl, rfl⟩
  have e2 : ((strOfNums s).toList == [105, 110, 116, 51, 50]) = false := weq s _ hs.out (by unfold byts; decide) _ (str_lit _ [105, 110, 116, 51, 50] rfl) k2
  by_cases k3 : s = [105, 110, 116, 54, 52]
  · have e3 : ((strOfNums s).toList == [105, 110, 116, 54, 52]) = true := by rw [k3, str_lit _ [105, 110, 116, 54, 52] rfl]; rfl
    have E : Hid (decide (s ∈ npl) = true) := decide_eq_true (by rw [k3]; decide)
    clear k3
    generalize strOfNums s = S at *
    go_enter Tryz.func115, Tryz.ntmps115
    go_wp2
    go_ret
    exact ⟨by rw [E.out]; rfl, rfl⟩
  have e3 : ((strOfNums s).toList == [105, 110, 116, 54, 52]) = false := weq s _ hs.out (by unfold byts; decide) _ (str_lit _ [105, 110, 116, 54, 52] rfl) k3
  by_cases k4 : s = [117, 105, 110, 116, 51, 50]
  · have e4 : ((strOfNums s).toList == [117, 105, 110, 116, 51, 50]) = true := by rw [k4, str_lit _ [117, 105, 110, 116, 51, 50] rfl]; rfl
    have E : Hid (decide (s ∈ npl) = true) := decide_eq_true (by rw [k4]; decide)
    clear k4
    generalize strOfNums s = S at *
    go_enter Tryz.func115, Tryz.ntmps115
    go_wp2
    go_ret
    exact ⟨by rw [E.out]; rfl, rfl⟩
  have e4 : ((strOfNums s).toList == [117, 105, 110, 116, 51, 50]) = false := weq s _ hs.out (by unfold byts; decide) _ (str_lit _ [117, 105, 110, 116, 51, 50] rfl) k4
  by_cases k5 : s = [117, 105, 110, 116, 54, 52]
  · have e5 : ((strOfNums s).toList == [117, 105, 110, 116, 54, 52]) = true := by rw [k5, str_lit _ [117, 105, 110, 116, 54, 52] rfl]; rfl
    have E : Hid (decide (s ∈ npl) = true) := decide_eq_true (by rw [k5]; decide)
    clear k5
    generalize strOfNums s = S at *
    go_enter Tryz.func115, Tryz.ntmps115
    go_wp2
    go_ret
    exact ⟨by rw [E.out]; rfl, rfl⟩
  have e5 : ((strOfNums s).toList == [117, 105, 110, 116, 54, 52]) = false := weq s _ hs.out (by unfold byts; decide) _ (str_lit _ [117, 105, 110, 116, 54, 52] rfl) k5
  by_cases k6 : s = [115, 105, 110, 116, 51, 50]
  · have e6 : ((strOfNums s).toList == [115, 105, 110, 116, 51, 50]) = true := by rw [k6, str_lit _ [115, 105, 110, 116, 51, 50] rfl]; rfl
    have E : Hid (decide (s ∈ npl) = true) := decide_eq_true (by rw [k6]; decide)
    clear k6
    generalize strOfNums s = S at *
    go_enter Tryz.func115, Tryz.ntmps115
    go_wp2
    go_ret
    exact ⟨by rw [E.out]; rfl, rfl⟩
  have e6 : ((strOfNums s).toList == [115, 105, 110, 116, 51, 50]) = false := weq s _ hs.out (by unfold byts; decide) _ (str_lit _ [115, 105, 110, 116, 51, 50] rfl) k6
  by_cases k7 : s = [115, 105, 110, 116, 54, 52]
  · have e7 : ((strOfNums s).toList == [115, 105, 110, 116, 54, 52]) = true := by rw [k7, str_lit _ [115, 105, 110, 116, 54, 52] rfl]; rfl
    have E : Hid (decide (s ∈ npl) = true) := decide_eq_true (by rw [k7]; decide)
    clear k7
    generalize strOfNums s = S at *
    go_enter Tryz.func115, Tryz.ntmps115
    go_wp2
    go_ret
    exact ⟨by rw [E.out]; rfl, rfl⟩
  have e7 : ((strOfNums s).toList == [115, 105, 110, 116, 54, 52]) = false := weq s _ hs.out (by unfold byts; decide) _ (str_lit _ [115, 105, 110, 116, 54, 52] rfl) k7
  by_cases k8 : s = [102, 105, 120, 101, 100, 51, 50]
  · have e8 : ((strOfNums s).toList == [102, 105, 120, 101, 100, 51, 50]) = true := by rw [k8, str_lit _ [102, 105, 120, 101, 100, 51, 50] rfl]; rfl
    have E : Hid (decide (s ∈ npl) = true) := decide_eq_true (by rw [k8]; decide)
    clear k8
    generalize strOfNums s = S at *
    go_enter Tryz.func115, Tryz.ntmps115
    go_wp2
    go_ret
    exact ⟨by rw [E.out]; rfl, rfl⟩
  have e8 : ((strOfNums s).toList == [102, 105, 120, 101, 100, 51, 50]) = false := weq s _ hs.out (by unfold byts; decide) _ (str_lit _ [102, 105, 120, 101, 100, 51, 50] rfl) k8
  by_cases k9 : s = [102, 105, 120, 101, 100, 54, 52]
  · have e9 : ((strOfNums s).toList == [102, 105, 120, 101, 100, 54, 52]) = true := by rw [k9, str_lit _ [102, 105, 120, 101, 100, 54, 52] rfl]; rfl
    have E : Hid (decide (s ∈ npl) = true) := decide_eq_true (by rw [k9]; decide)
    clear k9
    generalize strOfNums s = S at *
    go_enter Tryz.func115, Tryz.ntmps115
    go_wp2
    go_ret
    exact ⟨by rw [E.out]; rfl, rfl⟩
  have e9 : ((strOfNums s).toList == [102, 105, 120, 101, 100, 54, 52]) = false := weq s _ hs.out (by unfold byts; decide) _ (str_lit _ [102, 105, 120, 101, 100, 54, 52] rfl) k9
  by_cases k10 : s = [115, 102, 105, 120, 101, 100, 51, 50]
  · have e10 : ((strOfNums s).toList == [115, 102, 105, 120, 101, 100, 51, 50]) = true := by rw [k10, str_lit _ [115, 102, 105, 120, 101, 100, 51, 50] rfl]; rfl
    have E : Hid (decide (s ∈ npl) = true) := decide_eq_true (by rw [k10]; decide)
    clear k10
    generalize strOfNums s = S at *
    go_enter Tryz.func115, Tryz.ntmps115
    go_wp2
    go_ret
    exact ⟨by rw [E.out]; rfl, rfl⟩
  have e10 : ((strOfNums s).toList == [115, 102, 105, 120, 101, 100, 51, 50]) = false := weq s _ hs.out (by unfold byts; decide) _ (str_lit _ [115, 102, 105, 120, 101, 100, 51, 50] rfl) k10
  by_cases k11 : s = [115, 102, 105, 120, 101, 100, 54, 52]
  · have e11 : ((strOfNums s).toList == [115, 102, 105, 120, 101, 100, 54, 52]) = true := by rw [k11, str_lit _ [115, 102, 105, 120, 101, 100, 54, 52] rfl]; rfl
    have E : Hid (decide (s ∈ npl) = true) := decide_eq_true (by rw [k11]; decide)
    clear k11
    generalize strOfNums s = S at *
    go_enter Tryz.func115, Tryz.ntmps115
    go_wp2
    go_ret
    exact ⟨by rw [E.out]; rfl, rfl⟩
  have e11 : ((strOfNums s).toList == [115, 102, 105, 120, 101, 100, 54, 52]) = false := weq s _ hs.out (by unfold byts; decide) _ (str_lit _ [115, 102, 105, 120, 101, 100, 54, 52] rfl) k11
  by_cases k12 : s = [98, 111, 111, 108]
  · have e12 : ((strOfNums s).toList == [98, 111, 111, 108]) = true := by rw [k12, str_lit _ [98, 111, 111, 108] rfl]; rfl
    have E : Hid (decide (s ∈ npl) = true) := decide_eq_true (by rw [k12]; decide)
    clear k12
    generalize strOfNums s = S at *
    go_enter Tryz.func115, Tryz.ntmps115
    go_wp2
    go_ret
    exact ⟨by rw [E.out]; rfl, rfl⟩
  have e12 : ((strOfNums s).toList == [98, 111, 111, 108]) = false := weq s _ hs.out (by unfold byts; decide) _ (str_lit _ [98, 111, 111, 108] rfl) k12
  by_cases k13 : s = [115, 116, 114, 105, 110, 103]
  · have e13 : ((strOfNums s).toList == [115, 116, 114, 105, 110, 103]) = true := by rw [k13, str_lit _ [115, 116, 114, 105, 110, 103] rfl]; rfl
    have E : Hid (decide (s ∈ npl) = true) := decide_eq_true (by rw [k13]; decide)
    clear k13
    generalize strOfNums s = S at *
    go_enter Tryz.func115, Tryz.ntmps115
    go_wp2
    go_ret
    exact ⟨by rw [E.out]; rfl, rfl⟩
  have e13 : ((strOfNums s).toList == [115, 116, 114, 105, 110, 103]) = false := weq s _ hs.out (by unfold byts; decide) _ (str_lit _ [115, 116, 114, 105, 110, 103] rfl) k13
  by_cases k14 : s = [98, 121, 116, 101, 115]
  · have e14 : ((strOfNums s).toList == [98, 121, 116, 101, 115]) = true := by rw [k14, str_lit _ [98, 121, 116, 101, 115] rfl]; rfl
    have E : Hid (decide (s ∈ npl) = true) := decide_eq_true (by rw [k14]; decide)
    clear k14
    generalize strOfNums s = S at *
    go_enter Tryz.func115, Tryz.ntmps115
    go_wp2
    go_ret
    exact ⟨by rw [E.out]; rfl, rfl⟩
  have e14 : ((strOfNums s).toList == [98, 121, 116, 101, 115]) = false := weq s _ hs.out (by unfold byts; decide) _ (str_lit _ [98, 121, 116, 101, 115] rfl) k14
  have E : Hid (decide (s ∈ npl) = false) := decide_eq_false (fun h => by
    simp only [npl, List.mem_cons, List.not_mem_nil, or_false, k0, k1, k2, k3, k4, k5, k6, k7, k8, k9, k10, k11, k12, k13, k14] at h)
  clear k0 k1 k2 k3 k4 k5 k6 k7 k8 k9 k10 k11 k12 k13 k14
  generalize strOfNums s = S at *
  go_enter Tryz.func115, Tryz.ntmps115
  go_wp2
  go_ret
  exact ⟨by rw [E.out]; rfl, rfl⟩

set_option maxHeartbeats 4000000 in
theorem pkey_any (s : List Int) (w : World) (hT : Hid (NTab w)) (hz : Hid (∀ i, 0 ≤ s.getD i 0 ∧ s.getD i 0 ≤ 255)) (hlen : (s.length : Int) ≤ 100000) :
    Calls Tryz.prog 66 #[.string (strOfNums s)] w fun e w' => e = .returned (.bool (nkey s)) ∧ Below w.heap.size w w' := by
  have hs : Hid (byts s) := mem_bd hz.out
  have q := fun W => pplain_any s W hs
  have Q : Hid _ := q
  clear q
  by_cases k0 : s = [109, 101, 115, 115, 97, 103, 101]
  · have e0 : ((strOfNums s).toList == [109, 101, 115, 115, 97, 103, 101]) = true := by rw [k0, str_lit _ [109, 101, 115, 115, 97, 103, 101] rfl]; rfl
    have E : Hid (nkey s = true) := by show _ = _; unfold nkey; rw [decide_eq_true (by rw [k0]; decide)]; rfl
    clear k0
    clear Q
    generalize strOfNums s = S at *
    go_enter Tryz.func66, Tryz.ntmps66
    go_wp2
    go_ret
    exact ⟨by rw [E.out]; rfl, Below.refl _ _⟩
  have e0 : ((strOfNums s).toList == [109, 101, 115, 115, 97, 103, 101]) = false := weq s _ hs.out (by unfold byts; decide) _ (str_lit _ [109, 101, 115, 115, 97, 103, 101] rfl) k0
  by_cases k1 : s = [101, 110, 117, 109]
  · have e1 : ((strOfNums s).toList == [101, 110, 117, 109]) = true := by rw [k1, str_lit _ [101, 110, 117, 109] rfl]; rfl
    have E : Hid (nkey s = true) := by show _ = _; unfold nkey; rw [decide_eq_true (by rw [k1]; decide)]; rfl
    clear k1
    clear Q
    generalize strOfNums s = S at *
    go_enter Tryz.func66, Tryz.ntmps66
    go_wp2
    go_ret
    exact ⟨by rw [E.out]; rfl, Below.refl _ _⟩
  have e1 : ((strOfNums s).toList == [101, 110, 117, 109]) = false := weq s _ hs.out (by unfold byts; decide) _ (str_lit _ [101, 110, 117, 109] rfl) k1
  by_cases k2 : s = [101, 120, 116, 101, 110, 100]
  · have e2 : ((strOfNums s).toList == [101, 120, 116, 101, 110, 100]) = true := by rw [k2, str_lit _ [101, 120, 116, 101, 110, 100] rfl]; rfl
    have E : Hid (nkey s = true) := by show _ = _; unfold nkey; rw [decide_eq_true (by rw [k2]; decide)]; rfl
    clear k2
    clear Q
    generalize strOfNums s = S at *
    go_enter Tryz.func66, Tryz.ntmps66
    go_wp2
    go_ret
    exact ⟨by rw [E.out]; rfl, Below.refl _ _⟩
  have e2 : ((strOfNums s).toList == [101, 120, 116, 101, 110, 100]) = false := weq s _ hs.out (by unfold byts; decide) _ (str_lit _ [101, 120, 116, 101, 110, 100] rfl) k2
  by_cases k3 : s = [101, 120, 116, 101, 110, 115, 105, 111, 110, 115]
  · have e3 : ((strOfNums s).toList == [101, 120, 116, 101, 110, 115, 105, 111, 110, 115]) = true := by rw [k3, str_lit _ [101, 120, 116, 101, 110, 115, 105, 111, 110, 115] rfl]; rfl
    have E : Hid (nkey s = true) := by show _ = _; unfold nkey; rw [decide_eq_true (by rw [k3]; decide)]; rfl
    clear k3
    clear Q
    generalize strOfNums s = S at *
    go_enter Tryz.func66, Tryz.ntmps66
    go_wp2
    go_ret
    exact ⟨by rw [E.out]; rfl, Below.refl _ _⟩
  have e3 : ((strOfNums s).toList == [101, 120, 116, 101, 110, 115, 105, 111, 110, 115]) = false := weq s _ hs.out (by unfold byts; decide) _ (str_lit _ [101, 120, 116, 101, 110, 115, 105, 111, 110, 115] rfl) k3
  by_cases k4 : s = [111, 112, 116, 105, 111, 110]
  · have e4 : ((strOfNums s).toList == [111, 112, 116, 105, 111, 110]) = true := by rw [k4, str_lit _ [111, 112, 116, 105, 111, 110] rfl]; rfl
    have E : Hid (nkey s = true) := by show _ = _; unfold nkey; rw [decide_eq_true (by rw [k4]; decide)]; rfl
    clear k4
    clear Q
    generalize strOfNums s = S at *
    go_enter Tryz.func66, Tryz.ntmps66
    go_wp2
    go_ret
    exact ⟨by rw [E.out]; rfl, Below.refl _ _⟩
  have e4 : ((strOfNums s).toList == [111, 112, 116, 105, 111, 110]) = false := weq s _ hs.out (by unfold byts; decide) _ (str_lit _ [111, 112, 116, 105, 111, 110] rfl) k4
  by_cases k5 : s = [111, 110, 101, 111, 102]
  · have e5 : ((strOfNums s).toList == [111, 110, 101, 111, 102]) = true := by rw [k5, str_lit _ [111, 110, 101, 111, 102] rfl]; rfl
    have E : Hid (nkey s = true) := by show _ = _; unfold nkey; rw [decide_eq_true (by rw [k5]; decide)]; rfl
    clear k5
    clear Q
    generalize strOfNums s = S at *
    go_enter Tryz.func66, Tryz.ntmps66
    go_wp2
    go_ret
    exact ⟨by rw [E.out]; rfl, Below.refl _ _⟩
  have e5 : ((strOfNums s).toList == [111, 110, 101, 111, 102]) = false := weq s _ hs.out (by unfold byts; decide) _ (str_lit _ [111, 110, 101, 111, 102] rfl) k5
  by_cases k6 : s = [109, 97, 112]
  · have e6 : ((strOfNums s).toList == [109, 97, 112]) = true := by rw [k6, str_lit _ [109, 97, 112] rfl]; rfl
    have E : Hid (nkey s = true) := by show _ = _; unfold nkey; rw [decide_eq_true (by rw [k6]; decide)]; rfl
    clear k6
    clear Q
    generalize strOfNums s = S at *
    go_enter Tryz.func66, Tryz.ntmps66
    go_wp2
    go_ret
    exact ⟨by rw [E.out]; rfl, Below.refl _ _⟩
  have e6 : ((strOfNums s).toList == [109, 97, 112]) = false := weq s _ hs.out (by unfold byts; decide) _ (str_lit _ [109, 97, 112] rfl) k6
  by_cases k7 : s = [114, 101, 115, 101, 114, 118, 101, 100]
  · have e7 : ((strOfNums s).toList == [114, 101, 115, 101, 114, 118, 101, 100]) = true := by rw [k7, str_lit _ [114, 101, 115, 101, 114, 118, 101, 100] rfl]; rfl
    have E : Hid (nkey s = true) := by show _ = _; unfold nkey; rw [decide_eq_true (by rw [k7]; decide)]; rfl
    clear k7
    clear Q
    generalize strOfNums s = S at *
    go_enter Tryz.func66, Tryz.ntmps66
    go_wp2
    go_ret
    exact ⟨by rw [E.out]; rfl, Below.refl _ _⟩
  have e7 : ((strOfNums s).toList == [114, 101, 115, 101, 114, 118, 101, 100]) = false := weq s _ hs.out (by unfold byts; decide) _ (str_lit _ [114, 101, 115, 101, 114, 118, 101, 100] rfl) k7
  by_cases k8 : s = [111, 112, 116, 105, 111, 110, 97, 108]
  · have e8 : ((strOfNums s).toList == [111, 112, 116, 105, 111, 110, 97, 108]) = true := by rw [k8, str_lit _ [111, 112, 116, 105, 111, 110, 97, 108] rfl]; rfl
    have E : Hid (nkey s = true) := by show _ = _; unfold nkey; rw [decide_eq_true (by rw [k8]; decide)]; rfl
    clear k8
    clear Q
    generalize strOfNums s = S at *
    go_enter Tryz.func66, Tryz.ntmps66
    go_wp2
    go_ret
    exact ⟨by rw [E.out]; rfl, Below.refl _ _⟩
  have e8 : ((strOfNums s).toList == [111, 112, 116, 105, 111, 110, 97, 108]) = false := weq s _ hs.out (by unfold byts; decide) _ (str_lit _ [111, 112, 116, 105, 111, 110, 97, 108] rfl) k8
  by_cases k9 : s = [114, 101, 113, 117, 105, 114, 101, 100]
  · have e9 : ((strOfNums s).toList == [114, 101, 113, 117, 105, 114, 101, 100]) = true := by rw [k9, str_lit _ [114, 101, 113, 117, 105, 114, 101, 100] rfl]; rfl
    have E : Hid (nkey s = true) := by show _ = _; unfold nkey; rw [decide_eq_true (by rw [k9]; decide)]; rfl
    clear k9
    clear Q
    generalize strOfNums s = S at *
    go_enter Tryz.func66, Tryz.ntmps66
    go_wp2
    go_ret
    exact ⟨by rw [E.out]; rfl, Below.refl _ _⟩
  have e9 : ((strOfNums s).toList == [114, 101, 113, 117, 105, 114, 101, 100]) = false := weq s _ hs.out (by unfold byts; decide) _ (str_lit _ [114, 101, 113, 117, 105, 114, 101, 100] rfl) k9
  by_cases k10 : s = [114, 101, 112, 101, 97, 116, 101, 100]
  · have e10 : ((strOfNums s).toList == [114, 101, 112, 101, 97, 116, 101, 100]) = true := by rw [k10, str_lit _ [114, 101, 112, 101, 97, 116, 101, 100] rfl]; rfl
    have E : Hid (nkey s = true) := by show _ = _; unfold nkey; rw [decide_eq_true (by rw [k10]; decide)]; rfl
    clear k10
    clear Q
    generalize strOfNums s = S at *
    go_enter Tryz.func66, Tryz.ntmps66
    go_wp2
    go_ret
    exact ⟨by rw [E.out]; rfl, Below.refl _ _⟩
  have e10 : ((strOfNums s).toList == [114, 101, 112, 101, 97, 116, 101, 100]) = false := weq s _ hs.out (by unfold byts; decide) _ (str_lit _ [114, 101, 112, 101, 97, 116, 101, 100] rfl) k10
  by_cases k11 : s = [114, 112, 99]
  · have e11 : ((strOfNums s).toList == [114, 112, 99]) = true := by rw [k11, str_lit _ [114, 112, 99] rfl]; rfl
    have E : Hid (nkey s = true) := by show _ = _; unfold nkey; rw [decide_eq_true (by rw [k11]; decide)]; rfl
    clear k11
    clear Q
    generalize strOfNums s = S at *
    go_enter Tryz.func66, Tryz.ntmps66
    go_wp2
    go_ret
    exact ⟨by rw [E.out]; rfl, Below.refl _ _⟩
  have e11 : ((strOfNums s).toList == [114, 112, 99]) = false := weq s _ hs.out (by unfold byts; decide) _ (str_lit _ [114, 112, 99] rfl) k11
  by_cases k12 : s = [115, 101, 114, 118, 105, 99, 101]
  · have e12 : ((strOfNums s).toList == [115, 101, 114, 118, 105, 99, 101]) = true := by rw [k12, str_lit _ [115, 101, 114, 118, 105, 99, 101] rfl]; rfl
    have E : Hid (nkey s = true) := by show _ = _; unfold nkey; rw [decide_eq_true (by rw [k12]; decide)]; rfl
    clear k12
    clear Q
    generalize strOfNums s = S at *
    go_enter Tryz.func66, Tryz.ntmps66
    go_wp2
    go_ret
    exact ⟨by rw [E.out]; rfl, Below.refl _ _⟩
  have e12 : ((strOfNums s).toList == [115, 101, 114, 118, 105, 99, 101]) = false := weq s _ hs.out (by unfold byts; decide) _ (str_lit _ [115, 101, 114, 118, 105, 99, 101] rfl) k12
  by_cases k13 : s = [105, 109, 112, 111, 114, 116]
  · have e13 : ((strOfNums s).toList == [105, 109, 112, 111, 114, 116]) = true := by rw [k13, str_lit _ [105, 109, 112, 111, 114, 116] rfl]; rfl
    have E : Hid (nkey s = true) := by show _ = _; unfold nkey; rw [decide_eq_true (by rw [k13]; decide)]; rfl
    clear k13
    clear Q
    generalize strOfNums s = S at *
    go_enter Tryz.func66, Tryz.ntmps66
    go_wp2
    go_ret
    exact ⟨by rw [E.out]; rfl, Below.refl _ _⟩
  have e13 : ((strOfNums s).toList == [105, 109, 112, 111, 114, 116]) = false := weq s _ hs.out (by unfold byts; decide) _ (str_lit _ [105, 109, 112, 111, 114, 116] rfl) k13
  by_cases k14 : s = [112, 97, 99, 107, 97, 103, 101]
  · have e14 : ((strOfNums s).toList == [112, 97, 99, 107, 97, 103, 101]) = true := by rw [k14, str_lit _ [112, 97, 99, 107, 97, 103, 101] rfl]; rfl
    have E : Hid (nkey s = true) := by show _ = _; unfold nkey; rw [decide_eq_true (by rw [k14]; decide)]; rfl
    clear k14
    clear Q
    generalize strOfNums s = S at *
    go_enter Tryz.func66, Tryz.ntmps66
    go_wp2
    go_ret
    exact ⟨by rw [E.out]; rfl, Below.refl _ _⟩
  have e14 : ((strOfNums s).toList == [112, 97, 99, 107, 97, 103, 101]) = false := weq s _ hs.out (by unfold byts; decide) _ (str_lit _ [112, 97, 99, 107, 97, 103, 101] rfl) k14
  by_cases k15 : s = [115, 121, 110, 116, 97, 120]
  · have e15 : ((strOfNums s).toList == [115, 121, 110, 116, 97, 120]) = true := by rw [k15, str_lit _ [115, 121, 110, 116, 97, 120] rfl]; rfl
    have E : Hid (nkey s = true) := by show _ = _; unfold nkey; rw [decide_eq_true (by rw [k15]; decide)]; rfl
    clear k15
    clear Q
    generalize strOfNums s = S at *
    go_enter Tryz.func66, Tryz.ntmps66
    go_wp2
    go_ret
    exact ⟨by rw [E.out]; rfl, Below.refl _ _⟩
  have e15 : ((strOfNums s).toList == [115, 121, 110, 116, 97, 120]) = false := weq s _ hs.out (by unfold byts; decide) _ (str_lit _ [115, 121, 110, 116, 97, 120] rfl) k15
  by_cases k16 : s = [115, 116, 114, 101, 97, 109]
  · have e16 : ((strOfNums s).toList == [115, 116, 114, 101, 97, 109]) = true := by rw [k16, str_lit _ [115, 116, 114, 101, 97, 109] rfl]; rfl
    have E : Hid (nkey s = true) := by show _ = _; unfold nkey; rw [decide_eq_true (by rw [k16]; decide)]; rfl
    clear k16
    clear Q
    generalize strOfNums s = S at *
    go_enter Tryz.func66, Tryz.ntmps66
    go_wp2
    go_ret
    exact ⟨by rw [E.out]; rfl, Below.refl _ _⟩
  have e16 : ((strOfNums s).toList == [115, 116, 114, 101, 97, 109]) = false := weq s _ hs.out (by unfold byts; decide) _ (str_lit _ [115, 116, 114, 101, 97, 109] rfl) k16
  by_cases k17 : s = [114, 101, 116, 117, 114, 110, 115]
  · have e17 : ((strOfNums s).toList == [114, 101, 116, 117, 114, 110, 115]) = true := by rw [k17, str_lit _ [114, 101, 116, 117, 114, 110, 115] rfl]; rfl
    have E : Hid (nkey s = true) := by show _ = _; unfold nkey; rw [decide_eq_true (by rw [k17]; decide)]; rfl
    clear k17
    clear Q
    generalize strOfNums s = S at *
    go_enter Tryz.func66, Tryz.ntmps66
    go_wp2
    go_ret
    exact ⟨by rw [E.out]; rfl, Below.refl _ _⟩
  have e17 : ((strOfNums s).toList == [114, 101, 116, 117, 114, 110, 115]) = false := weq s _ hs.out (by unfold byts; decide) _ (str_lit _ [114, 101, 116, 117, 114, 110, 115] rfl) k17
  by_cases k18 : s = [116, 111]
  · have e18 : ((strOfNums s).toList == [116, 111]) = true := by rw [k18, str_lit _ [116, 111] rfl]; rfl
    have E : Hid (nkey s = true) := by show _ = _; unfold nkey; rw [decide_eq_true (by rw [k18]; decide)]; rfl
    clear k18
    clear Q
    generalize strOfNums s = S at *
    go_enter Tryz.func66, Tryz.ntmps66
    go_wp2
    go_ret
    exact ⟨by rw [E.out]; rfl, Below.refl _ _⟩
  have e18 : ((strOfNums s).toList == [116, 111]) = false := weq s _ hs.out (by unfold byts; decide) _ (str_lit _ [116, 111] rfl) k18
  by_cases k19 : s = [109, 97, 120]
  · have e19 : ((strOfNums s).toList == [109, 97, 120]) = true := by rw [k19, str_lit _ [109, 97, 120] rfl]; rfl
    have E : Hid (nkey s = true) := by show _ = _; unfold nkey; rw [decide_eq_true (by rw [k19]; decide)]; rfl
    clear k19
    clear Q
    generalize strOfNums s = S at *
    go_enter Tryz.func66, Tryz.ntmps66
    go_wp2
    go_ret
    exact ⟨by rw [E.out]; rfl, Below.refl _ _⟩
  have e19 : ((strOfNums s).toList == [109, 97, 120]) = false := weq s _ hs.out (by unfold byts; decide) _ (str_lit _ [109, 97, 120] rfl) k19
  by_cases k20 : s = [112, 117, 98, 108, 105, 99]
  · have e20 : ((strOfNums s).toList == [112, 117, 98, 108, 105, 99]) = true := by rw [k20, str_lit _ [112, 117, 98, 108, 105, 99] rfl]; rfl
    have E : Hid (nkey s = true) := by show _ = _; unfold nkey; rw [decide_eq_true (by rw [k20]; decide)]; rfl
    clear k20
    clear Q
    generalize strOfNums s = S at *
    go_enter Tryz.func66, Tryz.ntmps66
    go_wp2
    go_ret
    exact ⟨by rw [E.out]; rfl, Below.refl _ _⟩
  have e20 : ((strOfNums s).toList == [112, 117, 98, 108, 105, 99]) = false := weq s _ hs.out (by unfold byts; decide) _ (str_lit _ [112, 117, 98, 108, 105, 99] rfl) k20
  have E : Hid (nkey s = decide (s ∈ npl)) := by
    show _ = _
    unfold nkey
    rw [decide_eq_false (p := s ∈ nkeys) (fun h => by simp only [nkeys, List.mem_cons, List.not_mem_nil, or_false, k0, k1, k2, k3, k4, k5, k6, k7, k8, k9, k10, k11, k12, k13, k14, k15, k16, k17, k18, k19, k20] at h), Bool.false_or, npl_word]
  clear k0 k1 k2 k3 k4 k5 k6 k7 k8 k9 k10 k11 k12 k13 k14 k15 k16 k17 k18 k19 k20
  generalize decide (s ∈ npl) = b at Q E
  generalize strOfNums s = S at *
  go_enter Tryz.func66, Tryz.ntmps66
  go_wp2_with fail
  refine Calls.mono (Q.out _) ?_
  rintro e w1 ⟨rfl, rfl⟩
  go_wp2
  go_ret
  exact ⟨by rw [E.out]; rfl, Below.refl _ _⟩

theorem plastidx (s : List Int) (hz : byts s) (hl : s.length ≤ 100000) (W : World) :
    Calls Tryz.prog 64 #[.string (strOfNums s), .string { data := #[46] }] W fun e w' => e = .returned (.int .i64 ((nlast s s.length : Int) - 1)) ∧ W = w' := by
  have hsz := strOfNums_size s
  have q := Sh.strings_LastIndex_one (strOfNums s) { data := #[46] } rfl (by omega) W
  have he : Lib.lastIndexByte (strOfNums s) (((({ data := #[46] } : ByteArray)[0]'(by decide)).toNat : Nat) : Int) = (nlast s s.length : Int) - 1 := by
    show Lib.lastIdx (strOfNums s) 46 (strOfNums s).size = _
    rw [hsz]
    exact last_dot s (byts_get hz) s.length (Nat.le_refl _)
  rw [← he]
  exact Calls.mono q (fun e w h => ⟨h.1, h.2.symm⟩)

theorem found_full {h : Sy} {seen : List ByteArray} {kinds : List Int} {l : List (List Int)} {z fl : List Int} (hr : l.find? (fz h seen kinds) = some z) (hz : strOfNums z = strOfNums fl) : lookE (l.find? (fz h seen kinds)) = lookE ([fl].find? (fz h seen kinds)) := by
  have h1 := List.find?_some hr
  have h2 : fz h seen kinds fl = true := by
    unfold fz at *
    rw [← hz]
    exact h1
  rw [hr, List.find?_cons, h2]
  unfold lookE
  simp only [hz]

theorem places_dotted (sc fl : List Int) : nplaces sc (46 :: fl) = [fl] := by
  unfold nplaces
  rw [if_pos (by simp)]
  rfl

def ShE (h : Sy) (seen : List ByteArray) (kinds : List Int) (sc fl : List Int) (W : World) (e : Ending) (W' : World) : Prop :=
  Below W.heap.size W W' ∧ ∃ t, e = .returned (.string (strOfNums t)) ∧ byts t ∧ t.length ≤ 3001 ∧ lookE ((nplaces sc t).find? (fz h seen kinds)) = lookE ([fl].find? (fz h seen kinds))

set_option maxRecDepth 20000 in
set_option maxHeartbeats 1000000 in
theorem pshort {R : Option Addr → Prop} {W : World} {bp bs be : Nat} {vf : Value} {h : Sy} (hP : Hid (Px R W bp bs be vf h)) {ka : Option Addr} {kn kc : Nat} {kinds : List Int} {sa : Option Addr} {sn sc' : Nat} {seen : List ByteArray} (hk : Hid (Ns W ka kn kc kinds)) (hs : Hid (Sb W sa sn sc' seen)) (sc fl : List Int) (hsb : Hid (byts sc)) (hfb : Hid (byts fl)) (hsl : Hid (sc.length ≤ 5000)) (hfl : Hid (fl.length ≤ 3000)) :
    Calls Tryz.prog 31 #[.pointer (some ⟨bp, 0, none⟩), .string (strOfNums sc), .string (strOfNums fl), .slice sa sn sc', .slice ka kn kc] W fun e W' => ShE h seen kinds sc fl W e W' := by
  have QL0 : Hid (∀ (nm : List Int), byts nm → nm.length ≤ 4000 → ∀ V, Below W.heap.size W V → Calls Tryz.prog 27 #[.pointer (some ⟨bp, 0, none⟩), .string (strOfNums sc), .string (strOfNums nm), .slice sa sn sc', .slice ka kn kc] V fun e W' => e = lookE ((nplaces sc nm).find? (fz h seen kinds)) ∧ Below V.heap.size V W') := fun nm hnb hnl V hV =>
    plook (show Hid _ from hP.out.below hV (Nat.le_refl _)) (show Hid _ from hk.out.below hV) (show Hid _ from hs.out.below hV) sc nm hsb hnb hsl.out hnl
  clear hP hk hs hsl
  have hsz := strOfNums_size fl
  have h3 : ∀ W, (Op.stringOp .add { data := #[46] } (strOfNums fl)).run Tryz.prog W = .ok (.string (strOfNums ([46] ++ fl))) W := fun W => by
    have := run_add W [46] fl (by have := hfl.out; simp; omega)
    rw [show strOfNums [46] = (⟨#[46]⟩ : ByteArray) from by kernel_rfl] at this
    exact this
  have HF : Hid (∀ (m : Nat), m ≤ fl.length → ∀ W, (Instr.slice 9 (.string (strOfNums fl)) none (some (.int .i64 (m : Int))) none).run Tryz.prog W = .ok (.string (strOfNums (fl.take m))) W) := fun m hm W => run_head fl m hm (by have := hfl.out; omega) W
  have HT : Hid (∀ (m : Nat), m ≤ fl.length → ∀ W, (Instr.slice 9 (.string (strOfNums fl)) (some (.int .i64 (m : Int))) none none).run Tryz.prog W = .ok (.string (strOfNums (fl.drop m))) W) := fun m hm W => run_tail fl m hm _ (by omega) W
  have HEQ : Hid (∀ z : List Int, ((strOfNums z).toList == (strOfNums fl).toList) = true → strOfNums z = strOfNums fl) := fun z e => by rw [tl_eq] at e; exact of_decide_eq_true e
  obtain ⟨S0, hS0⟩ : ∃ S0, S0 = strOfNums sc := ⟨_, rfl⟩
  rw [← hS0] at QL0 ⊢
  obtain ⟨FL, hFL⟩ : ∃ FL, FL = strOfNums fl := ⟨_, rfl⟩
  rw [← hFL] at HF HT HEQ h3 hsz ⊢
  have HFL : Hid _ := hFL
  clear hS0 hFL
  go_enter Tryz.func31, Tryz.ntmps31
  have hsz' : (FL.size : Int) = (fl.length : Int) := by omega
  go_wp2
  go_loopw [11] (fun v wr => ∃ k : Int, v = .int .i64 k ∧ -1 ≤ k ∧ k ≤ (fl.length : Int) ∧ Hid (Below W.heap.size W wr)) (fun v _ => (intOf v + 1).toNat)
  case atStart => exact ⟨fl.length, by first | rfl | (rw [hsz']), by omega, by omega, Below.refl _ _⟩
  case round =>
    obtain ⟨k, rfl, hk1, hk2, HB⟩ := hrel
    have hf3 := hfl.out
    by_cases hk0 : 0 ≤ k
    · obtain ⟨m, rfl⟩ : ∃ m : Nat, k = (m : Int) := ⟨k.toNat, by omega⟩
      have e1 := HF.out m (by omega)
      have hbt : byts (fl.take m) := fun x hx => hfb.out x (List.mem_of_mem_take hx)
      have Q1 : Hid _ := plastidx (fl.take m) hbt (by rw [List.length_take]; omega)
      have hnl := nlast_le (fl.take m) (fl.take m).length
      have hjm : nlast (fl.take m) (fl.take m).length ≤ m := Nat.le_trans hnl (by rw [List.length_take]; omega)
      clear hnl
      generalize nlast (fl.take m) (fl.take m).length = j at *
      have e2 := HT.out j (by omega)
      have hj1 : (j : Int) - 1 + 1 = (j : Int) := by omega
      have hbd : byts (fl.drop j) := fun x hx => hfb.out x (List.mem_of_mem_drop hx)
      have Q2 : Hid _ := fun V => pcut2 (strOfNums (fl.drop j)) V (by rw [strOfNums_size, List.length_drop]; omega)
      have QL : Hid _ := QL0.out (fl.drop j) hbd (by rw [List.length_drop]; omega)
      have QC : Hid _ := fun V => pnclone_any (strOfNums (fl.drop j)) V (by rw [strOfNums_size, List.length_drop]; omega)
      have HXS : Hid ((strOfNums (fl.drop j)).size ≤ 3000) := by show _ ≤ _; rw [strOfNums_size, List.length_drop]; omega
      have HBD : Hid (byts (fl.drop j) ∧ (fl.drop j).length ≤ 3000) := ⟨hbd, by rw [List.length_drop]; omega⟩
      obtain ⟨X, hX⟩ : ∃ X, X = strOfNums (fl.drop j) := ⟨_, rfl⟩
      rw [← hX] at e2 Q2 QL QC HXS
      have HX : Hid _ := hX
      generalize strOfNums (fl.take m) = PM at *
      clear hbt hbd hX
      go_wp2_with fail
      refine Calls.mono (Q1.out _) ?_
      rintro e w1 ⟨rfl, rfl⟩
      clear Q1 e1
      go_wp2_with fail
      refine Calls.mono (Q2.out _) ?_
      rintro e w2 ⟨A, B, b, rfl, hA, hb2⟩
      have HB2 : Hid (Below W.heap.size W w2) := HB.out.trans (hb2.mono HB.out.size)
      have QK : Hid _ := pkey_any (numsOf A) w2 (show Hid (NTab w2) from trivial) (show Hid _ from byts_get (numsOf_byts A)) (by rw [numsOf_len]; have := HXS.out; omega)
      rw [numsOf_str] at QK
      generalize nkey (numsOf A) = B1 at QK
      clear hb2 Q2 e2 hA
      go_wp2_with fail
      refine Calls.mono QK.out ?_
      rintro e w3 ⟨rfl, hb3⟩
      have HB3 : Hid (Below W.heap.size W w3) := HB2.out.trans (hb3.mono HB2.out.size)
      clear hb3 QK
      cases B1
      · obtain ⟨RES, hRES⟩ : ∃ RES, RES = (nplaces sc (fl.drop j)).find? (fz h seen kinds) := ⟨_, rfl⟩
        rw [← hRES] at QL
        cases RES with
        | none =>
          have Q3 : Hid (Calls Tryz.prog 27 #[.pointer (some ⟨bp, 0, none⟩), .string S0, .string X, .slice sa sn sc', .slice ka kn kc] w3 fun e W' => e = .returned (.tuple #[.string ⟨#[]⟩, .bool false]) ∧ Below w3.heap.size w3 W') := QL.out w3 HB3.out
          clear QL hRES
          go_wp2_with fail
          refine Calls.mono Q3.out ?_
          rintro e w4 ⟨rfl, hb4⟩
          have HB4 : Hid (Below W.heap.size W w4) := HB3.out.trans (hb4.mono HB3.out.size)
          clear hb4 Q3
          go_wp2
          go_roundw
          case rel => first | exact ⟨(j : Int) - 1, by first | rfl | go_num, by omega, by omega, HB4⟩ | ((repeat apply Exists.intro); exact ⟨⟨(j : Int) - 1, by first | rfl | go_num, by omega, by omega, HB4⟩, rfl⟩)
          case measure => simp [intOf]; omega
        | some z =>
          have Q3 : Hid (Calls Tryz.prog 27 #[.pointer (some ⟨bp, 0, none⟩), .string S0, .string X, .slice sa sn sc', .slice ka kn kc] w3 fun e W' => e = .returned (.tuple #[.string (strOfNums z), .bool true]) ∧ Below w3.heap.size w3 W') := QL.out w3 HB3.out
          have HRES : Hid _ := hRES
          cases hq : ((strOfNums z).toList == FL.toList) with
          | true =>
            have hzf : strOfNums z = strOfNums fl := (of_decide_eq_true (by rw [← tl_eq]; exact hq) : strOfNums z = FL).trans HFL.out
            have HE : Hid (lookE ((nplaces sc (fl.drop j)).find? (fz h seen kinds)) = lookE ([fl].find? (fz h seen kinds))) := found_full HRES.out.symm hzf
            clear QL hRES HRES hzf HEQ
            generalize strOfNums z = Z at Q3 hq
            go_wp2_with fail
            refine Calls.mono Q3.out ?_
            rintro e w4 ⟨rfl, hb4⟩
            have HB4 : Hid (Below W.heap.size W w4) := HB3.out.trans (hb4.mono HB3.out.size)
            clear hb4 Q3
            go_wp2_with fail
            refine Calls.mono (QC.out _) ?_
            rintro e w5 ⟨rfl, hb5⟩
            have HB5 : Hid (Below W.heap.size W w5) := HB4.out.trans (hb5.mono HB4.out.size)
            clear hb5 QC
            go_wp2
            go_ret
            exact ⟨HB5.out, fl.drop j, by rw [← HX.out]; rfl, HBD.out.1, (by have := HBD.out.2; omega), HE.out⟩
          | false =>
            clear QL hRES HRES
            generalize strOfNums z = Z at Q3 hq
            go_wp2_with fail
            refine Calls.mono Q3.out ?_
            rintro e w4 ⟨rfl, hb4⟩
            have HB4 : Hid (Below W.heap.size W w4) := HB3.out.trans (hb4.mono HB3.out.size)
            clear hb4 Q3
            go_wp2
            go_roundw
            case rel => first | exact ⟨(j : Int) - 1, by first | rfl | go_num, by omega, by omega, HB4⟩ | ((repeat apply Exists.intro); exact ⟨⟨(j : Int) - 1, by first | rfl | go_num, by omega, by omega, HB4⟩, rfl⟩)
            case measure => simp [intOf]; omega
      · clear QL
        go_wp2
        go_roundw
        case rel => first | exact ⟨(j : Int) - 1, by first | rfl | go_num, by omega, by omega, HB3⟩ | ((repeat apply Exists.intro); exact ⟨⟨(j : Int) - 1, by first | rfl | go_num, by omega, by omega, HB3⟩, rfl⟩)
        case measure => simp [intOf]; omega
    · obtain rfl : k = -1 := by omega
      have HE : Hid (lookE ((nplaces sc ([46] ++ fl)).find? (fz h seen kinds)) = lookE ([fl].find? (fz h seen kinds))) := by
        show _ = _
        rw [show nplaces sc ([46] ++ fl) = [fl] from places_dotted sc fl]
      have HBY : Hid (byts ([46] ++ fl)) := by
        show byts _
        intro c hc
        rcases List.mem_cons.1 hc with rfl | hc
        · omega
        · exact hfb.out c hc
      obtain ⟨T, hT⟩ : ∃ T, T = strOfNums ([46] ++ fl) := ⟨_, rfl⟩
      rw [← hT] at h3
      have HTT : Hid _ := hT
      have HLN : Hid (([46] ++ fl).length ≤ 3001) := by show _ ≤ _; simp; omega
      clear hT
      go_wp2
      go_ret
      exact ⟨HB.out, [46] ++ fl, by rw [← HTT.out]; rfl, HBY.out, HLN.out, HE.out⟩

set_option maxHeartbeats 1000000 in
theorem rfullS (S : ByteArray) (w : World) :
    Calls Tryz.prog 29 #[.string S] w fun e w' => ∃ b, e = .returned (.bool b) ∧ (b = true → S.size ≤ 1000) ∧ Below w.heap.size w w' := by
  by_cases hb : 1000 < S.size
  · have hb' : (1000 : Int) < (S.size : Int) := by omega
    clear hb
    go_enter Tryz.func29, Tryz.ntmps29
    go_wp2
    go_ret
    exact ⟨false, rfl, (fun e => by cases e), Below.refl _ _⟩
  · have q := rfull_any (numsOf S) w (show Hid _ from byts_get (numsOf_byts S)) (by rw [numsOf_len]; omega)
    rw [numsOf_str] at q
    exact q.mono fun e w' k => ⟨_, k.1, (fun _ => by omega), k.2⟩

set_option maxRecDepth 100000 in
set_option maxHeartbeats 2000000 in
theorem pfinds_walk (w0 : World) (a : Option Addr) (n c : Nat) (ms : List Md) (HS : Hid (Src w0 22 (.ls a n c ms) ∧ Nm (.ls a n c ms))) (HT : Hid (totL ms ≤ 1048576)) (S0 S1 : ByteArray) {sa : Option Addr} {sn sc : Nat} {seen : List ByteArray} (hs : Hid (Sb w0 sa sn sc seen)) {ka : Option Addr} {kn kc : Nat} {kinds : List Int} (hk : Hid (Ns w0 ka kn kc kinds)) :
    Calls Tryz.prog 8 #[.slice a n c, .string S0, .string S1, .slice sa sn sc, .slice ka kn kc] w0 fun e W' => e = .returned (.bool true) ∧ Below w0.heap.size w0 W' := by
  have QW : Hid _ := vawake_any w0
  have QFU : Hid _ := fun V => rfullS S1 V
  go_enter Tryz.func8, Tryz.ntmps8
  go_wp2_with fail
  refine Calls.mono QW.out ?_
  rintro e w1 ⟨rfl, hb1⟩
  have HB1 : Hid _ := hb1
  have QA : Hid _ := allF w0 w1 (show Hid _ from hb1) a n c ms HS
  clear hb1 QW
  go_wp2_with fail
  refine Calls.mono QA.out ?_
  rintro e w2 ⟨bb, rfl, hb2⟩
  have HB2 : Hid (Below w0.heap.size w0 w2) := HB1.out.trans (hb2.mono HB1.out.size)
  clear hb2 QA
  rcases bb with _ | _
  · go_wp2
    go_ret
    exact ⟨rfl, HB2.out⟩
  · by_cases hg0 : (300 : Int) < (S0.size : Int)
    · go_wp2
      go_ret
      exact ⟨rfl, HB2.out⟩
    · go_wp2_with fail
      refine Calls.mono (QFU.out _) ?_
      rintro e w2f ⟨bf, rfl, hbf, hb2f⟩
      have HBF : Hid (Below w0.heap.size w0 w2f) := HB2.out.trans (hb2f.mono HB2.out.size)
      have HZF : Hid (bf = true → S1.size ≤ 1000) := hbf
      clear hb2f hbf QFU
      rcases bf with _ | _
      · go_wp2
        go_ret
        exact ⟨rfl, HBF.out⟩
      · by_cases hg2 : (20 : Int) < (sn : Int)
        · go_wp2
          go_ret
          exact ⟨rfl, HBF.out⟩
        · by_cases hg3 : (20 : Int) < (kn : Int)
          · go_wp2
            go_ret
            exact ⟨rfl, HBF.out⟩
          · have HS2 : Hid (Src w2f 22 (.ls a n c ms) ∧ Nm (.ls a n c ms)) := ⟨HS.out.1.under' HBF.out, HS.out.2⟩
            have QB : Hid _ := bothF w2f a n c ms HS2 HT
            have HZ : Hid (S0.size ≤ 300 ∧ S1.size ≤ 1000) := ⟨by omega, HZF.out rfl⟩
            go_wp2_with fail
            refine Calls.mono QB.out ?_
            rintro e w3 ⟨hb3, hc3⟩
            have HB3 : Hid (Below w0.heap.size w0 w3) := HBF.out.trans (hb3.mono HBF.out.size)
            clear hb3 QB hg0 hg2 hg3
            rcases hc3 with rfl | ⟨bp, bs, be, vf, Z, h, B0, gp, hm, L, rfl, hbp, hpx, hzw, hB0, hrp, hsl, hlen, hsz⟩
            · go_wp2
              go_ret
              exact ⟨rfl, HB3.out⟩
            · have h3 : ∀ W, (Op.stringOp .add { data := #[46] } S1).run Tryz.prog W = .ok (.string (strOfNums ([46] ++ numsOf S1))) W := fun W => by
                have := run_add W [46] (numsOf S1) (by have := HZ.out.2; have := numsOf_len S1; simp; omega)
                rw [show strOfNums [46] = (⟨#[46]⟩ : ByteArray) from by kernel_rfl, numsOf_str] at this
                exact this
              have hby : byts ([46] ++ numsOf S1) := by
                intro c hc
                rcases List.mem_cons.1 hc with rfl | hc
                · omega
                · exact numsOf_byts S1 c hc
              have QR := rlook (show Hid _ from hrp) hlen (show Hid _ from hk.out.below HB3.out) (show Hid _ from hs.out.below HB3.out) [] ([46] ++ numsOf S1) (show Hid _ from by show byts []; unfold byts; simp) (show Hid _ from hby) (by simp) (by have := numsOf_len S1; have := HZ.out.2; simp; omega)
              rw [show strOfNums [] = (⟨#[]⟩ : ByteArray) from s09, hsl, show nplaces [] ([46] ++ numsOf S1) = [numsOf S1] from places_dotted [] (numsOf S1)] at QR
              have QS0 : Hid (∀ V, Below w3.heap.size w3 V → Calls Tryz.prog 31 #[.pointer (some ⟨bp, 0, none⟩), .string S0, .string S1, .slice sa sn sc, .slice ka kn kc] V fun e W' => ShE h seen kinds (numsOf S0) (numsOf S1) V e W') := fun V hV => by
                have hb := HB3.out.trans (hV.mono HB3.out.size)
                have q := pshort (show Hid _ from hpx.below hV (Nat.le_refl _)) (show Hid _ from hk.out.below hb) (show Hid _ from hs.out.below hb) (numsOf S0) (numsOf S1) (show Hid _ from numsOf_byts S0) (show Hid _ from numsOf_byts S1) (show Hid _ from by show _ ≤ _; rw [numsOf_len]; have := HZ.out.1; omega) (show Hid _ from by show _ ≤ _; rw [numsOf_len]; have := HZ.out.2; omega)
                rw [numsOf_str, numsOf_str] at q
                exact q
              have QL0 : Hid (∀ V t, Below w3.heap.size w3 V → byts t → t.length ≤ 3001 → Calls Tryz.prog 27 #[.pointer (some ⟨bp, 0, none⟩), .string S0, .string (strOfNums t), .slice sa sn sc, .slice ka kn kc] V fun e W' => e = lookE ((nplaces (numsOf S0) t).find? (fz h seen kinds)) ∧ Below V.heap.size V W') := fun V t hV ht hl => by
                have hb := HB3.out.trans (hV.mono HB3.out.size)
                have q := plook (show Hid _ from hpx.below hV (Nat.le_refl _)) (show Hid _ from hk.out.below hb) (show Hid _ from hs.out.below hb) (numsOf S0) t (show Hid _ from numsOf_byts S0) (show Hid _ from ht) (by rw [numsOf_len]; have := HZ.out.1; omega) (by omega)
                rw [numsOf_str] at q
                exact q
              generalize hRR : ([numsOf S1].find? (fz h seen kinds)) = RES at QR
              have HRR : Hid _ := hRR
              generalize strOfNums ([46] ++ numsOf S1) = DT at h3 QR
              clear hbp hpx hzw hB0 hrp hsl hlen hsz hs hk HZ hby hRR
              have QR : Hid _ := QR
              cases RES with
              | none =>
                simp only [lookE] at QR
                go_wp2_with fail
                refine Calls.mono QR.out ?_
                rintro e w4 ⟨rfl, hb4⟩
                have HB4 : Hid (Below w3.heap.size w3 w4) := hb4
                have QS : Hid _ := QS0.out w4 hb4
                clear hb4 QR QS0
                go_wp2_with fail
                refine Calls.mono QS.out ?_
                rintro e w5 ⟨hb5, t, rfl, ht1, ht2, ht3⟩
                have HB5 : Hid (Below w3.heap.size w3 w5) := HB4.out.trans (hb5.mono HB4.out.size)
                have QL := QL0.out w5 t HB5.out ht1 ht2
                rw [ht3, HRR.out] at QL
                simp only [lookE] at QL
                have QL : Hid _ := QL
                generalize strOfNums t = TT at *
                clear hb5 QS QL0 ht1 ht2 ht3
                go_wp2_with fail
                refine Calls.mono QL.out ?_
                rintro e w6 ⟨rfl, hb6⟩
                have HB6 : Hid (Below w0.heap.size w0 w6) := HB3.out.trans ((HB5.out.trans (hb6.mono HB5.out.size)).mono HB3.out.size)
                clear hb6 QL
                go_wp2
                go_ret
                exact ⟨rfl, HB6.out⟩
              | some z =>
                simp only [lookE] at QR
                generalize hZZ : strOfNums z = X at QR
                have HXX : Hid _ := hZZ
                have hxx : (X.toList == X.toList) = true := by simp
                clear hZZ
                go_wp2_with fail
                refine Calls.mono QR.out ?_
                rintro e w4 ⟨rfl, hb4⟩
                have HB4 : Hid (Below w3.heap.size w3 w4) := hb4
                have QS : Hid _ := QS0.out w4 hb4
                clear hb4 QR QS0
                go_wp2_with fail
                refine Calls.mono QS.out ?_
                rintro e w5 ⟨hb5, t, rfl, ht1, ht2, ht3⟩
                have HB5 : Hid (Below w3.heap.size w3 w5) := HB4.out.trans (hb5.mono HB4.out.size)
                have QL := QL0.out w5 t HB5.out ht1 ht2
                rw [ht3, HRR.out] at QL
                simp only [lookE, HXX.out] at QL
                have QL : Hid _ := QL
                generalize strOfNums t = TT at *
                clear hb5 QS QL0 ht1 ht2 ht3
                go_wp2_with fail
                refine Calls.mono QL.out ?_
                rintro e w6 ⟨rfl, hb6⟩
                have HB6 : Hid (Below w0.heap.size w0 w6) := HB3.out.trans ((HB5.out.trans (hb6.mono HB5.out.size)).mono HB3.out.size)
                clear hb6 QL
                go_wp2
                go_ret
                exact ⟨rfl, HB6.out⟩

end Go.Proofs.YtmhbjkoabbmfpaaGreat
