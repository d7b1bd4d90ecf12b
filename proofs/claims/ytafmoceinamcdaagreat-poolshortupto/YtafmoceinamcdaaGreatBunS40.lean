/- Put together by a program out of these texts of mine: NPd, VLg, VLh. -/
import Derived.Test.YtafmoceinamcdaaGreatBunS2
import Derived.Test.YtafmoceinamcdaaGreatBunS39

namespace Go.Proofs.YtafmoceinamcdaaGreat
open Go.RowKit
set_option linter.unusedVariables false
set_option linter.unusedSimpArgs false

def npl : List (List Int) := [[100, 111, 117, 98, 108, 101], [102, 108, 111, 97, 116], [105, 110, 116, 51, 50], [105, 110, 116, 54, 52], [117, 105, 110, 116, 51, 50], [117, 105, 110, 116, 54, 52], [115, 105, 110, 116, 51, 50], [115, 105, 110, 116, 54, 52], [102, 105, 120, 101, 100, 51, 50], [102, 105, 120, 101, 100, 54, 52], [115, 102, 105, 120, 101, 100, 51, 50], [115, 102, 105, 120, 101, 100, 54, 52], [98, 111, 111, 108], [115, 116, 114, 105, 110, 103], [98, 121, 116, 101, 115]]

theorem nwf_none (s : List Int) : ∀ (l : List (List Int)) (k : Nat), s ∉ l → nwf s l k = 0
  | [], k, _ => rfl
  | z :: r, k, h => by
    rw [nwf, if_neg (fun e => h (by rw [← e.2]; simp)), nwf_none s r (k + 1) (fun e => h (List.mem_cons_of_mem _ e))]

theorem npl_word (s : List Int) : decide (nword s ≠ 0) = decide (s ∈ npl) := by
  by_cases h : s ∈ npl
  · rw [decide_eq_true h, decide_eq_true_eq]
    have all : ∀ z ∈ npl, nword z ≠ 0 := by decide
    exact all s h
  · rw [decide_eq_false h, decide_eq_false_iff_not]
    intro hn
    apply hn
    unfold nword
    by_cases h0 : s = []
    · subst h0; decide
    · refine nwf_none s nwords 0 (fun hm => ?_)
      have all : ∀ z ∈ nwords, z = [] ∨ z ∈ npl := by decide
      rcases all s hm with e | e
      · exact h0 e
      · exact h e

theorem weq (s t : List Int) (hs : byts s) (ht : byts t) (L : List UInt8) (hL : (strOfNums t).toList = L) (h : s ≠ t) : ((strOfNums s).toList == L) = false := by
  rw [← hL, str_eq hs ht]
  simpa using h

theorem str_lit (t : List Int) (L : List UInt8) (h : (t.map fun n => UInt8.ofNat n.toNat) = L) : (strOfNums t).toList = L := by rw [str_list, h]

set_option maxHeartbeats 4000000 in
theorem pplain_any (s : List Int) (w : World) (hs : Hid (byts s)) :
    Calls Tryz.prog 115 #[.string (strOfNums s)] w fun e w' => e = .returned (.bool (decide (s ∈ npl))) ∧ w = w' := by
  by_cases k0 : s = [100, 111, 117, 98, 108, 101]
  · have e0 : ((strOfNums s).toList == [100, 111, 117, 98, 108, 101]) = true := by rw [k0, str_lit _ [100, 111, 117, 98, 108, 101] rfl]; rfl
    have E : Hid (decide (s ∈ npl) = true) := decide_eq_true (by rw [k0]; decide)
    clear k0
    generalize strOfNums s = S at *
    go_enter Tryz.func115, Tryz.ntmps115
    go_wp2
    go_ret
    exact ⟨by rw [E.out]; rfl, rfl⟩
  have e0 : ((strOfNums s).toList == [100, 111, 117, 98, 108, 101]) = false := weq s _ hs.out (by unfold byts; decide) _ (str_lit _ [100, 111, 117, 98, 108, 101] rfl) k0
  by_cases k1 : s = [102, 108, 111, 97, 116]
  · have e1 : ((strOfNums s).toList == [102, 108, 111, 97, 116]) = true := by rw [k1, str_lit _ [102, 108, 111, 97, 116] rfl]; rfl
    have E : Hid (decide (s ∈ npl) = true) := decide_eq_true (by rw [k1]; decide)
    clear k1
    generalize strOfNums s = S at *
    go_enter Tryz.func115, Tryz.ntmps115
    go_wp2
    go_ret
    exact ⟨by rw [E.out]; rfl, rfl⟩
  have e1 : ((strOfNums s).toList == [102, 108, 111, 97, 116]) = false := weq s _ hs.out (by unfold byts; decide) _ (str_lit _ [102, 108, 111, 97, 116] rfl) k1
  by_cases k2 : s = [105, 110, 116, 51, 50]
  · have e2 : ((strOfNums s).toList == [105, 110, 116, 51, 50]) = true := by rw [k2, str_lit _ [105, 110, 116, 51, 50] rfl]; rfl
    have E : Hid (decide (s ∈ npl) = true) := decide_eq_true (by rw [k2]; decide)
    clear k2
    generalize strOfNums s = S at *
    go_enter Tryz.func115, Tryz.ntmps115
    go_wp2
    go_ret
    exact ⟨by rw [E.out]; rfl, rfl⟩
  have e2 : ((strOfNums s).toList == [105, 110, 116, 51, 50]) = false := weq s _ hs.out (by unfold byts; decide) _ (str_lit _ [105, 110, 116, 51, 50] rfl) k2
  by_cases k3 : s = [105, 110, 116, 54, 52]
  · have e3 : ((strOfNums s).toList == [105, 110, 116, 54, 52]) = true := by rw [k3, str_lit _ [105, 110, 116, 54, 52] rfl]; rfl
    have E : Hid (decide (s ∈ npl) = true) := decide_eq_true (by rw [k3]; decide)
    clear k3
    generalize strOfNums s = S at *
    go_enter Tryz.func115, Tryz.ntmps115
    go_wp2
    go_ret
    exact ⟨by rw [E.out]; rfl, rfl⟩
  have e3 : ((strOfNums s).toList == [105, 110, 116, 54, 52]) = false := weq s _ hs.out (by unfold byts; decide) _ (str_lit _ [105, 110, 116, 54, 52] rfl) k3
  by_cases k4 : s = [117, 105, 110, 116, 51, 50]
  · have e4 : ((strOfNums s).toList == [117, 105, 110, 116, 51, 50]) = true := by rw [k4, str_lit _ [117, 105, 110, 116, 51, 50] rfl]; rfl
    have E : Hid (decide (s ∈ npl) = true) := decide_eq_true (by rw [k4]; decide)
    clear k4
    generalize strOfNums s = S at *
    go_enter Tryz.func115, Tryz.ntmps115
    go_wp2
    go_ret
    exact ⟨by rw [E.out]; rfl, rfl⟩
  have e4 : ((strOfNums s).toList == [117, 105, 110, 116, 51, 50]) = false := weq s _ hs.out (by unfold byts; decide) _ (str_lit _ [117, 105, 110, 116, 51, 50] rfl) k4
  by_cases k5 : s = [117, 105, 110, 116, 54, 52]
  · have e5 : ((strOfNums s).toList == [117, 105, 110, 116, 54, 52]) = true := by rw [k5, str_lit _ [117, 105, 110, 116, 54, 52] rfl]; rfl
    have E : Hid (decide (s ∈ npl) = true) := decide_eq_true (by rw [k5]; decide)
    clear k5
    generalize strOfNums s = S at *
    go_enter Tryz.func115, Tryz.ntmps115
    go_wp2
    go_ret
    exact ⟨by rw [E.out]; rfl, rfl⟩
  have e5 : ((strOfNums s).toList == [117, 105, 110, 116, 54, 52]) = false := weq s _ hs.out (by unfold byts; decide) _ (str_lit _ [117, 105, 110, 116, 54, 52] rfl) k5
  by_cases k6 : s = [115, 105, 110, 116, 51, 50]
  · have e6 : ((strOfNums s).toList == [115, 105, 110, 116, 51, 50]) = true := by rw [k6, str_lit _ [115, 105, 110, 116, 51, 50] rfl]; rfl
    have E : Hid (decide (s ∈ npl) = true) := decide_eq_true (by rw [k6]; decide)
    clear k6
    generalize strOfNums s = S at *
    go_enter Tryz.func115, Tryz.ntmps115
    go_wp2
    go_ret
    exact ⟨by rw [E.out]; rfl, rfl⟩
  have e6 : ((strOfNums s).toList == [115, 105, 110, 116, 51, 50]) = false := weq s _ hs.out (by unfold byts; decide) _ (str_lit _ [115, 105, 110, 116, 51, 50] rfl) k6
  by_cases k7 : s = [115, 105, 110, 116, 54, 52]
  · have e7 : ((strOfNums s).toList == [115, 105, 110, 116, 54, 52]) = true := by rw [k7, str_lit _ [115, 105, 110, 116, 54, 52] rfl]; rfl
    have E : Hid (decide (s ∈ npl) = true) := decide_eq_true (by rw [k7]; decide)
    clear k7
    generalize strOfNums s = S at *
    go_enter Tryz.func115, Tryz.ntmps115
    go_wp2
    go_ret
    exact ⟨by rw [E.out]; rfl, rfl⟩
  have e7 : ((strOfNums s).toList == [115, 105, 110, 116, 54, 52]) = false := weq s _ hs.out (by unfold byts; decide) _ (str_lit _ [115, 105, 110, 116, 54, 52] rfl) k7
  by_cases k8 : s = [102, 105, 120, 101, 100, 51, 50]
  · have e8 : ((strOfNums s).toList == [102, 105, 120, 101, 100, 51, 50]) = true := by rw [k8, str_lit _ [102, 105, 120, 101, 100, 51, 50] rfl]; rfl
    have E : Hid (decide (s ∈ npl) = true) := decide_eq_true (by rw [k8]; decide)
    clear k8
    generalize strOfNums s = S at *
    go_enter Tryz.func115, Tryz.ntmps115
    go_wp2
    go_ret
    exact ⟨by rw [E.out]; rfl, rfl⟩
  have e8 : ((strOfNums s).toList == [102, 105, 120, 101, 100, 51, 50]) = false := weq s _ hs.out (by unfold byts; decide) _ (str_lit _ [102, 105, 120, 101, 100, 51, 50] rfl) k8
  by_cases k9 : s = [102, 105, 120, 101, 100, 54, 52]
  · have e9 : ((strOfNums s).toList == [102, 105, 120, 101, 100, 54, 52]) = true := by rw [k9, str_lit _ [102, 105, 120, 101, 100, 54, 52] rfl]; rfl
    have E : Hid (decide (s ∈ npl) = true) := decide_eq_true (by rw [k9]; decide)
    clear k9
    generalize strOfNums s = S at *
    go_enter Tryz.func115, Tryz.ntmps115
    go_wp2
    go_ret
    exact ⟨by rw [E.out]; rfl, rfl⟩
  have e9 : ((strOfNums s).toList == [102, 105, 120, 101, 100, 54, 52]) = false := weq s _ hs.out (by unfold byts; decide) _ (str_lit _ [102, 105, 120, 101, 100, 54, 52] rfl) k9
  by_cases k10 : s = [115, 102, 105, 120, 101, 100, 51, 50]
  · have e10 : ((strOfNums s).toList == [115, 102, 105, 120, 101, 100, 51, 50]) = true := by rw [k10, str_lit _ [115, 102, 105, 120, 101, 100, 51, 50] rfl]; rfl
    have E : Hid (decide (s ∈ npl) = true) := decide_eq_true (by rw [k10]; decide)
    clear k10
    generalize strOfNums s = S at *
    go_enter Tryz.func115, Tryz.ntmps115
    go_wp2
    go_ret
    exact ⟨by rw [E.out]; rfl, rfl⟩
  have e10 : ((strOfNums s).toList == [115, 102, 105, 120, 101, 100, 51, 50]) = false := weq s _ hs.out (by unfold byts; decide) _ (str_lit _ [115, 102, 105, 120, 101, 100, 51, 50] rfl) k10
  by_cases k11 : s = [115, 102, 105, 120, 101, 100, 54, 52]
  · have e11 : ((strOfNums s).toList == [115, 102, 105, 120, 101, 100, 54, 52]) = true := by rw [k11, str_lit _ [115, 102, 105, 120, 101, 100, 54, 52] rfl]; rfl
    have E : Hid (decide (s ∈ npl) = true) := decide_eq_true (by rw [k11]; decide)
    clear k11
    generalize strOfNums s = S at *
    go_enter Tryz.func115, Tryz.ntmps115
    go_wp2
    go_ret
    exact ⟨by rw [E.out]; rfl, rfl⟩
  have e11 : ((strOfNums s).toList == [115, 102, 105, 120, 101, 100, 54, 52]) = false := weq s _ hs.out (by unfold byts; decide) _ (str_lit _ [115, 102, 105, 120, 101, 100, 54, 52] rfl) k11
  by_cases k12 : s = [98, 111, 111, 108]
  · have e12 : ((strOfNums s).toList == [98, 111, 111, 108]) = true := by rw [k12, str_lit _ [98, 111, 111, 108] rfl]; rfl
    have E : Hid (decide (s ∈ npl) = true) := decide_eq_true (by rw [k12]; decide)
    clear k12
    generalize strOfNums s = S at *
    go_enter Tryz.func115, Tryz.ntmps115
    go_wp2
    go_ret
    exact ⟨by rw [E.out]; rfl, rfl⟩
  have e12 : ((strOfNums s).toList == [98, 111, 111, 108]) = false := weq s _ hs.out (by unfold byts; decide) _ (str_lit _ [98, 111, 111, 108] rfl) k12
  by_cases k13 : s = [115, 116, 114, 105, 110, 103]
  · have e13 : ((strOfNums s).toList == [115, 116, 114, 105, 110, 103]) = true := by rw [k13, str_lit _ [115, 116, 114, 105, 110, 103] rfl]; rfl
    have E : Hid (decide (s ∈ npl) = true) := decide_eq_true (by rw [k13]; decide)
    clear k13
    generalize strOfNums s = S at *
    go_enter Tryz.func115, Tryz.ntmps115
    go_wp2
    go_ret
    exact ⟨by rw [E.out]; rfl, rfl⟩
  have e13 : ((strOfNums s).toList == [115, 116, 114, 105, 110, 103]) = false := weq s _ hs.out (by unfold byts; decide) _ (str_lit _ [115, 116, 114, 105, 110, 103] rfl) k13
  by_cases k14 : s = [98, 121, 116, 101, 115]
  · have e14 : ((strOfNums s).toList == [98, 121, 116, 101, 115]) = true := by rw [k14, str_lit _ [98, 121, 116, 101, 115] rfl]; rfl
    have E : Hid (decide (s ∈ npl) = true) := decide_eq_true (by rw [k14]; decide)
    clear k14
    generalize strOfNums s = S at *
    go_enter Tryz.func115, Tryz.ntmps115
    go_wp2
    go_ret
    exact ⟨by rw [E.out]; rfl, rfl⟩
  have e14 : ((strOfNums s).toList == [98, 121, 116, 101, 115]) = false := weq s _ hs.out (by unfold byts; decide) _ (str_lit _ [98, 121, 116, 101, 115] rfl) k14
  have E : Hid (decide (s ∈ npl) = false) := decide_eq_false (fun h => by
    simp only [npl, List.mem_cons, List.not_mem_nil, or_false, k0, k1, k2, k3, k4, k5, k6, k7, k8, k9, k10, k11, k12, k13, k14] at h)
  clear k0 k1 k2 k3 k4 k5 k6 k7 k8 k9 k10 k11 k12 k13 k14
  generalize strOfNums s = S at *
  go_enter Tryz.func115, Tryz.ntmps115
  go_wp2
  go_ret
  exact ⟨by rw [E.out]; rfl, rfl⟩

set_option maxHeartbeats 4000000 in
theorem pkey_any (s : List Int) (w : World) (hT : Hid (NTab w)) (hz : Hid (∀ i, 0 ≤ s.getD i 0 ∧ s.getD i 0 ≤ 255)) (hlen : (s.length : Int) ≤ 100000) :
    Calls Tryz.prog 66 #[.string (strOfNums s)] w fun e w' => e = .returned (.bool (nkey s)) ∧ Below w.heap.size w w' := by
  have hs : Hid (byts s) := mem_bd hz.out
  have q := fun W => pplain_any s W hs
  have Q : Hid _ := q
  clear q
  by_cases k0 : s = [109, 101, 115, 115, 97, 103, 101]
  · have e0 : ((strOfNums s).toList == [109, 101, 115, 115, 97, 103, 101]) = true := by rw [k0, str_lit _ [109, 101, 115, 115, 97, 103, 101] rfl]; rfl
    have E : Hid (nkey s = true) := by show _ = _; unfold nkey; rw [decide_eq_true (by rw [k0]; decide)]; rfl
    clear k0
    clear Q
    generalize strOfNums s = S at *
    go_enter Tryz.func66, Tryz.ntmps66
    go_wp2
    go_ret
    exact ⟨by rw [E.out]; rfl, Below.refl _ _⟩
  have e0 : ((strOfNums s).toList == [109, 101, 115, 115, 97, 103, 101]) = false := weq s _ hs.out (by unfold byts; decide) _ (str_lit _ [109, 101, 115, 115, 97, 103, 101] rfl) k0
  by_cases k1 : s = [101, 110, 117, 109]
  · have e1 : ((strOfNums s).toList == [101, 110, 117, 109]) = true := by rw [k1, str_lit _ [101, 110, 117, 109] rfl]; rfl
    have E : Hid (nkey s = true) := by show _ = _; unfold nkey; rw [decide_eq_true (by rw [k1]; decide)]; rfl
    clear k1
    clear Q
    generalize strOfNums s = S at *
    go_enter Tryz.func66, Tryz.ntmps66
    go_wp2
    go_ret
    exact ⟨by rw [E.out]; rfl, Below.refl _ _⟩
  have e1 : ((strOfNums s).toList == [101, 110, 117, 109]) = false := weq s _ hs.out (by unfold byts; decide) _ (str_lit _ [101, 110, 117, 109] rfl) k1
  by_cases k2 : s = [101, 120, 116, 101, 110, 100]
  · have e2 : ((strOfNums s).toList == [101, 120, 116, 101, 110, 100]) = true := by rw [k2, str_lit _ [101, 120, 116, 101, 110, 100] rfl]; rfl
    have E : Hid (nkey s = true) := by show _ = _; unfold nkey; rw [decide_eq_true (by rw [k2]; decide)]; rfl
    clear k2
    clear Q
    generalize strOfNums s = S at *
    go_enter Tryz.func66, Tryz.ntmps66
    go_wp2
    go_ret
    exact ⟨by rw [E.out]; rfl, Below.refl _ _⟩
  have e2 : ((strOfNums s).toList == [101, 120, 116, 101, 110, 100]) = false := weq s _ hs.out (by unfold byts; decide) _ (str_lit _ [101, 120, 116, 101, 110, 100] rfl) k2
  by_cases k3 : s = [101, 120, 116, 101, 110, 115, 105, 111, 110, 115]
  · have e3 : ((strOfNums s).toList == [101, 120, 116, 101, 110, 115, 105, 111, 110, 115]) = true := by rw [k3, str_lit _ [101, 120, 116, 101, 110, 115, 105, 111, 110, 115] rfl]; rfl
    have E : Hid (nkey s = true) := by show _ = _; unfold nkey; rw [decide_eq_true (by rw [k3]; decide)]; rfl
    clear k3
    clear Q
    generalize strOfNums s = S at *
    go_enter Tryz.func66, Tryz.ntmps66
    go_wp2
    go_ret
    exact ⟨by rw [E.out]; rfl, Below.refl _ _⟩
  have e3 : ((strOfNums s).toList == [101, 120, 116, 101, 110, 115, 105, 111, 110, 115]) = false := weq s _ hs.out (by unfold byts; decide) _ (str_lit _ [101, 120, 116, 101, 110, 115, 105, 111, 110, 115] rfl) k3
  by_cases k4 : s = [111, 112, 116, 105, 111, 110]
  · have e4 : ((strOfNums s).toList == [111, 112, 116, 105, 111, 110]) = true := by rw [k4, str_lit _ [111, 112, 116, 105, 111, 110] rfl]; rfl
    have E : Hid (nkey s = true) := by show _ = _; unfold nkey; rw [decide_eq_true (by rw [k4]; decide)]; rfl
    clear k4
    clear Q
    generalize strOfNums s = S at *
    go_enter Tryz.func66, Tryz.ntmps66
    go_wp2
    go_ret
    exact ⟨by rw [E.out]; rfl, Below.refl _ _⟩
  have e4 : ((strOfNums s).toList == [111, 112, 116, 105, 111, 110]) = false := weq s _ hs.out (by unfold byts; decide) _ (str_lit _ [111, 112, 116, 105, 111, 110] rfl) k4
  by_cases k5 : s = [111, 110, 101, 111, 102]
  · have e5 : ((strOfNums s).toList == [111, 110, 101, 111, 102]) = true := by rw [k5, str_lit _ [111, 110, 101, 111, 102] rfl]; rfl
    have E : Hid (nkey s = true) := by show _ = _; unfold nkey; rw [decide_eq_true (by rw [k5]; decide)]; rfl
    clear k5
    clear Q
    generalize strOfNums s = S at *
    go_enter Tryz.func66, Tryz.ntmps66
    go_wp2
    go_ret
    exact ⟨by rw [E.out]; rfl, Below.refl _ _⟩
  have e5 : ((strOfNums s).toList == [111, 110, 101, 111, 102]) = false := weq s _ hs.out (by unfold byts; decide) _ (str_lit _ [111, 110, 101, 111, 102] rfl) k5
  by_cases k6 : s = [109, 97, 112]
  · have e6 : ((strOfNums s).toList == [109, 97, 112]) = true := by rw [k6, str_lit _ [109, 97, 112] rfl]; rfl
    have E : Hid (nkey s = true) := by show _ = _; unfold nkey; rw [decide_eq_true (by rw [k6]; decide)]; rfl
    clear k6
    clear Q
    generalize strOfNums s = S at *
    go_enter Tryz.func66, Tryz.ntmps66
    go_wp2
    go_ret
    exact ⟨by rw [E.out]; rfl, Below.refl _ _⟩
  have e6 : ((strOfNums s).toList == [109, 97, 112]) = false := weq s _ hs.out (by unfold byts; decide) _ (str_lit _ [109, 97, 112] rfl) k6
  by_cases k7 : s = [114, 101, 115, 101, 114, 118, 101, 100]
  · have e7 : ((strOfNums s).toList == [114, 101, 115, 101, 114, 118, 101, 100]) = true := by rw [k7, str_lit _ [114, 101, 115, 101, 114, 118, 101, 100] rfl]; rfl
    have E : Hid (nkey s = true) := by show _ = _; unfold nkey; rw [decide_eq_true (by rw [k7]; decide)]; rfl
    clear k7
    clear Q
    generalize strOfNums s = S at *
    go_enter Tryz.func66, Tryz.ntmps66
    go_wp2
    go_ret
    exact ⟨by rw [E.out]; rfl, Below.refl _ _⟩
  have e7 : ((strOfNums s).toList == [114, 101, 115, 101, 114, 118, 101, 100]) = false := weq s _ hs.out (by unfold byts; decide) _ (str_lit _ [114, 101, 115, 101, 114, 118, 101, 100] rfl) k7
  by_cases k8 : s = [111, 112, 116, 105, 111, 110, 97, 108]
  · have e8 : ((strOfNums s).toList == [111, 112, 116, 105, 111, 110, 97, 108]) = true := by rw [k8, str_lit _ [111, 112, 116, 105, 111, 110, 97, 108] rfl]; rfl
    have E : Hid (nkey s = true) := by show _ = _; unfold nkey; rw [decide_eq_true (by rw [k8]; decide)]; rfl
    clear k8
    clear Q
    generalize strOfNums s = S at *
    go_enter Tryz.func66, Tryz.ntmps66
    go_wp2
    go_ret
    exact ⟨by rw [E.out]; rfl, Below.refl _ _⟩
  have e8 : ((strOfNums s).toList == [111, 112, 116, 105, 111, 110, 97, 108]) = false := weq s _ hs.out (by unfold byts; decide) _ (str_lit _ [111, 112, 116, 105, 111, 110, 97, 108] rfl) k8
  by_cases k9 : s = [114, 101, 113, 117, 105, 114, 101, 100]
  · have e9 : ((strOfNums s).toList == [114, 101, 113, 117, 105, 114, 101, 100]) = true := by rw [k9, str_lit _ [114, 101, 113, 117, 105, 114, 101, 100] rfl]; rfl
    have E : Hid (nkey s = true) := by show _ = _; unfold nkey; rw [decide_eq_true (by rw [k9]; decide)]; rfl
    clear k9
    clear Q
    generalize strOfNums s = S at *
    go_enter Tryz.func66, Tryz.ntmps66
    go_wp2
    go_ret
    exact ⟨by rw [E.out]; rfl, Below.refl _ _⟩
  have e9 : ((strOfNums s).toList == [114, 101, 113, 117, 105, 114, 101, 100]) = false := weq s _ hs.out (by unfold byts; decide) _ (str_lit _ [114, 101, 113, 117, 105, 114, 101, 100] rfl) k9
  by_cases k10 : s = [114, 101, 112, 101, 97, 116, 101, 100]
  · have e10 : ((strOfNums s).toList == [114, 101, 112, 101, 97, 116, 101, 100]) = true := by rw [k10, str_lit _ [114, 101, 112, 101, 97, 116, 101, 100] rfl]; rfl
    have E : Hid (nkey s = true) := by show _ = _; unfold nkey; rw [decide_eq_true (by rw [k10]; decide)]; rfl
    clear k10
    clear Q
    generalize strOfNums s = S at *
    go_enter Tryz.func66, Tryz.ntmps66
    go_wp2
    go_ret
    exact ⟨by rw [E.out]; rfl, Below.refl _ _⟩
  have e10 : ((strOfNums s).toList == [114, 101, 112, 101, 97, 116, 101, 100]) = false := weq s _ hs.out (by unfold byts; decide) _ (str_lit _ [114, 101, 112, 101, 97, 116, 101, 100] rfl) k10
  by_cases k11 : s = [114, 112, 99]
  · have e11 : ((strOfNums s).toList == [114, 112, 99]) = true := by rw [k11, str_lit _ [114, 112, 99] rfl]; rfl
    have E : Hid (nkey s = true) := by show _ = _; unfold nkey; rw [decide_eq_true (by rw [k11]; decide)]; rfl
    clear k11
    clear Q
    generalize strOfNums s = S at *
    go_enter Tryz.func66, Tryz.ntmps66
    go_wp2
    go_ret
    exact ⟨by rw [E.out]; rfl, Below.refl _ _⟩
  have e11 : ((strOfNums s).toList == [114, 112, 99]) = false := weq s _ hs.out (by unfold byts; decide) _ (str_lit _ [114, 112, 99] rfl) k11
  by_cases k12 : s = [115, 101, 114, 118, 105, 99, 101]
  · have e12 : ((strOfNums s).toList == [115, 101, 114, 118, 105, 99, 101]) = true := by rw [k12, str_lit _ [115, 101, 114, 118, 105, 99, 101] rfl]; rfl
    have E : Hid (nkey s = true) := by show _ = _; unfold nkey; rw [decide_eq_true (by rw [k12]; decide)]; rfl
    clear k12
    clear Q
    generalize strOfNums s = S at *
    go_enter Tryz.func66, Tryz.ntmps66
    go_wp2
    go_ret
    exact ⟨by rw [E.out]; rfl, Below.refl _ _⟩
  have e12 : ((strOfNums s).toList == [115, 101, 114, 118, 105, 99, 101]) = false := weq s _ hs.out (by unfold byts; decide) _ (str_lit _ [115, 101, 114, 118, 105, 99, 101] rfl) k12
  by_cases k13 : s = [105, 109, 112, 111, 114, 116]
  · have e13 : ((strOfNums s).toList == [105, 109, 112, 111, 114, 116]) = true := by rw [k13, str_lit _ [105, 109, 112, 111, 114, 116] rfl]; rfl
    have E : Hid (nkey s = true) := by show _ = _; unfold nkey; rw [decide_eq_true (by rw [k13]; decide)]; rfl
    clear k13
    clear Q
    generalize strOfNums s = S at *
    go_enter Tryz.func66, Tryz.ntmps66
    go_wp2
    go_ret
    exact ⟨by rw [E.out]; rfl, Below.refl _ _⟩
  have e13 : ((strOfNums s).toList == [105, 109, 112, 111, 114, 116]) = false := weq s _ hs.out (by unfold byts; decide) _ (str_lit _ [105, 109, 112, 111, 114, 116] rfl) k13
  by_cases k14 : s = [112, 97, 99, 107, 97, 103, 101]
  · have e14 : ((strOfNums s).toList == [112, 97, 99, 107, 97, 103, 101]) = true := by rw [k14, str_lit _ [112, 97, 99, 107, 97, 103, 101] rfl]; rfl
    have E : Hid (nkey s = true) := by show _ = _; unfold nkey; rw [decide_eq_true (by rw [k14]; decide)]; rfl
    clear k14
    clear Q
    generalize strOfNums s = S at *
    go_enter Tryz.func66, Tryz.ntmps66
    go_wp2
    go_ret
    exact ⟨by rw [E.out]; rfl, Below.refl _ _⟩
  have e14 : ((strOfNums s).toList == [112, 97, 99, 107, 97, 103, 101]) = false := weq s _ hs.out (by unfold byts; decide) _ (str_lit _ [112, 97, 99, 107, 97, 103, 101] rfl) k14
  by_cases k15 : s = [115, 121, 110, 116, 97, 120]
  · have e15 : ((strOfNums s).toList == [115, 121, 110, 116, 97, 120]) = true := by rw [k15, str_lit _ [115, 121, 110, 116, 97, 120] rfl]; rfl
    have E : Hid (nkey s = true) := by show _ = _; unfold nkey; rw [decide_eq_true (by rw [k15]; decide)]; rfl
    clear k15
    clear Q
    generalize strOfNums s = S at *
    go_enter Tryz.func66, Tryz.ntmps66
    go_wp2
    go_ret
    exact ⟨by rw [E.out]; rfl, Below.refl _ _⟩
  have e15 : ((strOfNums s).toList == [115, 121, 110, 116, 97, 120]) = false := weq s _ hs.out (by unfold byts; decide) _ (str_lit _ [115, 121, 110, 116, 97, 120] rfl) k15
  by_cases k16 : s = [115, 116, 114, 101, 97, 109]
  · have e16 : ((strOfNums s).toList == [115, 116, 114, 101, 97, 109]) = true := by rw [k16, str_lit _ [115, 116, 114, 101, 97, 109] rfl]; rfl
    have E : Hid (nkey s = true) := by show _ = _; unfold nkey; rw [decide_eq_true (by rw [k16]; decide)]; rfl
    clear k16
    clear Q
    generalize strOfNums s = S at *
    go_enter Tryz.func66, Tryz.ntmps66
    go_wp2
    go_ret
    exact ⟨by rw [E.out]; rfl, Below.refl _ _⟩
  have e16 : ((strOfNums s).toList == [115, 116, 114, 101, 97, 109]) = false := weq s _ hs.out (by unfold byts; decide) _ (str_lit _ [115, 116, 114, 101, 97, 109] rfl) k16
  by_cases k17 : s = [114, 101, 116, 117, 114, 110, 115]
  · have e17 : ((strOfNums s).toList == [114, 101, 116, 117, 114, 110, 115]) = true := by rw [k17, str_lit _ [114, 101, 116, 117, 114, 110, 115] rfl]; rfl
    have E : Hid (nkey s = true) := by show _ = _; unfold nkey; rw [decide_eq_true (by rw [k17]; decide)]; rfl
    clear k17
    clear Q
    generalize strOfNums s = S at *
    go_enter Tryz.func66, Tryz.ntmps66
    go_wp2
    go_ret
    exact ⟨by rw [E.out]; rfl, Below.refl _ _⟩
  have e17 : ((strOfNums s).toList == [114, 101, 116, 117, 114, 110, 115]) = false := weq s _ hs.out (by unfold byts; decide) _ (str_lit _ [114, 101, 116, 117, 114, 110, 115] rfl) k17
  by_cases k18 : s = [116, 111]
  · have e18 : ((strOfNums s).toList == [116, 111]) = true := by rw [k18, str_lit _ [116, 111] rfl]; rfl
    have E : Hid (nkey s = true) := by show _ = _; unfold nkey; rw [decide_eq_true (by rw [k18]; decide)]; rfl
    clear k18
    clear Q
    generalize strOfNums s = S at *
    go_enter Tryz.func66, Tryz.ntmps66
    go_wp2
    go_ret
    exact ⟨by rw [E.out]; rfl, Below.refl _ _⟩
  have e18 : ((strOfNums s).toList == [116, 111]) = false := weq s _ hs.out (by unfold byts; decide) _ (str_lit _ [116, 111] rfl) k18
  by_cases k19 : s = [109, 97, 120]
  · have e19 : ((strOfNums s).toList == [109, 97, 120]) = true := by rw [k19, str_lit _ [109, 97, 120] rfl]; rfl
    have E : Hid (nkey s = true) := by show _ = _; unfold nkey; rw [decide_eq_true (by rw [k19]; decide)]; rfl
    clear k19
    clear Q
    generalize strOfNums s = S at *
    go_enter Tryz.func66, Tryz.ntmps66
    go_wp2
    go_ret
    exact ⟨by rw [E.out]; rfl, Below.refl _ _⟩
  have e19 : ((strOfNums s).toList == [109, 97, 120]) = false := weq s _ hs.out (by unfold byts; decide) _ (str_lit _ [109, 97, 120] rfl) k19
  by_cases k20 : s = [112, 117, 98, 108, 105, 99]
  · have e20 : ((strOfNums s).toList == [112, 117, 98, 108, 105, 99]) = true := by rw [k20, str_lit _ [112, 117, 98, 108, 105, 99] rfl]; rfl
    have E : Hid (nkey s = true) := by show _ = _; unfold nkey; rw [decide_eq_true (by rw [k20]; decide)]; rfl
    clear k20
    clear Q
    generalize strOfNums s = S at *
    go_enter Tryz.func66, Tryz.ntmps66
    go_wp2
    go_ret
    exact ⟨by rw [E.out]; rfl, Below.refl _ _⟩
  have e20 : ((strOfNums s).toList == [112, 117, 98, 108, 105, 99]) = false := weq s _ hs.out (by unfold byts; decide) _ (str_lit _ [112, 117, 98, 108, 105, 99] rfl) k20
  have E : Hid (nkey s = decide (s ∈ npl)) := by
    show _ = _
    unfold nkey
    rw [decide_eq_false (p := s ∈ nkeys) (fun h => by simp only [nkeys, List.mem_cons, List.not_mem_nil, or_false, k0, k1, k2, k3, k4, k5, k6, k7, k8, k9, k10, k11, k12, k13, k14, k15, k16, k17, k18, k19, k20] at h), Bool.false_or, npl_word]
  clear k0 k1 k2 k3 k4 k5 k6 k7 k8 k9 k10 k11 k12 k13 k14 k15 k16 k17 k18 k19 k20
  generalize decide (s ∈ npl) = b at Q E
  generalize strOfNums s = S at *
  go_enter Tryz.func66, Tryz.ntmps66
  go_wp2_with fail
  refine Calls.mono (Q.out _) ?_
  rintro e w1 ⟨rfl, rfl⟩
  go_wp2
  go_ret
  exact ⟨by rw [E.out]; rfl, Below.refl _ _⟩

theorem plastidx (s : List Int) (hz : byts s) (hl : s.length ≤ 100000) (W : World) :
    Calls Tryz.prog 64 #[.string (strOfNums s), .string { data := #[46] }] W fun e w' => e = .returned (.int .i64 ((nlast s s.length : Int) - 1)) ∧ W = w' := by
  have hsz := strOfNums_size s
  have q := Sh.strings_LastIndex_one (strOfNums s) { data := #[46] } rfl (by omega) W
  have he : Lib.lastIndexByte (strOfNums s) (((({ data := #[46] } : ByteArray)[0]'(by decide)).toNat : Nat) : Int) = (nlast s s.length : Int) - 1 := by
    show Lib.lastIdx (strOfNums s) 46 (strOfNums s).size = _
    rw [hsz]
    exact last_dot s (byts_get hz) s.length (Nat.le_refl _)
  rw [← he]
  exact Calls.mono q (fun e w h => ⟨h.1, h.2.symm⟩)

set_option maxHeartbeats 1000000 in
theorem rfullS (S : ByteArray) (w : World) :
    Calls Tryz.prog 29 #[.string S] w fun e w' => ∃ b, e = .returned (.bool b) ∧ (b = true → S.size ≤ 1000) ∧ Below w.heap.size w w' := by
  by_cases hb : 1000 < S.size
  · have hb' : (1000 : Int) < (S.size : Int) := by omega
    clear hb
    go_enter Tryz.func29, Tryz.ntmps29
    go_wp2
    go_ret
    exact ⟨false, rfl, (fun e => by cases e), Below.refl _ _⟩
  · have q := rfull_any (numsOf S) w (show Hid _ from byts_get (numsOf_byts S)) (by rw [numsOf_len]; omega)
    rw [numsOf_str] at q
    exact q.mono fun e w' k => ⟨_, k.1, (fun _ => by omega), k.2⟩

end Go.Proofs.YtafmoceinamcdaaGreat
