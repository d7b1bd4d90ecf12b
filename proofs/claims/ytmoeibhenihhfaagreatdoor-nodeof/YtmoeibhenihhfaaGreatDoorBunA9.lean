/- Put together by a program out of these texts of mine: PTxt0, PTxt1, PTxt2, PKid0. -/
import Derived.Test.YtmoeibhenihhfaaGreatDoorBunA7
import Derived.Test.YtmoeibhenihhfaaGreatDoorBunA8

/- The contracts of the program's own node.isPlain, Int, isNamed, isDoc. -/
namespace Go.Proofs.YtmoeibhenihhfaaGreatDoor
open Go.RowKit
set_option linter.unusedVariables false
set_option linter.unusedSimpArgs false

set_option maxHeartbeats 4000000 in
theorem pisplain_any (s : List Int) (w : World) (hs : Hid (byts s)) :
    Calls Tryz.prog 46 #[.string (strOfNums s)] w fun e w' => e = .returned (.bool (decide (s ∈ npl))) ∧ w = w' := by
  by_cases k0 : s = [100, 111, 117, 98, 108, 101]
  · have e0 : ((strOfNums s).toList == [100, 111, 117, 98, 108, 101]) = true := by rw [k0, str_lit _ [100, 111, 117, 98, 108, 101] rfl]; rfl
    have E : Hid (decide (s ∈ npl) = true) := decide_eq_true (by rw [k0]; decide)
    clear k0
    generalize strOfNums s = S at *
    go_enter Tryz.func46, Tryz.ntmps46
    go_wp2
    go_ret
    exact ⟨by rw [E.out]; rfl, rfl⟩
  have e0 : ((strOfNums s).toList == [100, 111, 117, 98, 108, 101]) = false := weq s _ hs.out (by unfold byts; decide) _ (str_lit _ [100, 111, 117, 98, 108, 101] rfl) k0
  by_cases k1 : s = [102, 108, 111, 97, 116]
  · have e1 : ((strOfNums s).toList == [102, 108, 111, 97, 116]) = true := by rw [k1, str_lit _ [102, 108, 111, 97, 116] rfl]; rfl
    have E : Hid (decide (s ∈ npl) = true) := decide_eq_true (by rw [k1]; decide)
    clear k1
    generalize strOfNums s = S at *
    go_enter Tryz.func46, Tryz.ntmps46
    go_wp2
    go_ret
    exact ⟨by rw [E.out]; rfl, rfl⟩
  have e1 : ((strOfNums s).toList == [102, 108, 111, 97, 116]) = false := weq s _ hs.out (by unfold byts; decide) _ (str_lit _ [102, 108, 111, 97, 116] rfl) k1
  by_cases k2 : s = [105, 110, 116, 51, 50]
  · have e2 : ((strOfNums s).toList == [105, 110, 116, 51, 50]) = true := by rw [k2, str_lit _ [105, 110, 116, 51, 50] rfl]; rfl
    have E : Hid (decide (s ∈ npl) = true) := decide_eq_true (by rw [k2]; decide)
    clear k2
    generalize strOfNums s = S at *
    go_enter Tryz.func46, Tryz.ntmps46
    go_wp2
    go_ret
    exact ⟨by rw [E.out]; rfl, rfl⟩
  have e2 : ((strOfNums s).toList == [105, 110, 116, 51, 50]) = false := weq s _ hs.out (by unfold byts; decide) _ (str_lit _ [105, 110, 116, 51, 50] rfl) k2
  by_cases k3 : s = [105, 110, 116, 54, 52]
  · have e3 : ((strOfNums s).toList == [105, 110, 116, 54, 52]) = true := by rw [k3, str_lit _ [105, 110, 116, 54, 52] rfl]; rfl
    have E : Hid (decide (s ∈ npl) = true) := decide_eq_true (by rw [k3]; decide)
    clear k3
    generalize strOfNums s = S at *
    go_enter Tryz.func46, Tryz.ntmps46
    go_wp2
    go_ret
    exact ⟨by rw [E.out]; rfl, rfl⟩
  have e3 : ((strOfNums s).toList == [105, 110, 116, 54, 52]) = false := weq s _ hs.out (by unfold byts; decide) _ (str_lit _ [105, 110, 116, 54, 52] rfl) k3
  by_cases k4 : s = [117, 105, 110, 116, 51, 50]
  · have e4 : ((strOfNums s).toList == [117, 105, 110, 116, 51, 50]) = true := by rw [k4, str_lit _ [117, 105, 110, 116, 51, 50] rfl]; rfl
    have E : Hid (decide (s ∈ npl) = true) := decide_eq_true (by rw [k4]; decide)
    clear k4
    generalize strOfNums s = S at *
    go_enter Tryz.func46, Tryz.ntmps46
    go_wp2
    go_ret
    exact ⟨by rw [E.out]; rfl, rfl⟩
  have e4 : ((strOfNums s).toList == [117, 105, 110, 116, 51, 50]) = false := weq s _ hs.out (by unfold byts; decide) _ (str_lit _ [117, 105, 110, 116, 51, 50] rfl) k4
  by_cases k5 : s = [117, 105, 110, 116, 54, 52]
  · have e5 : ((strOfNums s).toList == [117, 105, 110, 116, 54, 52]) = true := by rw [k5, str_lit _ [117, 105, 110, 116, 54, 52] rfl]; rfl
    have E : Hid (decide (s ∈ npl) = true) := decide_eq_true (by rw [k5]; decide)
    clear k5
    generalize strOfNums s = S at *
    go_enter Tryz.func46, Tryz.ntmps46
    go_wp2
    go_ret
    exact ⟨by rw [E.out]; rfl, rfl⟩
  have e5 : ((strOfNums s).toList == [117, 105, 110, 116, 54, 52]) = false := weq s _ hs.out (by unfold byts; decide) _ (str_lit _ [117, 105, 110, 116, 54, 52] rfl) k5
  by_cases k6 : s = [115, 105, 110, 116, 51, 50]
  · have e6 : ((strOfNums s).toList == [115, 105, 110, 116, 51, 50]) = true := by rw [k6, str_lit _ [115, 105, 110, 116, 51, 50] rfl]; rfl
    have E : Hid (decide (s ∈ npl) = true) := decide_eq_true (by rw [k6]; decide)
    clear k6
    generalize strOfNums s = S at *
    go_enter Tryz.func46, Tryz.ntmps46
    go_wp2
    go_ret
    exact ⟨by rw [E.out]; rfl, rfl⟩
  have e6 : ((strOfNums s).toList == [115, 105, 110, 116, 51, 50]) = false := weq s _ hs.out (by unfold byts; decide) _ (str_lit _ [115, 105, 110, 116, 51, 50] rfl) k6
  by_cases k7 : s = [115, 105, 110, 116, 54, 52]
  · have e7 : ((strOfNums s).toList == [115, 105, 110, 116, 54, 52]) = true := by rw [k7, str_lit _ [115, 105, 110, 116, 54, 52] rfl]; rfl
    have E : Hid (decide (s ∈ npl) = true) := decide_eq_true (by rw [k7]; decide)
    clear k7
    generalize strOfNums s = S at *
    go_enter Tryz.func46, Tryz.ntmps46
    go_wp2
    go_ret
    exact ⟨by rw [E.out]; rfl, rfl⟩
  have e7 : ((strOfNums s).toList == [115, 105, 110, 116, 54, 52]) = false := weq s _ hs.out (by unfold byts; decide) _ (str_lit _ [115, 105, 110, 116, 54, 52] rfl) k7
  by_cases k8 : s = [102, 105, 120, 101, 100, 51, 50]
  · have e8 : ((strOfNums s).toList == [102, 105, 120, 101, 100, 51, 50]) = true := by rw [k8, str_lit _ [102, 105, 120, 101, 100, 51, 50] rfl]; rfl
    have E : Hid (decide (s ∈ npl) = true) := decide_eq_true (by rw [k8]; decide)
    clear k8
    generalize strOfNums s = S at *
    go_enter Tryz.func46, Tryz.ntmps46
    go_wp2
    go_ret
    exact ⟨by rw [E.out]; rfl, rfl⟩
  have e8 : ((strOfNums s).toList == [102, 105, 120, 101, 100, 51, 50]) = false := weq s _ hs.out (by unfold byts; decide) _ (str_lit _ [102, 105, 120, 101, 100, 51, 50] rfl) k8
  by_cases k9 : s = [102, 105, 120, 101, 100, 54, 52]
  · have e9 : ((strOfNums s).toList == [102, 105, 120, 101, 100, 54, 52]) = true := by rw [k9, str_lit _ [102, 105, 120, 101, 100, 54, 52] rfl]; rfl
    have E : Hid (decide (s ∈ npl) = true) := decide_eq_true (by rw [k9]; decide)
    clear k9
    generalize strOfNums s = S at *
    go_enter Tryz.func46, Tryz.ntmps46
    go_wp2
    go_ret
    exact ⟨by rw [E.out]; rfl, rfl⟩
  have e9 : ((strOfNums s).toList == [102, 105, 120, 101, 100, 54, 52]) = false := weq s _ hs.out (by unfold byts; decide) _ (str_lit _ [102, 105, 120, 101, 100, 54, 52] rfl) k9
  by_cases k10 : s = [115, 102, 105, 120, 101, 100, 51, 50]
  · have e10 : ((strOfNums s).toList == [115, 102, 105, 120, 101, 100, 51, 50]) = true := by rw [k10, str_lit _ [115, 102, 105, 120, 101, 100, 51, 50] rfl]; rfl
    have E : Hid (decide (s ∈ npl) = true) := decide_eq_true (by rw [k10]; decide)
    clear k10
    generalize strOfNums s = S at *
    go_enter Tryz.func46, Tryz.ntmps46
    go_wp2
    go_ret
    exact ⟨by rw [E.out]; rfl, rfl⟩
  have e10 : ((strOfNums s).toList == [115, 102, 105, 120, 101, 100, 51, 50]) = false := weq s _ hs.out (by unfold byts; decide) _ (str_lit _ [115, 102, 105, 120, 101, 100, 51, 50] rfl) k10
  by_cases k11 : s = [115, 102, 105, 120, 101, 100, 54, 52]
  · have e11 : ((strOfNums s).toList == [115, 102, 105, 120, 101, 100, 54, 52]) = true := by rw [k11, str_lit _ [115, 102, 105, 120, 101, 100, 54, 52] rfl]; rfl
    have E : Hid (decide (s ∈ npl) = true) := decide_eq_true (by rw [k11]; decide)
    clear k11
    generalize strOfNums s = S at *
    go_enter Tryz.func46, Tryz.ntmps46
    go_wp2
    go_ret
    exact ⟨by rw [E.out]; rfl, rfl⟩
  have e11 : ((strOfNums s).toList == [115, 102, 105, 120, 101, 100, 54, 52]) = false := weq s _ hs.out (by unfold byts; decide) _ (str_lit _ [115, 102, 105, 120, 101, 100, 54, 52] rfl) k11
  by_cases k12 : s = [98, 111, 111, 108]
  · have e12 : ((strOfNums s).toList == [98, 111, 111, 108]) = true := by rw [k12, str_lit _ [98, 111, 111, 108] rfl]; rfl
    have E : Hid (decide (s ∈ npl) = true) := decide_eq_true (by rw [k12]; decide)
    clear k12
    generalize strOfNums s = S at *
    go_enter Tryz.func46, Tryz.ntmps46
    go_wp2
    go_ret
    exact ⟨by rw [E.out]; rfl, rfl⟩
  have e12 : ((strOfNums s).toList == [98, 111, 111, 108]) = false := weq s _ hs.out (by unfold byts; decide) _ (str_lit _ [98, 111, 111, 108] rfl) k12
  by_cases k13 : s = [115, 116, 114, 105, 110, 103]
  · have e13 : ((strOfNums s).toList == [115, 116, 114, 105, 110, 103]) = true := by rw [k13, str_lit _ [115, 116, 114, 105, 110, 103] rfl]; rfl
    have E : Hid (decide (s ∈ npl) = true) := decide_eq_true (by rw [k13]; decide)
    clear k13
    generalize strOfNums s = S at *
    go_enter Tryz.func46, Tryz.ntmps46
    go_wp2
    go_ret
    exact ⟨by rw [E.out]; rfl, rfl⟩
  have e13 : ((strOfNums s).toList == [115, 116, 114, 105, 110, 103]) = false := weq s _ hs.out (by unfold byts; decide) _ (str_lit _ [115, 116, 114, 105, 110, 103] rfl) k13
  by_cases k14 : s = [98, 121, 116, 101, 115]
  · have e14 : ((strOfNums s).toList == [98, 121, 116, 101, 115]) = true := by rw [k14, str_lit _ [98, 121, 116, 101, 115] rfl]; rfl
    have E : Hid (decide (s ∈ npl) = true) := decide_eq_true (by rw [k14]; decide)
    clear k14
    generalize strOfNums s = S at *
    go_enter Tryz.func46, Tryz.ntmps46
    go_wp2
    go_ret
    exact ⟨by rw [E.out]; rfl, rfl⟩
  have e14 : ((strOfNums s).toList == [98, 121, 116, 101, 115]) = false := weq s _ hs.out (by unfold byts; decide) _ (str_lit _ [98, 121, 116, 101, 115] rfl) k14
  have E : Hid (decide (s ∈ npl) = false) := decide_eq_false (fun h => by
    simp only [npl, List.mem_cons, List.not_mem_nil, or_false, k0, k1, k2, k3, k4, k5, k6, k7, k8, k9, k10, k11, k12, k13, k14] at h)
  clear k0 k1 k2 k3 k4 k5 k6 k7 k8 k9 k10 k11 k12 k13 k14
  generalize strOfNums s = S at *
  go_enter Tryz.func46, Tryz.ntmps46
  go_wp2
  go_ret
  exact ⟨by rw [E.out]; rfl, rfl⟩

theorem bd_mem {l : List Int} (h : byts l) (i : Nat) : 0 ≤ l.getD i 0 ∧ l.getD i 0 ≤ 255 := by
  rcases Nat.lt_or_ge i l.length with hi | hi
  · rw [List.getD_eq_getElem?_getD, List.getElem?_eq_getElem hi]
    exact h _ (List.getElem_mem hi)
  · rw [List.getD_eq_getElem?_getD, List.getElem?_eq_none hi]; decide

/-- A sign ahead, as Go's own CutPrefix and TrimPrefix ask it. -/
theorem pby_pre (s : List Int) (hs : byts s) (n : Nat) (h0 : 0 < n) (hn : n ≤ 255) : Lib.hasPrefix (strOfNums s).data.toList [UInt8.ofNat n] = decide (s.getD 0 0 = (n : Int)) := by
  rw [strOfNums_data]
  unfold Lib.hasPrefix
  cases s with
  | nil =>
    symm
    apply decide_eq_false
    simp
    omega
  | cons c r =>
    have hc := hs c (by simp)
    rw [Bool.eq_iff_iff, decide_eq_true_eq]
    simp only [List.map_cons, List.isPrefixOf, Bool.and_true, beq_iff_eq, List.getD_cons_zero]
    constructor
    · intro e
      exact u8_inj hc (by omega) (by rw [← e]; simp)
    · rintro rfl; simp

theorem pby_of (l : List Int) : (⟨(l.map fun n => UInt8.ofNat n.toNat).toArray⟩ : ByteArray) = strOfNums l := by
  unfold strOfNums
  rfl

theorem pby_trim (s : List Int) (hs : byts s) (n : Nat) (h0 : 0 < n) (hn : n ≤ 255) : (⟨(Lib.trimPrefix (strOfNums s).data.toList [UInt8.ofNat n]).toArray⟩ : ByteArray) = strOfNums (if s.getD 0 0 = (n : Int) then s.drop 1 else s) := by
  unfold Lib.trimPrefix
  rw [pby_pre s hs n h0 hn, strOfNums_data]
  by_cases h : s.getD 0 0 = (n : Int)
  · rw [if_pos (decide_eq_true h), if_pos h, ← pby_of, List.map_drop]; rfl
  · rw [if_neg (by simpa using h), if_neg h, ← pby_of]

theorem pcutp_any (s : List Int) (n : Nat) (h0 : 0 < n) (hn : n ≤ 255) (w : World) (hs : Hid (byts s)) :
    Calls Tryz.prog 63 #[.string (strOfNums s), .string { data := #[UInt8.ofNat n] }] w fun e w' => e = .returned (.tuple #[.string (strOfNums (if s.getD 0 0 = (n : Int) then s.drop 1 else s)), .bool (decide (s.getD 0 0 = (n : Int)))]) ∧ w' = w := by
  have q := Sh.strings_CutPrefix (strOfNums s) { data := #[UInt8.ofNat n] } w
  rw [show ({ data := #[UInt8.ofNat n] } : ByteArray).data.toList = [UInt8.ofNat n] from rfl, pby_pre s hs.out n h0 hn, pby_trim s hs.out n h0 hn] at q
  exact q

theorem ptrimp_any (s : List Int) (n : Nat) (h0 : 0 < n) (hn : n ≤ 255) (w : World) (hs : Hid (byts s)) :
    Calls Tryz.prog 30 #[.string (strOfNums s), .string { data := #[UInt8.ofNat n] }] w fun e w' => e = .returned (.string (strOfNums (if s.getD 0 0 = (n : Int) then s.drop 1 else s))) ∧ w' = w := by
  have q := Sh.strings_TrimPrefix (strOfNums s) { data := #[UInt8.ofNat n] } w
  rw [show ({ data := #[UInt8.ofNat n] } : ByteArray).data.toList = [UInt8.ofNat n] from rfl, pby_trim s hs.out n h0 hn] at q
  exact q

def ppt (c : Int) : Bool := decide (c ≠ 46)

theorem ix46 : ∀ s : List Int, (∀ c ∈ s, 0 ≤ c ∧ c ≤ 255) → (Lib.index (s.map fun n => UInt8.ofNat n.toNat) [46] = -1 ∧ s.takeWhile ppt = s) ∨ ∃ k : Nat, Lib.index (s.map fun n => UInt8.ofNat n.toNat) [46] = k ∧ s.takeWhile ppt = s.take k
  | [], _ => .inl ⟨rfl, rfl⟩
  | c :: r, h => by
    have hc := h c (by simp)
    have ih := ix46 r (fun x hx => h x (by simp [hx]))
    have e : Lib.index ((c :: r).map fun n => UInt8.ofNat n.toNat) [46] = if c = 46 then 0 else if Lib.index (r.map fun n => UInt8.ofNat n.toNat) [46] == -1 then -1 else Lib.index (r.map fun n => UInt8.ofNat n.toNat) [46] + 1 := by
      show (if ([46] : List UInt8).isPrefixOf (UInt8.ofNat c.toNat :: (r.map fun n => UInt8.ofNat n.toNat)) = true then (0 : Int) else if Lib.index (r.map fun n => UInt8.ofNat n.toNat) [46] == -1 then -1 else Lib.index (r.map fun n => UInt8.ofNat n.toNat) [46] + 1) = _
      have hp : ([46] : List UInt8).isPrefixOf (UInt8.ofNat c.toNat :: (r.map fun n => UInt8.ofNat n.toNat)) = decide (c = 46) := by
        simp only [List.isPrefixOf, Bool.and_true]
        rw [Bool.eq_iff_iff, beq_iff_eq, decide_eq_true_eq]
        constructor
        · intro g; exact u8_inj hc (by omega) (by rw [← g]; rfl)
        · rintro rfl; rfl
      rw [hp]
      by_cases k : c = 46 <;> simp [k]
    rw [e]
    by_cases k : c = 46
    · subst k
      exact .inr ⟨0, by simp, by simp [ppt]⟩
    · rw [if_neg k]
      have hl : ppt c = true := decide_eq_true k
      rcases ih with ⟨h1, h2⟩ | ⟨j, h1, h2⟩
      · left
        rw [h1, List.takeWhile_cons, if_pos hl, h2]
        simp
      · right
        refine ⟨j + 1, ?_, ?_⟩
        · rw [h1, if_neg (by simp only [beq_iff_eq]; omega)]; rfl
        · rw [List.takeWhile_cons, if_pos hl, h2]; simp

theorem cut46 (s : List Int) (h : ∀ c ∈ s, 0 ≤ c ∧ c ≤ 255) : (⟨(Lib.cut (s.map fun n => UInt8.ofNat n.toNat) [46]).1.toArray⟩ : ByteArray) = strOfNums (s.takeWhile ppt) := by
  rw [← pby_of]
  unfold Lib.cut
  rcases ix46 s h with ⟨h1, h2⟩ | ⟨k, h1, h2⟩
  · rw [h1, if_neg (by omega), h2]
  · rw [h1, if_pos (by omega), h2]
    simp [List.map_take]

theorem nsp_head : ∀ (s cur : List Int), (nsp cur s).getD 0 [] = cur ++ s.takeWhile ppt
  | [], cur => by rw [nsp]; simp
  | c :: r, cur => by
    rw [nsp]
    by_cases h : c = 46
    · rw [if_pos h, List.takeWhile_cons, if_neg (by simp [ppt, h])]; simp
    · rw [if_neg h, nsp_head r, List.takeWhile_cons, if_pos (by simp [ppt, h])]; simp

/-- Whether a text names a type that is not plain, as the program asks it. -/
def pnamed (s : List Int) : Bool := if s.getD 0 0 = 46 then nfull (s.drop 1) else (nfull s && !nkey (s.takeWhile ppt))

set_option maxRecDepth 10000 in
set_option maxHeartbeats 2000000 in
theorem pisnamed_any (s : List Int) (w : World) (hT : Hid (TTab w)) (hs : Hid (byts s)) (hlen : (s.length : Int) ≤ 100000) :
    Calls Tryz.prog 38 #[.string (strOfNums s)] w fun e w' => e = .returned (.bool (pnamed s)) ∧ Below w.heap.size w w' := by
  have q := fun W => pcutp_any s 46 (by omega) (by omega) W hs
  change ∀ W, Calls Tryz.prog 63 #[.string (strOfNums s), .string { data := #[46] }] W fun e w' => e = .returned (.tuple #[.string (strOfNums (if s.getD 0 0 = 46 then s.drop 1 else s)), .bool (decide (s.getD 0 0 = 46))]) ∧ w' = W at q
  by_cases hpt : s.getD 0 0 = 46
  · rw [if_pos hpt, decide_eq_true hpt] at q
    rw [show pnamed s = nfull (s.drop 1) by unfold pnamed; rw [if_pos hpt]]
    have qf := fun W => pfull_any (s.drop 1) W trivial (fun i => by
      have : byts (s.drop 1) := fun c hc => hs.out c (List.mem_of_mem_drop hc)
      exact bd_mem this i) (by rw [List.length_drop]; omega)
    generalize nfull (s.drop 1) = R at qf ⊢
    generalize strOfNums (s.drop 1) = D at q qf
    generalize strOfNums s = S at q ⊢
    have Q : Hid _ := q
    have QF : Hid _ := qf
    clear q qf hpt
    go_enter Tryz.func38, Tryz.ntmps38
    go_wp2_with fail
    refine Calls.mono (Q.out _) ?_
    rintro e w1 ⟨rfl, rfl⟩
    go_wp2_with fail
    refine Calls.mono (QF.out _) ?_
    rintro e w2 ⟨rfl, hb⟩
    go_wp2
    go_ret
    exact ⟨rfl, hb⟩
  · rw [if_neg hpt, decide_eq_false hpt] at q
    rw [show pnamed s = (nfull s && !nkey (s.takeWhile ppt)) by unfold pnamed; rw [if_neg hpt]]
    obtain ⟨_, m, hm⟩ := hT.out
    have qc := Sh.strings_Cut (strOfNums s) { data := #[46] } m w (by rw [strOfNums_size]; omega) hm
    rw [show ({ data := #[46] } : ByteArray).data.toList = [46] from rfl, strOfNums_data, cut46 s hs.out] at qc
    have qf := fun W => pfull_any s W trivial (fun i => bd_mem hs.out i) hlen
    have qk := fun W => pkey_any (s.takeWhile ppt) W trivial (fun i => bd_mem (fun c hc => hs.out c ((List.takeWhile_sublist _).subset hc)) i) (by
      have : (s.takeWhile ppt).length ≤ s.length := (List.takeWhile_sublist _).length_le
      omega)
    generalize nfull s = R at qf ⊢
    generalize nkey (s.takeWhile ppt) = K at qk ⊢
    generalize strOfNums (s.takeWhile ppt) = D at qc qk
    generalize (⟨(Lib.cut (s.map fun n => UInt8.ofNat n.toNat) [46]).2.1.toArray⟩ : ByteArray) = D2 at qc
    generalize (Lib.cut (s.map fun n => UInt8.ofNat n.toNat) [46]).2.2 = B2 at qc
    generalize strOfNums s = S at q qc qf ⊢
    have Q : Hid _ := q
    have QC : Hid _ := qc
    have QF : Hid _ := qf
    have QK : Hid _ := qk
    clear q qf qc qk hpt hm
    cases R with
    | false =>
      go_enter Tryz.func38, Tryz.ntmps38
      go_wp2_with fail
      refine Calls.mono (Q.out _) ?_
      rintro e w1 ⟨rfl, rfl⟩
      go_wp2_with fail
      refine Calls.mono QC.out ?_
      rintro e w2 ⟨rfl, n, rfl⟩
      go_wp2_with fail
      refine Calls.mono (QF.out _) ?_
      rintro e w2 ⟨rfl, hb⟩
      go_wp2
      go_ret
      exact ⟨rfl, (Below.drewN'' _ _).trans (hb.mono (Below.drewN'' _ _).size)⟩
    | true =>
      go_enter Tryz.func38, Tryz.ntmps38
      go_wp2_with fail
      refine Calls.mono (Q.out _) ?_
      rintro e w1 ⟨rfl, rfl⟩
      go_wp2_with fail
      refine Calls.mono QC.out ?_
      rintro e w2 ⟨rfl, n, rfl⟩
      go_wp2_with fail
      refine Calls.mono (QF.out _) ?_
      rintro e w2 ⟨rfl, hb⟩
      go_wp2_with fail
      refine Calls.mono (QK.out _) ?_
      rintro e w3 ⟨rfl, hb3⟩
      have hb13 := (Below.drewN'' w1 n).trans ((hb.trans (hb3.mono hb.size)).mono (Below.drewN'' w1 n).size)
      have HB : Hid (Below w1.heap.size w1 w3) := hb13
      clear hb13 hb hb3
      go_wp2
      go_ret
      exact ⟨by cases K <;> rfl, HB.out⟩

end Go.Proofs.YtmoeibhenihhfaaGreatDoor

/- The contract of the program's own node.Int. -/
namespace Go.Proofs.YtmoeibhenihhfaaGreatDoor
open Go.RowKit
set_option linter.unusedVariables false
set_option linter.unusedSimpArgs false

set_option maxRecDepth 10000 in
set_option maxHeartbeats 2000000 in
theorem pint_core (S D X : ByteArray) (minus is same : Bool) (n : Int) (w : World) (n0 : 0 ≤ n) (n1 : n ≤ 18446744073709551615) (e1 : (X.toList == D.toList) = same)
    (q1 : ∀ W, Calls Tryz.prog 63 #[.string S, .string { data := #[45] }] W fun e w' => e = .returned (.tuple #[.string D, .bool minus]) ∧ w' = W)
    (q2 : ∀ W, Calls Tryz.prog 69 #[.string D] W fun e w' => e = .returned (.tuple #[.int .u64 n, .bool is]) ∧ Below W.heap.size W w')
    (q3 : ∀ W, Below w.heap.size w W → Calls Tryz.prog 70 #[.int .u64 n] W fun e w' => e = .returned (.string X) ∧ Below W.heap.size W w')
    (A : Int) (B C : Bool) (hR : Hid ((A, B, C) = if is = false ∨ same = false ∨ (minus = true ∧ (n = 0 ∨ 9223372036854775808 < n)) then (0, false, false) else (n, minus, true))) :
    Calls Tryz.prog 48 #[.string S] w fun e w' => e = .returned (.tuple #[.int .u64 A, .bool B, .bool C]) ∧ Below w.heap.size w w' := by
  have Q1 : Hid _ := q1
  have Q2 : Hid _ := q2
  have Q3 : Hid _ := q3
  clear q1 q2 q3
  have hBB : Hid (∀ w1 w2, Below w.heap.size w w1 → Below w1.heap.size w1 w2 → Below w.heap.size w w2) := fun w1 w2 a b => a.trans (b.mono a.size)
  cases is with
  | false =>
    have E := hR.out
    rw [if_pos (.inl rfl)] at E
    cases E
    clear hR Q3
    go_enter Tryz.func48, Tryz.ntmps48
    go_wp2_with fail
    refine Calls.mono (Q1.out _) ?_
    rintro e w1 ⟨rfl, rfl⟩
    go_wp2_with fail
    refine Calls.mono (Q2.out _) ?_
    rintro e w2 ⟨rfl, hb⟩
    go_wp2
    go_ret3
    exact ⟨rfl, hb⟩
  | true =>
    cases same with
    | false =>
      have E := hR.out
      rw [if_pos (.inr (.inl rfl))] at E
      cases E
      clear hR
      go_enter Tryz.func48, Tryz.ntmps48
      go_wp2_with fail
      refine Calls.mono (Q1.out _) ?_
      rintro e w1 ⟨rfl, rfl⟩
      go_wp2_with fail
      refine Calls.mono (Q2.out _) ?_
      rintro e w2 ⟨rfl, hb⟩
      have HB : Hid (Below w1.heap.size w1 w2) := hb
      clear hb
      go_wp2_with fail
      refine Calls.mono (Q3.out _ HB.out) ?_
      rintro e w3 ⟨rfl, hb⟩
      have HB3 : Hid (Below w1.heap.size w1 w3) := hBB.out _ _ HB.out hb
      clear hb
      go_wp2
      go_ret3
      exact ⟨rfl, HB3.out⟩
    | true =>
      cases minus with
      | false =>
        have E := hR.out
        rw [if_neg (by simp)] at E
        cases E
        clear hR
        go_enter Tryz.func48, Tryz.ntmps48
        go_wp2_with fail
        refine Calls.mono (Q1.out _) ?_
        rintro e w1 ⟨rfl, rfl⟩
        go_wp2_with fail
        refine Calls.mono (Q2.out _) ?_
        rintro e w2 ⟨rfl, hb⟩
        have HB : Hid (Below w1.heap.size w1 w2) := hb
        clear hb
        go_wp2_with fail
        refine Calls.mono (Q3.out _ HB.out) ?_
        rintro e w3 ⟨rfl, hb⟩
        have HB3 : Hid (Below w1.heap.size w1 w3) := hBB.out _ _ HB.out hb
        clear hb
        go_wp2
        go_ret3
        exact ⟨rfl, HB3.out⟩
      | true =>
        by_cases h0 : n = 0
        · subst h0
          have E := hR.out
          rw [if_pos (.inr (.inr ⟨rfl, .inl rfl⟩))] at E
          cases E
          clear hR
          go_enter Tryz.func48, Tryz.ntmps48
          go_wp2_with fail
          refine Calls.mono (Q1.out _) ?_
          rintro e w1 ⟨rfl, rfl⟩
          go_wp2_with fail
          refine Calls.mono (Q2.out _) ?_
          rintro e w2 ⟨rfl, hb⟩
          have HB : Hid (Below w1.heap.size w1 w2) := hb
          clear hb
          go_wp2_with fail
          refine Calls.mono (Q3.out _ HB.out) ?_
          rintro e w3 ⟨rfl, hb⟩
          have HB3 : Hid (Below w1.heap.size w1 w3) := hBB.out _ _ HB.out hb
          clear hb
          go_wp2
          go_ret3
          exact ⟨rfl, HB3.out⟩
        · have z0 : (n == 0) = false := by simpa using h0
          by_cases hbig : 9223372036854775808 < n
          · have E := hR.out
            rw [if_pos (.inr (.inr ⟨rfl, .inr hbig⟩))] at E
            cases E
            clear hR
            go_enter Tryz.func48, Tryz.ntmps48
            go_wp2_with fail
            refine Calls.mono (Q1.out _) ?_
            rintro e w1 ⟨rfl, rfl⟩
            go_wp2_with fail
            refine Calls.mono (Q2.out _) ?_
            rintro e w2 ⟨rfl, hb⟩
            have HB : Hid (Below w1.heap.size w1 w2) := hb
            clear hb
            go_wp2_with fail
            refine Calls.mono (Q3.out _ HB.out) ?_
            rintro e w3 ⟨rfl, hb⟩
            have HB3 : Hid (Below w1.heap.size w1 w3) := hBB.out _ _ HB.out hb
            clear hb
            go_wp2
            go_ret3
            exact ⟨rfl, HB3.out⟩
          · have E := hR.out
            rw [if_neg (by simp [h0]; omega)] at E
            cases E
            clear hR
            go_enter Tryz.func48, Tryz.ntmps48
            go_wp2_with fail
            refine Calls.mono (Q1.out _) ?_
            rintro e w1 ⟨rfl, rfl⟩
            go_wp2_with fail
            refine Calls.mono (Q2.out _) ?_
            rintro e w2 ⟨rfl, hb⟩
            have HB : Hid (Below w1.heap.size w1 w2) := hb
            clear hb
            go_wp2_with fail
            refine Calls.mono (Q3.out _ HB.out) ?_
            rintro e w3 ⟨rfl, hb⟩
            have HB3 : Hid (Below w1.heap.size w1 w3) := hBB.out _ _ HB.out hb
            clear hb
            go_wp2
            go_ret3
            exact ⟨rfl, HB3.out⟩

theorem pint_any (s : List Int) (W : World) (hT : Hid (TTab W)) (hz : Hid (∀ i, 0 ≤ s.getD i 0 ∧ s.getD i 0 ≤ 255)) (hlen : (s.length : Int) ≤ 1000000) :
    Calls Tryz.prog 48 #[.string (strOfNums s)] W fun e w' => e = .returned (.tuple #[.int .u64 (tint s).1, .bool (tint s).2.1, .bool (tint s).2.2]) ∧ Below W.heap.size W w' := by
  have hs : byts s := mem_bd hz.out
  have hd : byts (if s.getD 0 0 = 45 then s.drop 1 else s) := by
    split
    · exact fun c hc => hs c (List.mem_of_mem_drop hc)
    · exact hs
  have hdl : ((if s.getD 0 0 = 45 then s.drop 1 else s).length : Int) ≤ 1000000 := by
    split
    · rw [List.length_drop]; omega
    · exact hlen
  have hE : tint s = tintd (decide (s.getD 0 0 = 45)) (if s.getD 0 0 = 45 then s.drop 1 else s) := by
    unfold tint
    by_cases h : s.getD 0 0 = 45
    · rw [if_pos h, if_pos h, decide_eq_true h]
    · rw [if_neg h, if_neg h, decide_eq_false h]
  have q1 := fun W => pcutp_any s 45 (by omega) (by omega) W hs
  change ∀ W, Calls Tryz.prog 63 #[.string (strOfNums s), .string { data := #[45] }] W fun e w' => e = .returned (.tuple #[.string (strOfNums (if s.getD 0 0 = 45 then s.drop 1 else s)), .bool (decide (s.getD 0 0 = 45))]) ∧ w' = W at q1
  generalize (if s.getD 0 0 = 45 then s.drop 1 else s) = d at hd hdl hE q1
  generalize decide (s.getD 0 0 = 45) = minus at hE q1
  have hb : 0 ≤ (qnum d).1 ∧ (qnum d).1 ≤ 18446744073709551615 := qnum_bd d
  rw [hE]
  refine pint_core (strOfNums s) (strOfNums d) (strOfNums (qdg 20 (qnum d).1)) minus (qnum d).2 (qdg 20 (qnum d).1 == d) (qnum d).1 W hb.1 hb.2 (str_eq (fun c hc => by have := (qdg_bd 20 _ hb.1).1 c hc; omega) hd) q1 (fun V => pnum_any d V (fun i => bd_mem hd i) (by omega)) (fun V hV => pdig_any _ V (hT.out.1.below hV (Nat.le_refl _)) hb.1 hb.2) _ _ _ ?_
  show _ = _
  unfold tintd
  by_cases h : (qnum d).2 = false ∨ qdg 20 (qnum d).1 ≠ d ∨ (minus = true ∧ ((qnum d).1 = 0 ∨ 9223372036854775808 < (qnum d).1))
  · rw [if_pos h, if_pos (h.imp id (Or.imp (fun e => by simpa using e) id))]
  · rw [if_neg h, if_neg (fun g => h (g.imp id (Or.imp (fun e => by simpa using e) id)))]

end Go.Proofs.YtmoeibhenihhfaaGreatDoor

/- What the program's rules ask of a node's text: the closures of node.rulesOfKinds, isSyntax. -/
namespace Go.Proofs.YtmoeibhenihhfaaGreatDoor
open Go.RowKit
set_option linter.unusedVariables false
set_option linter.unusedSimpArgs false

def Tn.n : Tn → Int | .mk _ _ n _ _ _ _ _ _ _ => n

def Tn.m : Tn → Int | .mk _ _ _ m _ _ _ _ _ _ => m

def Tn.a : Tn → Int | .mk _ _ _ _ a _ _ _ _ _ => a

def Tn.at_ : Tn → Int | .mk _ _ _ _ _ p _ _ _ _ => p

def Tn.doc : Tn → List Int | .mk _ _ _ _ _ _ d _ _ _ => d

theorem weq2 (s t : List Int) (hs : byts s) (ht : byts t) (L : List UInt8) (hL : (strOfNums t).toList = L) : ((strOfNums s).toList == L) = (s == t) := by rw [← hL]; exact str_eq hs ht

def pxIdent (t : Tn) : Bool := nident t.text

def pxPart (t : Tn) : Bool := if t.a = 1 then nfull (if t.text.getD 0 0 = 46 then t.text.drop 1 else t.text) else nident t.text

def pxSyntax (t : Tn) : Bool := (t.text == []) || ((t.text == [112, 114, 111, 116, 111, 50]) || (t.text == [112, 114, 111, 116, 111, 51]))

def pxPath (t : Tn) : Bool := decide ((t.text.length : Int) ≤ 1000)

def pxFull (t : Tn) : Bool := nfull t.text

def pxNamed (t : Tn) : Bool := pnamed t.text

def pxValue (t : Tn) : Bool := nident t.text && ((!(t.text == [111, 112, 116, 105, 111, 110])) && !(t.text == [114, 101, 115, 101, 114, 118, 101, 100]))

def pxType (t : Tn) : Bool := decide (t.text ∈ npl) || pnamed t.text

def pxInt (t : Tn) : Bool := (tint t.text).2.2

def pxStr (t : Tn) : Bool := decide ((t.text.length : Int) ≤ 10000)

set_option maxRecDepth 10000 in
set_option maxHeartbeats 1000000 in
theorem pxIdent_any {V : World} {t : Tn} (hT : TTab V) (h : TnOk V t) (hsh : TnShort t) :
    Calls Tryz.prog 26 #[t.val] V fun e V' => e = .returned (.bool (pxIdent t)) ∧ Below V.heap.size V V' := by
  have htl : (t.text.length : Int) ≤ 100000 := by cases hsh; assumption
  have hby : byts t.text := by cases h; assumption
  have hbd : Hid (∀ i, 0 ≤ t.text.getD i 0 ∧ t.text.getD i 0 ≤ 255) := fun i => bd_mem hby i
  have q := fun W (hW : Below V.heap.size V W) => pident_any t.text W trivial hbd (by omega)
  unfold pxIdent
  obtain ⟨kind, text, n, m, a, pos, doc, ad, cap, kids⟩ := t
  change Calls Tryz.prog 26 #[.agg #[.int .i64 kind, .string (strOfNums text), .int .i64 n, .int .i64 m, .int .i64 a, .int .i64 pos, .string (strOfNums doc), .slice ad kids.length cap]] V fun e V' => e = .returned (.bool (nident text)) ∧ Below V.heap.size V V'
  change ∀ W, Below V.heap.size V W → Calls Tryz.prog 27 #[.string (strOfNums text)] W _ at q
  generalize strOfNums text = T1 at q ⊢
  generalize strOfNums doc = T2
  have HBA : Hid (Below V.heap.size V (V.alloc (.cells #[.int .i64 kind, .string T1, .int .i64 n, .int .i64 m, .int .i64 a, .int .i64 pos, .string T2, .slice ad kids.length cap] 24))) := (Below.refl _ _).alloc (Nat.le_refl _) _
  have Q : Hid _ := q _ HBA.out
  clear q h hsh hby htl hbd
  go_enter Tryz.func26, Tryz.ntmps26
  go_wp2_with fail
  refine Calls.mono Q.out ?_
  rintro e w1 ⟨rfl, hb⟩
  have HB : Hid (Below V.heap.size V w1) := HBA.out.trans (hb.mono HBA.out.size)
  clear hb
  go_wp2
  go_ret
  exact ⟨rfl, HB.out⟩

set_option maxRecDepth 10000 in
set_option maxHeartbeats 1000000 in
theorem pxFull_any {V : World} {t : Tn} (hT : TTab V) (h : TnOk V t) (hsh : TnShort t) :
    Calls Tryz.prog 34 #[t.val] V fun e V' => e = .returned (.bool (pxFull t)) ∧ Below V.heap.size V V' := by
  have htl : (t.text.length : Int) ≤ 100000 := by cases hsh; assumption
  have hby : byts t.text := by cases h; assumption
  have hbd : Hid (∀ i, 0 ≤ t.text.getD i 0 ∧ t.text.getD i 0 ≤ 255) := fun i => bd_mem hby i
  have q := fun W (hW : Below V.heap.size V W) => pfull_any t.text W trivial hbd htl
  unfold pxFull
  obtain ⟨kind, text, n, m, a, pos, doc, ad, cap, kids⟩ := t
  change Calls Tryz.prog 34 #[.agg #[.int .i64 kind, .string (strOfNums text), .int .i64 n, .int .i64 m, .int .i64 a, .int .i64 pos, .string (strOfNums doc), .slice ad kids.length cap]] V fun e V' => e = .returned (.bool (nfull text)) ∧ Below V.heap.size V V'
  change ∀ W, Below V.heap.size V W → Calls Tryz.prog 29 #[.string (strOfNums text)] W _ at q
  generalize strOfNums text = T1 at q ⊢
  generalize strOfNums doc = T2
  have HBA : Hid (Below V.heap.size V (V.alloc (.cells #[.int .i64 kind, .string T1, .int .i64 n, .int .i64 m, .int .i64 a, .int .i64 pos, .string T2, .slice ad kids.length cap] 24))) := (Below.refl _ _).alloc (Nat.le_refl _) _
  have Q : Hid _ := q _ HBA.out
  clear q h hsh hby htl hbd
  go_enter Tryz.func34, Tryz.ntmps34
  go_wp2_with fail
  refine Calls.mono Q.out ?_
  rintro e w1 ⟨rfl, hb⟩
  have HB : Hid (Below V.heap.size V w1) := HBA.out.trans (hb.mono HBA.out.size)
  clear hb
  go_wp2
  go_ret
  exact ⟨rfl, HB.out⟩

set_option maxRecDepth 10000 in
set_option maxHeartbeats 1000000 in
theorem pxNamed_any {V : World} {t : Tn} (hT : TTab V) (h : TnOk V t) (hsh : TnShort t) :
    Calls Tryz.prog 37 #[t.val] V fun e V' => e = .returned (.bool (pxNamed t)) ∧ Below V.heap.size V V' := by
  have htl : (t.text.length : Int) ≤ 100000 := by cases hsh; assumption
  have hby : byts t.text := by cases h; assumption
  have hbd : Hid (∀ i, 0 ≤ t.text.getD i 0 ∧ t.text.getD i 0 ≤ 255) := fun i => bd_mem hby i
  have q := fun W (hW : Below V.heap.size V W) => pisnamed_any t.text W (hT.below hW (Nat.le_refl _)) hby htl
  unfold pxNamed
  obtain ⟨kind, text, n, m, a, pos, doc, ad, cap, kids⟩ := t
  change Calls Tryz.prog 37 #[.agg #[.int .i64 kind, .string (strOfNums text), .int .i64 n, .int .i64 m, .int .i64 a, .int .i64 pos, .string (strOfNums doc), .slice ad kids.length cap]] V fun e V' => e = .returned (.bool (pnamed text)) ∧ Below V.heap.size V V'
  change ∀ W, Below V.heap.size V W → Calls Tryz.prog 38 #[.string (strOfNums text)] W _ at q
  generalize strOfNums text = T1 at q ⊢
  generalize strOfNums doc = T2
  have HBA : Hid (Below V.heap.size V (V.alloc (.cells #[.int .i64 kind, .string T1, .int .i64 n, .int .i64 m, .int .i64 a, .int .i64 pos, .string T2, .slice ad kids.length cap] 24))) := (Below.refl _ _).alloc (Nat.le_refl _) _
  have Q : Hid _ := q _ HBA.out
  clear q h hsh hby htl hbd
  go_enter Tryz.func37, Tryz.ntmps37
  go_wp2_with fail
  refine Calls.mono Q.out ?_
  rintro e w1 ⟨rfl, hb⟩
  have HB : Hid (Below V.heap.size V w1) := HBA.out.trans (hb.mono HBA.out.size)
  clear hb
  go_wp2
  go_ret
  exact ⟨rfl, HB.out⟩

set_option maxRecDepth 10000 in
set_option maxHeartbeats 1000000 in
theorem pxInt_any {V : World} {t : Tn} (hT : TTab V) (h : TnOk V t) (hsh : TnShort t) :
    Calls Tryz.prog 47 #[t.val] V fun e V' => e = .returned (.bool (pxInt t)) ∧ Below V.heap.size V V' := by
  have htl : (t.text.length : Int) ≤ 100000 := by cases hsh; assumption
  have hby : byts t.text := by cases h; assumption
  have hbd : Hid (∀ i, 0 ≤ t.text.getD i 0 ∧ t.text.getD i 0 ≤ 255) := fun i => bd_mem hby i
  have q := fun W (hW : Below V.heap.size V W) => pint_any t.text W (hT.below hW (Nat.le_refl _)) hbd (by omega)
  unfold pxInt
  obtain ⟨kind, text, n, m, a, pos, doc, ad, cap, kids⟩ := t
  change Calls Tryz.prog 47 #[.agg #[.int .i64 kind, .string (strOfNums text), .int .i64 n, .int .i64 m, .int .i64 a, .int .i64 pos, .string (strOfNums doc), .slice ad kids.length cap]] V fun e V' => e = .returned (.bool ((tint text).2.2)) ∧ Below V.heap.size V V'
  change ∀ W, Below V.heap.size V W → Calls Tryz.prog 48 #[.string (strOfNums text)] W _ at q
  generalize strOfNums text = T1 at q ⊢
  generalize strOfNums doc = T2
  have HBA : Hid (Below V.heap.size V (V.alloc (.cells #[.int .i64 kind, .string T1, .int .i64 n, .int .i64 m, .int .i64 a, .int .i64 pos, .string T2, .slice ad kids.length cap] 24))) := (Below.refl _ _).alloc (Nat.le_refl _) _
  have Q : Hid _ := q _ HBA.out
  clear q h hsh hby htl hbd
  go_enter Tryz.func47, Tryz.ntmps47
  go_wp2_with fail
  refine Calls.mono Q.out ?_
  rintro e w1 ⟨rfl, hb⟩
  have HB : Hid (Below V.heap.size V w1) := HBA.out.trans (hb.mono HBA.out.size)
  clear hb
  go_wp2
  go_ret
  exact ⟨rfl, HB.out⟩

set_option maxRecDepth 10000 in
set_option maxHeartbeats 1000000 in
theorem pxPath_any {V : World} {t : Tn} (hT : TTab V) (h : TnOk V t) (hsh : TnShort t) :
    Calls Tryz.prog 33 #[t.val] V fun e V' => e = .returned (.bool (pxPath t)) ∧ Below V.heap.size V V' := by
  have htl : (t.text.length : Int) ≤ 100000 := by cases hsh; assumption
  have hby : byts t.text := by cases h; assumption
  have hbd : Hid (∀ i, 0 ≤ t.text.getD i 0 ∧ t.text.getD i 0 ≤ 255) := fun i => bd_mem hby i
  unfold pxPath
  obtain ⟨kind, text, n, m, a, pos, doc, ad, cap, kids⟩ := t
  change Calls Tryz.prog 33 #[.agg #[.int .i64 kind, .string (strOfNums text), .int .i64 n, .int .i64 m, .int .i64 a, .int .i64 pos, .string (strOfNums doc), .slice ad kids.length cap]] V fun e V' => e = .returned (.bool (decide ((text.length : Int) ≤ 1000))) ∧ Below V.heap.size V V'
  have hsz : ((strOfNums text).size : Int) = (text.length : Int) := by rw [strOfNums_size]
  have htl' : (text.length : Int) ≤ 100000 := htl
  rw [← hsz]
  rw [← hsz] at htl'
  generalize strOfNums text = T1 at htl' ⊢
  generalize strOfNums doc = T2
  have HBA : Hid (Below V.heap.size V (V.alloc (.cells #[.int .i64 kind, .string T1, .int .i64 n, .int .i64 m, .int .i64 a, .int .i64 pos, .string T2, .slice ad kids.length cap] 24))) := (Below.refl _ _).alloc (Nat.le_refl _) _
  clear h hsh hby htl hbd hsz
  go_enter Tryz.func33, Tryz.ntmps33
  go_wp2
  go_ret
  exact ⟨by first | rfl | simp, HBA.out⟩

set_option maxRecDepth 10000 in
set_option maxHeartbeats 1000000 in
theorem pxStr_any {V : World} {t : Tn} (hT : TTab V) (h : TnOk V t) (hsh : TnShort t) :
    Calls Tryz.prog 49 #[t.val] V fun e V' => e = .returned (.bool (pxStr t)) ∧ Below V.heap.size V V' := by
  have htl : (t.text.length : Int) ≤ 100000 := by cases hsh; assumption
  have hby : byts t.text := by cases h; assumption
  have hbd : Hid (∀ i, 0 ≤ t.text.getD i 0 ∧ t.text.getD i 0 ≤ 255) := fun i => bd_mem hby i
  unfold pxStr
  obtain ⟨kind, text, n, m, a, pos, doc, ad, cap, kids⟩ := t
  change Calls Tryz.prog 49 #[.agg #[.int .i64 kind, .string (strOfNums text), .int .i64 n, .int .i64 m, .int .i64 a, .int .i64 pos, .string (strOfNums doc), .slice ad kids.length cap]] V fun e V' => e = .returned (.bool (decide ((text.length : Int) ≤ 10000))) ∧ Below V.heap.size V V'
  have hsz : ((strOfNums text).size : Int) = (text.length : Int) := by rw [strOfNums_size]
  have htl' : (text.length : Int) ≤ 100000 := htl
  rw [← hsz]
  rw [← hsz] at htl'
  generalize strOfNums text = T1 at htl' ⊢
  generalize strOfNums doc = T2
  have HBA : Hid (Below V.heap.size V (V.alloc (.cells #[.int .i64 kind, .string T1, .int .i64 n, .int .i64 m, .int .i64 a, .int .i64 pos, .string T2, .slice ad kids.length cap] 24))) := (Below.refl _ _).alloc (Nat.le_refl _) _
  clear h hsh hby htl hbd hsz
  go_enter Tryz.func49, Tryz.ntmps49
  go_wp2
  go_ret
  exact ⟨by first | rfl | simp, HBA.out⟩

set_option maxRecDepth 10000 in
set_option maxHeartbeats 1000000 in
theorem pxSyntax_any {V : World} {t : Tn} (hT : TTab V) (h : TnOk V t) (hsh : TnShort t) :
    Calls Tryz.prog 31 #[t.val] V fun e V' => e = .returned (.bool (pxSyntax t)) ∧ Below V.heap.size V V' := by
  have htl : (t.text.length : Int) ≤ 100000 := by cases hsh; assumption
  have hby : byts t.text := by cases h; assumption
  have hbd : Hid (∀ i, 0 ≤ t.text.getD i 0 ∧ t.text.getD i 0 ≤ 255) := fun i => bd_mem hby i
  unfold pxSyntax
  obtain ⟨kind, text, n, m, a, pos, doc, ad, cap, kids⟩ := t
  change Calls Tryz.prog 31 #[.agg #[.int .i64 kind, .string (strOfNums text), .int .i64 n, .int .i64 m, .int .i64 a, .int .i64 pos, .string (strOfNums doc), .slice ad kids.length cap]] V fun e V' => e = .returned (.bool ((text == []) || ((text == [112, 114, 111, 116, 111, 50]) || (text == [112, 114, 111, 116, 111, 51])))) ∧ Below V.heap.size V V'
  have e0 : ((strOfNums text).toList == []) = (text == []) := weq2 text [] hby (by unfold byts; decide) _ (str_lit [] [] rfl)
  have e1 : ((strOfNums text).toList == [112, 114, 111, 116, 111, 50]) = (text == [112, 114, 111, 116, 111, 50]) := weq2 text [112, 114, 111, 116, 111, 50] hby (by unfold byts; decide) _ (str_lit [112, 114, 111, 116, 111, 50] [112, 114, 111, 116, 111, 50] rfl)
  have e2 : ((strOfNums text).toList == [112, 114, 111, 116, 111, 51]) = (text == [112, 114, 111, 116, 111, 51]) := weq2 text [112, 114, 111, 116, 111, 51] hby (by unfold byts; decide) _ (str_lit [112, 114, 111, 116, 111, 51] [112, 114, 111, 116, 111, 51] rfl)
  generalize (text == []) = B0 at e0 ⊢
  generalize (text == [112, 114, 111, 116, 111, 50]) = B1 at e1 ⊢
  generalize (text == [112, 114, 111, 116, 111, 51]) = B2 at e2 ⊢
  generalize strOfNums text = T1 at e0 e1 e2 ⊢
  generalize strOfNums doc = T2
  have HBA : Hid (Below V.heap.size V (V.alloc (.cells #[.int .i64 kind, .string T1, .int .i64 n, .int .i64 m, .int .i64 a, .int .i64 pos, .string T2, .slice ad kids.length cap] 24))) := (Below.refl _ _).alloc (Nat.le_refl _) _
  clear h hsh hby htl hbd
  cases B0 <;> cases B1 <;> cases B2
  all_goals
    go_enter Tryz.func31, Tryz.ntmps31
    go_wp2
    go_ret
    exact ⟨rfl, HBA.out⟩

set_option maxRecDepth 10000 in
set_option maxHeartbeats 1000000 in
theorem pxType_any {V : World} {t : Tn} (hT : TTab V) (h : TnOk V t) (hsh : TnShort t) :
    Calls Tryz.prog 45 #[t.val] V fun e V' => e = .returned (.bool (pxType t)) ∧ Below V.heap.size V V' := by
  have htl : (t.text.length : Int) ≤ 100000 := by cases hsh; assumption
  have hby : byts t.text := by cases h; assumption
  have hbd : Hid (∀ i, 0 ≤ t.text.getD i 0 ∧ t.text.getD i 0 ≤ 255) := fun i => bd_mem hby i
  have q1 := fun W => pisplain_any t.text W hby
  have q2 := fun W (hW : Below V.heap.size V W) => pisnamed_any t.text W (hT.below hW (Nat.le_refl _)) hby htl
  unfold pxType
  obtain ⟨kind, text, n, m, a, pos, doc, ad, cap, kids⟩ := t
  change Calls Tryz.prog 45 #[.agg #[.int .i64 kind, .string (strOfNums text), .int .i64 n, .int .i64 m, .int .i64 a, .int .i64 pos, .string (strOfNums doc), .slice ad kids.length cap]] V fun e V' => e = .returned (.bool (decide (text ∈ npl) || pnamed text)) ∧ Below V.heap.size V V'
  change ∀ W, Calls Tryz.prog 46 #[.string (strOfNums text)] W (fun e w' => e = .returned (.bool (decide (text ∈ npl))) ∧ W = w') at q1
  change ∀ W, Below V.heap.size V W → Calls Tryz.prog 38 #[.string (strOfNums text)] W (fun e w' => e = .returned (.bool (pnamed text)) ∧ Below W.heap.size W w') at q2
  generalize decide (text ∈ npl) = B1 at q1 ⊢
  generalize pnamed text = B2 at q2 ⊢
  generalize strOfNums text = T1 at q1 q2 ⊢
  generalize strOfNums doc = T2
  have HBA : Hid (Below V.heap.size V (V.alloc (.cells #[.int .i64 kind, .string T1, .int .i64 n, .int .i64 m, .int .i64 a, .int .i64 pos, .string T2, .slice ad kids.length cap] 24))) := (Below.refl _ _).alloc (Nat.le_refl _) _
  have Q1 : Hid _ := q1
  have Q2 : Hid _ := q2 _ HBA.out
  clear h hsh hby htl hbd q1 q2
  cases B1 with
  | true =>
    go_enter Tryz.func45, Tryz.ntmps45
    go_wp2_with fail
    refine Calls.mono (Q1.out _) ?_
    rintro e w1 ⟨rfl, rfl⟩
    go_wp2
    go_ret
    exact ⟨rfl, HBA.out⟩
  | false =>
    go_enter Tryz.func45, Tryz.ntmps45
    go_wp2_with fail
    refine Calls.mono (Q1.out _) ?_
    rintro e w1 ⟨rfl, rfl⟩
    go_wp2_with fail
    refine Calls.mono Q2.out ?_
    rintro e w1 ⟨rfl, hb⟩
    have HB : Hid (Below V.heap.size V w1) := HBA.out.trans (hb.mono HBA.out.size)
    clear hb
    go_wp2
    go_ret
    exact ⟨rfl, HB.out⟩

set_option maxRecDepth 10000 in
set_option maxHeartbeats 1000000 in
theorem pxPart_any {V : World} {t : Tn} (hT : TTab V) (h : TnOk V t) (hsh : TnShort t) :
    Calls Tryz.prog 28 #[t.val] V fun e V' => e = .returned (.bool (pxPart t)) ∧ Below V.heap.size V V' := by
  have htl : (t.text.length : Int) ≤ 100000 := by cases hsh; assumption
  have hby : byts t.text := by cases h; assumption
  have hbd : Hid (∀ i, 0 ≤ t.text.getD i 0 ∧ t.text.getD i 0 ≤ 255) := fun i => bd_mem hby i
  have q1 := fun W => ptrimp_any t.text 46 (by omega) (by omega) W hby
  have q2 := fun W => pfull_any (if t.text.getD 0 0 = 46 then t.text.drop 1 else t.text) W trivial (fun i => by
    split
    · exact bd_mem (fun c hc => hby c (List.mem_of_mem_drop hc)) i
    · exact bd_mem hby i) (by
    split
    · rw [List.length_drop]; omega
    · exact htl)
  have q3 := fun W => pident_any t.text W trivial hbd (by omega)
  unfold pxPart
  obtain ⟨kind, text, n, m, a, pos, doc, ad, cap, kids⟩ := t
  change Calls Tryz.prog 28 #[.agg #[.int .i64 kind, .string (strOfNums text), .int .i64 n, .int .i64 m, .int .i64 a, .int .i64 pos, .string (strOfNums doc), .slice ad kids.length cap]] V fun e V' => e = .returned (.bool (if a = 1 then nfull (if text.getD 0 0 = 46 then text.drop 1 else text) else nident text)) ∧ Below V.heap.size V V'
  change ∀ W, Calls Tryz.prog 30 #[.string (strOfNums text), .string { data := #[46] }] W (fun e w' => e = .returned (.string (strOfNums (if text.getD 0 0 = 46 then text.drop 1 else text))) ∧ w' = W) at q1
  change ∀ W, Calls Tryz.prog 29 #[.string (strOfNums (if text.getD 0 0 = 46 then text.drop 1 else text))] W (fun e w' => e = .returned (.bool (nfull (if text.getD 0 0 = 46 then text.drop 1 else text))) ∧ Below W.heap.size W w') at q2
  change ∀ W, Calls Tryz.prog 27 #[.string (strOfNums text)] W (fun e w' => e = .returned (.bool (nident text)) ∧ Below W.heap.size W w') at q3
  generalize (if text.getD 0 0 = 46 then text.drop 1 else text) = d at q1 q2 ⊢
  generalize nfull d = B1 at q2 ⊢
  generalize nident text = B2 at q3 ⊢
  generalize strOfNums d = T3 at q1 q2
  generalize strOfNums text = T1 at q1 q3 ⊢
  generalize strOfNums doc = T2
  have HBA : Hid (Below V.heap.size V (V.alloc (.cells #[.int .i64 kind, .string T1, .int .i64 n, .int .i64 m, .int .i64 a, .int .i64 pos, .string T2, .slice ad kids.length cap] 24))) := (Below.refl _ _).alloc (Nat.le_refl _) _
  have Q1 : Hid _ := q1
  have Q2 : Hid _ := q2
  have Q3 : Hid _ := q3
  clear h hsh hby htl hbd q1 q2 q3
  by_cases ha : a = 1
  · subst ha
    rw [if_pos rfl]
    go_enter Tryz.func28, Tryz.ntmps28
    go_wp2_with fail
    refine Calls.mono (Q1.out _) ?_
    rintro e w1 ⟨rfl, rfl⟩
    go_wp2_with fail
    refine Calls.mono (Q2.out _) ?_
    rintro e w1 ⟨rfl, hb⟩
    have HB : Hid (Below V.heap.size V w1) := HBA.out.trans (hb.mono HBA.out.size)
    clear hb
    go_wp2
    go_ret
    exact ⟨rfl, HB.out⟩
  · rw [if_neg ha]
    have e1 : (a == 1) = false := by simpa using ha
    clear ha
    go_enter Tryz.func28, Tryz.ntmps28
    go_wp2_with fail
    refine Calls.mono (Q3.out _) ?_
    rintro e w1 ⟨rfl, hb⟩
    have HB : Hid (Below V.heap.size V w1) := HBA.out.trans (hb.mono HBA.out.size)
    clear hb
    go_wp2
    go_ret
    exact ⟨rfl, HB.out⟩

set_option maxRecDepth 10000 in
set_option maxHeartbeats 1000000 in
theorem pxValue_any {V : World} {t : Tn} (g : Nat) (hg : V.heap[g]? = some (.cells #[.func (.func 26) #[] #[]] 26 (0, 0))) (hT : TTab V) (h : TnOk V t) (hsh : TnShort t) :
    Calls Tryz.prog 44 #[t.val, .pointer (some ⟨g, 0, none⟩)] V fun e V' => e = .returned (.bool (pxValue t)) ∧ Below V.heap.size V V' := by
  have htl : (t.text.length : Int) ≤ 100000 := by cases hsh; assumption
  have hby : byts t.text := by cases h; assumption
  have hbd : Hid (∀ i, 0 ≤ t.text.getD i 0 ∧ t.text.getD i 0 ≤ 255) := fun i => bd_mem hby i
  have q := fun W (hW : Below V.heap.size V W) => pxIdent_any (hT.below hW (Nat.le_refl _)) (h.under hW) hsh
  have hc := one_cell_of hg
  have hlt := one_lt hg
  unfold pxValue
  unfold pxIdent at q
  obtain ⟨kind, text, n, m, a, pos, doc, ad, cap, kids⟩ := t
  change Calls Tryz.prog 44 #[.agg #[.int .i64 kind, .string (strOfNums text), .int .i64 n, .int .i64 m, .int .i64 a, .int .i64 pos, .string (strOfNums doc), .slice ad kids.length cap], .pointer (some ⟨g, 0, none⟩)] V fun e V' => e = .returned (.bool (nident text && ((!(text == [111, 112, 116, 105, 111, 110])) && !(text == [114, 101, 115, 101, 114, 118, 101, 100])))) ∧ Below V.heap.size V V'
  change ∀ W, Below V.heap.size V W → Calls Tryz.prog 26 #[.agg #[.int .i64 kind, .string (strOfNums text), .int .i64 n, .int .i64 m, .int .i64 a, .int .i64 pos, .string (strOfNums doc), .slice ad kids.length cap]] W (fun e w' => e = .returned (.bool (nident text)) ∧ Below W.heap.size W w') at q
  have e1 : ((strOfNums text).toList == [111, 112, 116, 105, 111, 110]) = (text == [111, 112, 116, 105, 111, 110]) := weq2 text [111, 112, 116, 105, 111, 110] hby (by unfold byts; decide) _ (str_lit [111, 112, 116, 105, 111, 110] [111, 112, 116, 105, 111, 110] rfl)
  have e2 : ((strOfNums text).toList == [114, 101, 115, 101, 114, 118, 101, 100]) = (text == [114, 101, 115, 101, 114, 118, 101, 100]) := weq2 text [114, 101, 115, 101, 114, 118, 101, 100] hby (by unfold byts; decide) _ (str_lit [114, 101, 115, 101, 114, 118, 101, 100] [114, 101, 115, 101, 114, 118, 101, 100] rfl)
  generalize (text == [111, 112, 116, 105, 111, 110]) = B1 at e1 ⊢
  generalize (text == [114, 101, 115, 101, 114, 118, 101, 100]) = B2 at e2 ⊢
  generalize nident text = B0 at q ⊢
  generalize strOfNums text = T1 at q e1 e2 ⊢
  generalize strOfNums doc = T2 at q ⊢
  have HBA : Hid (Below V.heap.size V (V.alloc (.cells #[.int .i64 kind, .string T1, .int .i64 n, .int .i64 m, .int .i64 a, .int .i64 pos, .string T2, .slice ad kids.length cap] 24))) := (Below.refl _ _).alloc (Nat.le_refl _) _
  have Q : Hid _ := q _ HBA.out
  clear h hsh hby htl hbd q hg
  cases B0 with
  | false =>
    go_enter Tryz.func44, Tryz.ntmps44
    go_wp2_with fail
    refine Calls.mono Q.out ?_
    rintro e w1 ⟨rfl, hb⟩
    have HB : Hid (Below V.heap.size V w1) := HBA.out.trans (hb.mono HBA.out.size)
    clear hb
    go_wp2
    go_ret
    exact ⟨rfl, HB.out⟩
  | true =>
    cases B1 <;> cases B2
    all_goals
      go_enter Tryz.func44, Tryz.ntmps44
      go_wp2_with fail
      refine Calls.mono Q.out ?_
      rintro e w1 ⟨rfl, hb⟩
      have o1 := own_cells hb 1 _ rfl
      have HB : Hid (Below V.heap.size V w1) := HBA.out.trans (hb.mono HBA.out.size)
      clear hb
      go_wp2
      go_ret
      exact ⟨rfl, HB.out⟩

end Go.Proofs.YtmoeibhenihhfaaGreatDoor

/- What the program's rules ask of a node's kids: isWorth, areOfOneof, areOfReserved, areOfMap, one worth. -/
namespace Go.Proofs.YtmoeibhenihhfaaGreatDoor
open Go.RowKit
set_option linter.unusedVariables false
set_option linter.unusedSimpArgs false

def pkWorth (k : Int) : Bool := (k == 20) || ((k == 21) || ((k == 22) || (k == 23)))

set_option maxRecDepth 10000 in
set_option maxHeartbeats 1000000 in
theorem pworth_any (t : Tn) (V : World) :
    Calls Tryz.prog 51 #[t.val] V fun e V' => e = .returned (.bool (pkWorth t.kind)) ∧ Below V.heap.size V V' := by
  obtain ⟨kind, text, n, m, a, pos, doc, ad, cap, kids⟩ := t
  change Calls Tryz.prog 51 #[.agg #[.int .i64 kind, .string (strOfNums text), .int .i64 n, .int .i64 m, .int .i64 a, .int .i64 pos, .string (strOfNums doc), .slice ad kids.length cap]] V fun e V' => e = .returned (.bool (pkWorth kind)) ∧ Below V.heap.size V V'
  generalize strOfNums text = T1
  generalize strOfNums doc = T2
  have HBA : Hid (Below V.heap.size V (V.alloc (.cells #[.int .i64 kind, .string T1, .int .i64 n, .int .i64 m, .int .i64 a, .int .i64 pos, .string T2, .slice ad kids.length cap] 24))) := (Below.refl _ _).alloc (Nat.le_refl _) _
  unfold pkWorth
  generalize e0 : (kind == 20) = B0
  generalize e1 : (kind == 21) = B1
  generalize e2 : (kind == 22) = B2
  generalize e3 : (kind == 23) = B3
  cases B0
  case true =>
    go_enter Tryz.func51, Tryz.ntmps51
    go_wp2
    go_ret
    exact ⟨rfl, HBA.out⟩
  cases B1
  case true =>
    go_enter Tryz.func51, Tryz.ntmps51
    go_wp2
    go_ret
    exact ⟨rfl, HBA.out⟩
  cases B2
  case true =>
    go_enter Tryz.func51, Tryz.ntmps51
    go_wp2
    go_ret
    exact ⟨rfl, HBA.out⟩
  cases B3
  all_goals
    go_enter Tryz.func51, Tryz.ntmps51
    go_wp2
    go_ret
    exact ⟨rfl, HBA.out⟩

def pkOne (t : Tn) : Bool := (t.kind == 4) || ((t.kind == 9) && (t.a == 0))

set_option maxRecDepth 10000 in
set_option maxHeartbeats 1000000 in
theorem pone_any (t : Tn) (V : World) :
    Calls Tryz.prog 67 #[t.val] V fun e V' => e = .returned (.bool (pkOne t)) ∧ Below V.heap.size V V' := by
  obtain ⟨kind, text, n, m, a, pos, doc, ad, cap, kids⟩ := t
  change Calls Tryz.prog 67 #[.agg #[.int .i64 kind, .string (strOfNums text), .int .i64 n, .int .i64 m, .int .i64 a, .int .i64 pos, .string (strOfNums doc), .slice ad kids.length cap]] V fun e V' => e = .returned (.bool ((kind == 4) || ((kind == 9) && (a == 0)))) ∧ Below V.heap.size V V'
  generalize strOfNums text = T1
  generalize strOfNums doc = T2
  have HBA : Hid (Below V.heap.size V (V.alloc (.cells #[.int .i64 kind, .string T1, .int .i64 n, .int .i64 m, .int .i64 a, .int .i64 pos, .string T2, .slice ad kids.length cap] 24))) := (Below.refl _ _).alloc (Nat.le_refl _) _
  generalize e0 : (kind == 4) = B0
  generalize e1 : (kind == 9) = B1
  generalize e2 : (a == 0) = B2
  cases B0
  case true =>
    go_enter Tryz.func67, Tryz.ntmps67
    go_wp2
    go_ret
    exact ⟨rfl, HBA.out⟩
  cases B1
  case false =>
    go_enter Tryz.func67, Tryz.ntmps67
    go_wp2
    go_ret
    exact ⟨rfl, HBA.out⟩
  cases B2
  all_goals
    go_enter Tryz.func67, Tryz.ntmps67
    go_wp2
    go_ret
    exact ⟨rfl, HBA.out⟩

set_option maxRecDepth 10000 in
set_option maxHeartbeats 1000000 in
theorem poneof_any {V : World} {ad : Option Addr} {cap : Nat} {kids : List Tn} (hk : Kl V ad cap kids) :
    Calls Tryz.prog 41 #[.slice ad kids.length cap] V fun e V' => e = .returned (.bool (kids.all pkOne)) ∧ Below V.heap.size V V' := by
  have q := peach_ask hk 67 Tryz.call67 #[] pkOne (fun i t hi U hU => pone_any t U)
  generalize kids.all pkOne = R at q ⊢
  generalize kids.length = N at q ⊢
  have Q : Hid _ := q
  clear q hk
  go_enter Tryz.func41, Tryz.ntmps41
  go_wp2_with fail
  refine Calls.mono Q.out ?_
  rintro e w1 ⟨rfl, hb⟩
  go_wp2
  go_ret
  exact ⟨rfl, hb⟩

/-- One or more of a kind. -/
def pkSome (kind : Int) (l : List Tn) : Bool := decide (0 < l.length) && l.all fun t => [kind].contains t.kind

set_option maxRecDepth 10000 in
set_option maxHeartbeats 2000000 in
theorem preserved_any {V : World} {ad : Option Addr} {cap : Nat} {kids : List Tn} (hT : TTab V) (hk : Kl V ad cap kids) (hs : ∀ (i : Nat) (t : Tn), kids[i]? = some t → TnShort t) :
    Calls Tryz.prog 43 #[.slice ad kids.length cap] V fun e V' => e = .returned (.bool (pkSome 14 kids || pkSome 15 kids)) ∧ Below V.heap.size V V' := by
  have q1 := psome_any V 14 (by omega) (by omega)
  have q2 := fun W => psome_any W 15 (by omega) (by omega)
  have q3 : ∀ k caps, Goin k → ∀ (w1 : World) (p : List Tn → Bool) (U : World), (∀ (V' : World) (ad : Option Addr) (cap : Nat) (kids : List Tn), Sin w1.heap.size U V' → TTab V' → Kl V' ad cap kids → (∀ (i : Nat) (t : Tn), kids[i]? = some t → TnShort t) → Calls Tryz.prog k (#[.slice ad kids.length cap] ++ caps) V' fun e V'' => e = .returned (.bool (p kids)) ∧ Below V'.heap.size V' V'') → Below V.heap.size V U → Calls Tryz.prog k (#[.slice ad kids.length cap] ++ caps) U fun e V'' => e = .returned (.bool (p kids)) ∧ Below U.heap.size U V'' :=
    fun k caps _ w1 p U h hU => h U ad cap kids (Sin.refl _ _) (hT.below hU (Nat.le_refl _)) (hk.under hU) hs
  have hl := hk.hlen
  generalize h1 : pkSome 14 kids = R1
  generalize h2 : pkSome 15 kids = R2
  have Q1 : Hid _ := q1
  have Q2 : Hid _ := q2
  have Q3 : Hid _ := q3
  have H1 : Hid _ := h1
  have H2 : Hid _ := h2
  clear q1 q2 q3 h1 h2 hk hs
  generalize hN : kids.length = N at *
  cases R1 with
  | true =>
    go_enter Tryz.func43, Tryz.ntmps43
    go_wp2_with fail
    refine Calls.mono Q1.out ?_
    rintro e w1 ⟨f, rfl, ⟨k, caps, rfl, hin, hask⟩, hb⟩
    have q := Q3.out k caps hin V _ w1 hask hb
    have HB : Hid (Below V.heap.size V w1) := hb
    have Q : Hid _ := q
    clear q hask hb
    unfold Goin at hin
    go_wp2_with fail
    refine Calls.mono Q.out ?_
    rintro e w2 ⟨rfl, hb2⟩
    have HB2 : Hid (Below V.heap.size V w2) := HB.out.trans (hb2.mono HB.out.size)
    have e1 : (decide (0 < kids.length) && kids.all fun t => [14].contains t.kind) = true := H1.out
    rw [e1]
    clear hb2 e1 hin
    go_wp2
    go_ret
    exact ⟨rfl, HB2.out⟩
  | false =>
    go_enter Tryz.func43, Tryz.ntmps43
    go_wp2_with fail
    refine Calls.mono Q1.out ?_
    rintro e w1 ⟨f, rfl, ⟨k, caps, rfl, hin, hask⟩, hb⟩
    have q := Q3.out k caps hin V _ w1 hask hb
    have HB : Hid (Below V.heap.size V w1) := hb
    have Q : Hid _ := q
    clear q hask hb
    unfold Goin at hin
    go_wp2_with fail
    refine Calls.mono Q.out ?_
    rintro e w2 ⟨rfl, hb2⟩
    have HB2 : Hid (Below V.heap.size V w2) := HB.out.trans (hb2.mono HB.out.size)
    have e1 : (decide (0 < kids.length) && kids.all fun t => [14].contains t.kind) = false := H1.out
    rw [e1]
    clear hb2 e1 hin Q
    go_wp2_with fail
    refine Calls.mono (Q2.out _) ?_
    rintro e w3 ⟨f, rfl, ⟨k2, caps2, rfl, hin2, hask2⟩, hb3⟩
    have HB3 : Hid (Below V.heap.size V w3) := HB2.out.trans (hb3.mono HB2.out.size)
    have Q : Hid _ := Q3.out k2 caps2 hin2 w2 _ w3 hask2 HB3.out
    clear hask2 hb3
    unfold Goin at hin2
    go_wp2_with fail
    refine Calls.mono Q.out ?_
    rintro e w4 ⟨rfl, hb4⟩
    have HB4 : Hid (Below V.heap.size V w4) := HB3.out.trans (hb4.mono HB3.out.size)
    have e1 : (decide (0 < kids.length) && kids.all fun t => [15].contains t.kind) = R2 := H2.out
    rw [e1]
    clear hb4 e1 hin2 Q
    go_wp2
    go_ret
    exact ⟨rfl, HB4.out⟩

end Go.Proofs.YtmoeibhenihhfaaGreatDoor
