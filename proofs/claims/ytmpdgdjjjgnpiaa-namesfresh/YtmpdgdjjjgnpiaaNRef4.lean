/- The contracts of the reference's own Word, Keyword. -/
import Derived.Test.YtmpdgdjjjgnpiaaNStr
namespace Go.Proofs.Ytmpdgdjjjgnpiaa
open Go.RowKit
set_option linter.unusedVariables false
set_option linter.unusedSimpArgs false

/-- The words of the plain types, each at its type's number. -/
def nwords : List (List Int) := [[], [100, 111, 117, 98, 108, 101], [102, 108, 111, 97, 116], [105, 110, 116, 54, 52], [117, 105, 110, 116, 54, 52], [105, 110, 116, 51, 50], [102, 105, 120, 101, 100, 54, 52], [102, 105, 120, 101, 100, 51, 50], [98, 111, 111, 108], [115, 116, 114, 105, 110, 103], [], [], [98, 121, 116, 101, 115], [117, 105, 110, 116, 51, 50], [], [115, 102, 105, 120, 101, 100, 51, 50], [115, 102, 105, 120, 101, 100, 54, 52], [115, 105, 110, 116, 51, 50], [115, 105, 110, 116, 54, 52]]

/-- The other words with a meaning. -/
def nkeys : List (List Int) := [[109, 101, 115, 115, 97, 103, 101], [101, 110, 117, 109], [101, 120, 116, 101, 110, 100], [101, 120, 116, 101, 110, 115, 105, 111, 110, 115], [111, 112, 116, 105, 111, 110], [111, 110, 101, 111, 102], [109, 97, 112], [114, 101, 115, 101, 114, 118, 101, 100], [111, 112, 116, 105, 111, 110, 97, 108], [114, 101, 113, 117, 105, 114, 101, 100], [114, 101, 112, 101, 97, 116, 101, 100], [114, 112, 99], [115, 101, 114, 118, 105, 99, 101], [105, 109, 112, 111, 114, 116], [112, 97, 99, 107, 97, 103, 101], [115, 121, 110, 116, 97, 120], [115, 116, 114, 101, 97, 109], [114, 101, 116, 117, 114, 110, 115], [116, 111], [109, 97, 120], [112, 117, 98, 108, 105, 99]]

def nwf (s : List Int) : List (List Int) → Nat → Nat
  | [], _ => 0
  | z :: r, k => if z ≠ [] ∧ z = s then k else nwf s r (k + 1)

/-- The type of a plain type's word; 0: none. -/
def nword (s : List Int) : Nat := nwf s nwords 0

def nkey (s : List Int) : Bool := decide (s ∈ nkeys) || decide (nword s ≠ 0)

theorem nwords_bd : ∀ z ∈ nwords, byts z := by unfold byts; decide

theorem nkeys_bd : ∀ z ∈ nkeys, byts z := by unfold byts; decide

theorem lit_cell (W : World) (C : Array Value) (zs : List (List Int)) (hC : C.toList = zs.map scell) (k : Nat) (z : List Int) (hz : zs[k]? = some z) : (W.alloc (.cells C 9)).cell? ⟨W.heap.size, k, none⟩ = some (.string (strOfNums z)) := by
  rw [World.cell?_alloc_new, ← Array.getElem?_toList, hC, List.getElem?_map, hz]
  rfl

set_option maxRecDepth 10000 in
set_option maxHeartbeats 2000000 in
theorem rword_any (s : List Int) (w : World) (hs : Hid (byts s)) :
    Calls Try.prog 35 #[.string (strOfNums s)] w fun e w' => e = .returned (.int .i64 (nword s : Int)) ∧ Below w.heap.size w w' := by
  have HC : Hid (∀ k z, nwords[k]? = some z → (w.alloc (.cells #[.string { data := #[] }, .string { data := #[100, 111, 117, 98, 108, 101] }, .string { data := #[102, 108, 111, 97, 116] }, .string { data := #[105, 110, 116, 54, 52] }, .string { data := #[117, 105, 110, 116, 54, 52] }, .string { data := #[105, 110, 116, 51, 50] }, .string { data := #[102, 105, 120, 101, 100, 54, 52] }, .string { data := #[102, 105, 120, 101, 100, 51, 50] }, .string { data := #[98, 111, 111, 108] }, .string { data := #[115, 116, 114, 105, 110, 103] }, .string { data := #[] }, .string { data := #[] }, .string { data := #[98, 121, 116, 101, 115] }, .string { data := #[117, 105, 110, 116, 51, 50] }, .string { data := #[] }, .string { data := #[115, 102, 105, 120, 101, 100, 51, 50] }, .string { data := #[115, 102, 105, 120, 101, 100, 54, 52] }, .string { data := #[115, 105, 110, 116, 51, 50] }, .string { data := #[115, 105, 110, 116, 54, 52] }] 9)).cell? ⟨w.heap.size, k, none⟩ = some (.string (strOfNums z))) := fun k z hz => lit_cell w _ nwords rfl k z hz
  have HBl : Hid (Below w.heap.size w (w.alloc (.cells #[.string { data := #[] }, .string { data := #[100, 111, 117, 98, 108, 101] }, .string { data := #[102, 108, 111, 97, 116] }, .string { data := #[105, 110, 116, 54, 52] }, .string { data := #[117, 105, 110, 116, 54, 52] }, .string { data := #[105, 110, 116, 51, 50] }, .string { data := #[102, 105, 120, 101, 100, 54, 52] }, .string { data := #[102, 105, 120, 101, 100, 51, 50] }, .string { data := #[98, 111, 111, 108] }, .string { data := #[115, 116, 114, 105, 110, 103] }, .string { data := #[] }, .string { data := #[] }, .string { data := #[98, 121, 116, 101, 115] }, .string { data := #[117, 105, 110, 116, 51, 50] }, .string { data := #[] }, .string { data := #[115, 102, 105, 120, 101, 100, 51, 50] }, .string { data := #[115, 102, 105, 120, 101, 100, 54, 52] }, .string { data := #[115, 105, 110, 116, 51, 50] }, .string { data := #[115, 105, 110, 116, 54, 52] }] 9))) := (Below.refl _ _).alloc (Nat.le_refl _) _
  obtain ⟨R, hR⟩ : ∃ R, R = nword s := ⟨_, rfl⟩
  rw [← hR]
  have HR : Hid (R = nwf s (nwords.drop 0) 0) := hR
  clear hR
  go_enter Try.func35, Try.ntmps35
  go_wp2
  go_loopw [7] (fun v wr => ∃ k : Nat, v = .int .i64 (k : Int) ∧ k ≤ 19 ∧ Hid (R = nwf s (nwords.drop k) k) ∧ w.alloc (.cells #[.string { data := #[] }, .string { data := #[100, 111, 117, 98, 108, 101] }, .string { data := #[102, 108, 111, 97, 116] }, .string { data := #[105, 110, 116, 54, 52] }, .string { data := #[117, 105, 110, 116, 54, 52] }, .string { data := #[105, 110, 116, 51, 50] }, .string { data := #[102, 105, 120, 101, 100, 54, 52] }, .string { data := #[102, 105, 120, 101, 100, 51, 50] }, .string { data := #[98, 111, 111, 108] }, .string { data := #[115, 116, 114, 105, 110, 103] }, .string { data := #[] }, .string { data := #[] }, .string { data := #[98, 121, 116, 101, 115] }, .string { data := #[117, 105, 110, 116, 51, 50] }, .string { data := #[] }, .string { data := #[115, 102, 105, 120, 101, 100, 51, 50] }, .string { data := #[115, 102, 105, 120, 101, 100, 54, 52] }, .string { data := #[115, 105, 110, 116, 51, 50] }, .string { data := #[115, 105, 110, 116, 54, 52] }] 9) = wr) (fun v _ => 19 - (intOf v).toNat)
  case atStart => exact ⟨0, rfl, by omega, HR, rfl⟩
  case round =>
    obtain ⟨k, rfl, hk, HJ, rfl⟩ := hrel
    by_cases hkl : k < 19
    · obtain ⟨z, hz⟩ : ∃ z, nwords[k]? = some z := ⟨nwords[k]'hkl, List.getElem?_eq_getElem hkl⟩
      have hcell := HC.out k z hz
      have hzb := nwords_bd z (List.mem_of_getElem? hz)
      have heq := str_eq hzb hs.out
      have HJ' := HJ.out
      rw [show nwords.drop k = z :: nwords.drop (k + 1) by
        rw [List.drop_eq_getElem_cons hkl]
        congr 1
        rw [List.getElem?_eq_getElem hkl] at hz
        exact Option.some.inj hz, nwf] at HJ'
      by_cases hz0 : z = []
      · rw [if_neg (fun h => h.1 hz0)] at HJ'
        have hne : ((strOfNums z).toList == []) = true := by rw [hz0, str_list]; rfl
        have HJ2 : Hid _ := HJ'
        generalize strOfNums z = Z at hcell hne heq
        generalize strOfNums s = X at heq ⊢
        clear HJ HJ' hz hzb hz0 heq
        go_wp2
        go_roundw
        case rel => first | exact ⟨k + 1, by go_num, by omega, HJ2, by first | rfl | trivial⟩ | ((repeat apply Exists.intro); exact ⟨⟨k + 1, by go_num, by omega, HJ2, by first | rfl | trivial⟩, rfl⟩)
        case measure => simp [intOf]; omega
      · have hne : ((strOfNums z).toList == []) = false := by
          cases z with
          | nil => exact absurd rfl hz0
          | cons c r => exact str_ne c r
        by_cases hzs : z = s
        · rw [if_pos ⟨hz0, hzs⟩] at HJ'
          have e' : (z == s) = true := by simpa using hzs
          rw [e'] at heq
          have HJ2 : Hid _ := HJ'
          generalize strOfNums z = Z at hcell hne heq
          generalize strOfNums s = X at heq ⊢
          clear HJ HJ' hz hzb hz0 hzs e'
          go_wp2
          go_ret
          exact ⟨by rw [HJ2.out]; rfl, HBl.out⟩
        · rw [if_neg (fun h => hzs h.2)] at HJ'
          have e' : (z == s) = false := by simpa using hzs
          rw [e'] at heq
          have HJ2 : Hid _ := HJ'
          generalize strOfNums z = Z at hcell hne heq
          generalize strOfNums s = X at heq ⊢
          clear HJ HJ' hz hzb hz0 hzs e'
          go_wp2
          go_roundw
          case rel => first | exact ⟨k + 1, by go_num, by omega, HJ2, by first | rfl | trivial⟩ | ((repeat apply Exists.intro); exact ⟨⟨k + 1, by go_num, by omega, HJ2, by first | rfl | trivial⟩, rfl⟩)
          case measure => simp [intOf]; omega
    · obtain rfl : k = 19 := by omega
      have E : Hid (R = 0) := by show _ = _; rw [HJ.out]; rfl
      clear HJ
      go_wp2
      go_ret
      exact ⟨by rw [E.out]; rfl, HBl.out⟩

set_option maxRecDepth 10000 in
set_option maxHeartbeats 2000000 in
theorem rkey_any (s : List Int) (w : World) (hs : Hid (byts s)) :
    Calls Try.prog 15 #[.string (strOfNums s)] w fun e w' => e = .returned (.bool (nkey s)) ∧ Below w.heap.size w w' := by
  have HC : Hid (∀ k z, nkeys[k]? = some z → (w.alloc (.cells #[.string { data := #[109, 101, 115, 115, 97, 103, 101] }, .string { data := #[101, 110, 117, 109] }, .string { data := #[101, 120, 116, 101, 110, 100] }, .string { data := #[101, 120, 116, 101, 110, 115, 105, 111, 110, 115] }, .string { data := #[111, 112, 116, 105, 111, 110] }, .string { data := #[111, 110, 101, 111, 102] }, .string { data := #[109, 97, 112] }, .string { data := #[114, 101, 115, 101, 114, 118, 101, 100] }, .string { data := #[111, 112, 116, 105, 111, 110, 97, 108] }, .string { data := #[114, 101, 113, 117, 105, 114, 101, 100] }, .string { data := #[114, 101, 112, 101, 97, 116, 101, 100] }, .string { data := #[114, 112, 99] }, .string { data := #[115, 101, 114, 118, 105, 99, 101] }, .string { data := #[105, 109, 112, 111, 114, 116] }, .string { data := #[112, 97, 99, 107, 97, 103, 101] }, .string { data := #[115, 121, 110, 116, 97, 120] }, .string { data := #[115, 116, 114, 101, 97, 109] }, .string { data := #[114, 101, 116, 117, 114, 110, 115] }, .string { data := #[116, 111] }, .string { data := #[109, 97, 120] }, .string { data := #[112, 117, 98, 108, 105, 99] }] 9)).cell? ⟨w.heap.size, k, none⟩ = some (.string (strOfNums z))) := fun k z hz => lit_cell w _ nkeys rfl k z hz
  have HBl : Hid (Below w.heap.size w (w.alloc (.cells #[.string { data := #[109, 101, 115, 115, 97, 103, 101] }, .string { data := #[101, 110, 117, 109] }, .string { data := #[101, 120, 116, 101, 110, 100] }, .string { data := #[101, 120, 116, 101, 110, 115, 105, 111, 110, 115] }, .string { data := #[111, 112, 116, 105, 111, 110] }, .string { data := #[111, 110, 101, 111, 102] }, .string { data := #[109, 97, 112] }, .string { data := #[114, 101, 115, 101, 114, 118, 101, 100] }, .string { data := #[111, 112, 116, 105, 111, 110, 97, 108] }, .string { data := #[114, 101, 113, 117, 105, 114, 101, 100] }, .string { data := #[114, 101, 112, 101, 97, 116, 101, 100] }, .string { data := #[114, 112, 99] }, .string { data := #[115, 101, 114, 118, 105, 99, 101] }, .string { data := #[105, 109, 112, 111, 114, 116] }, .string { data := #[112, 97, 99, 107, 97, 103, 101] }, .string { data := #[115, 121, 110, 116, 97, 120] }, .string { data := #[115, 116, 114, 101, 97, 109] }, .string { data := #[114, 101, 116, 117, 114, 110, 115] }, .string { data := #[116, 111] }, .string { data := #[109, 97, 120] }, .string { data := #[112, 117, 98, 108, 105, 99] }] 9))) := (Below.refl _ _).alloc (Nat.le_refl _) _
  have q := fun W => rword_any s W hs
  go_enter Try.func15, Try.ntmps15
  have QW : Hid _ := q
  clear q
  go_wp2
  go_loopw [7] (fun v wr => ∃ k : Nat, v = .int .i64 (k : Int) ∧ k ≤ 21 ∧ Hid (∀ j, j < k → nkeys[j]? ≠ some s) ∧ w.alloc (.cells #[.string { data := #[109, 101, 115, 115, 97, 103, 101] }, .string { data := #[101, 110, 117, 109] }, .string { data := #[101, 120, 116, 101, 110, 100] }, .string { data := #[101, 120, 116, 101, 110, 115, 105, 111, 110, 115] }, .string { data := #[111, 112, 116, 105, 111, 110] }, .string { data := #[111, 110, 101, 111, 102] }, .string { data := #[109, 97, 112] }, .string { data := #[114, 101, 115, 101, 114, 118, 101, 100] }, .string { data := #[111, 112, 116, 105, 111, 110, 97, 108] }, .string { data := #[114, 101, 113, 117, 105, 114, 101, 100] }, .string { data := #[114, 101, 112, 101, 97, 116, 101, 100] }, .string { data := #[114, 112, 99] }, .string { data := #[115, 101, 114, 118, 105, 99, 101] }, .string { data := #[105, 109, 112, 111, 114, 116] }, .string { data := #[112, 97, 99, 107, 97, 103, 101] }, .string { data := #[115, 121, 110, 116, 97, 120] }, .string { data := #[115, 116, 114, 101, 97, 109] }, .string { data := #[114, 101, 116, 117, 114, 110, 115] }, .string { data := #[116, 111] }, .string { data := #[109, 97, 120] }, .string { data := #[112, 117, 98, 108, 105, 99] }] 9) = wr) (fun v _ => 21 - (intOf v).toNat)
  case atStart => exact ⟨0, rfl, by omega, fun j hj => absurd hj (by omega), rfl⟩
  case round =>
    obtain ⟨k, rfl, hk, HJ, rfl⟩ := hrel
    by_cases hkl : k < 21
    · obtain ⟨z, hz⟩ : ∃ z, nkeys[k]? = some z := ⟨nkeys[k]'hkl, List.getElem?_eq_getElem hkl⟩
      have hcell := HC.out k z hz
      have hzb := nkeys_bd z (List.mem_of_getElem? hz)
      have heq := str_eq hzb hs.out
      by_cases hzs : z = s
      · have e' : (z == s) = true := by simpa using hzs
        rw [e'] at heq
        have E : Hid (nkey s = true) := by show _ = _; unfold nkey; rw [decide_eq_true (by rw [← hzs]; exact List.mem_of_getElem? hz)]; rfl
        generalize strOfNums z = Z at hcell heq
        generalize strOfNums s = X at heq QW ⊢
        clear HJ hz hzb hzs e'
        go_wp2
        go_ret
        exact ⟨by rw [E.out]; rfl, HBl.out⟩
      · have e' : (z == s) = false := by simpa using hzs
        rw [e'] at heq
        have HJ2 : Hid (∀ j, j < k + 1 → nkeys[j]? ≠ some s) := fun j hj => by
          by_cases q : j = k
          · rw [q, hz]; simpa using hzs
          · exact HJ.out j (by omega)
        generalize strOfNums z = Z at hcell heq
        generalize strOfNums s = X at heq QW ⊢
        clear HJ hz hzb hzs e'
        go_wp2
        go_roundw
        case rel => first | exact ⟨k + 1, by go_num, by omega, HJ2, by first | rfl | trivial⟩ | ((repeat apply Exists.intro); exact ⟨⟨k + 1, by go_num, by omega, HJ2, by first | rfl | trivial⟩, rfl⟩)
        case measure => simp [intOf]; omega
    · obtain rfl : k = 21 := by omega
      have hnm : ¬ s ∈ nkeys := fun hm => by
        obtain ⟨j, hj⟩ := List.getElem?_of_mem hm
        exact HJ.out j (List.getElem?_eq_some_iff.1 hj).1 hj
      have E : Hid (nkey s = decide (nword s ≠ 0)) := by show _ = _; unfold nkey; rw [decide_eq_false hnm]; rfl
      generalize nword s = n at E QW
      clear HJ hnm
      go_wp2_with fail
      refine Calls.mono (QW.out _) ?_
      rintro e w1 ⟨rfl, hb1⟩
      go_wp2
      go_ret
      refine ⟨?_, HBl.out.trans (hb1.mono HBl.out.size)⟩
      rw [E.out]
      by_cases h : n = 0
      · subst h; rfl
      · rw [decide_eq_true h]
        exact ret_bool (by simp; omega)

end Go.Proofs.Ytmpdgdjjjgnpiaa
