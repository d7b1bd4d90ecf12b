/- The program's own layer 6: which signs a text has when it is ranged over; small, letter, digit, run, Ident. -/
import Derived.Test.YtfkhocmbhnigeaaGreatNRef3
import Derived.Test.YtfkhocmbhnigeaaGreatNRef4
import Derived.Test.YtfkhocmbhnigeaaGreatNRef5
import Derived.Lib.OthersKept
namespace Go.Proofs.YtfkhocmbhnigeaaGreat
open Go.RowKit
set_option linter.unusedVariables false
set_option linter.unusedSimpArgs false

def NTab (_ : World) : Prop := True

theorem NTab.below {w w' : World} (h : NTab w) {B : Nat} (hb : Below B w w') (hB : w.heap.size ≤ B) : NTab w' := trivial

/-- A sign beyond the plain ones takes up bytes that are all beyond 127. -/
theorem dec_wide (S : ByteArray) (p : Nat) (h : p < S.size) (ha : 128 ≤ (S.get! (p + 0)).toNat) : p + (Utf8.decode S p).2 ≤ S.size ∧ ∀ j, j < (Utf8.decode S p).2 → 128 ≤ (S.get! (p + j)).toNat := by
  have one : ∀ j, j < 1 → 128 ≤ (S.get! (p + j)).toNat := fun j hj => by rw [show j = 0 by omega]; exact ha
  have hn : ¬ (S.get! (p + 0)).toNat < 128 := by omega
  simp only [Utf8.decode, hn, if_false]
  split
  · rename_i h1
    simp only [Bool.and_eq_true, decide_eq_true_eq, beq_iff_eq] at h1
    split
    · refine ⟨by show p + 2 ≤ _; omega, fun j hj => ?_⟩
      have hj : j < 2 := hj
      rcases (show j = 0 ∨ j = 1 by omega) with rfl | rfl <;> omega
    · exact ⟨by show p + 1 ≤ _; omega, one⟩
  · split
    · rename_i h1
      simp only [Bool.and_eq_true, decide_eq_true_eq, beq_iff_eq] at h1
      split
      · refine ⟨by show p + 3 ≤ _; omega, fun j hj => ?_⟩
        have hj : j < 3 := hj
        rcases (show j = 0 ∨ j = 1 ∨ j = 2 by omega) with rfl | rfl | rfl <;> omega
      · exact ⟨by show p + 1 ≤ _; omega, one⟩
    · split
      · rename_i h1
        simp only [Bool.and_eq_true, decide_eq_true_eq, beq_iff_eq] at h1
        split
        · refine ⟨by show p + 4 ≤ _; omega, fun j hj => ?_⟩
          have hj : j < 4 := hj
          rcases (show j = 0 ∨ j = 1 ∨ j = 2 ∨ j = 3 by omega) with rfl | rfl | rfl | rfl <;> omega
        · exact ⟨by show p + 1 ≤ _; omega, one⟩
      · exact ⟨by show p + 1 ≤ _; omega, one⟩

/-- The sign at place k of a text, and how many bytes it takes. -/
theorem dec_at (s : List Int) (hz : ∀ i, 0 ≤ s.getD i 0 ∧ s.getD i 0 ≤ 255) (k : Nat) (hk : k < s.length) :
    (s.getD k 0 < 128 ∧ ((Utf8.decode (strOfNums s) k).1 : Int) = s.getD k 0 ∧ (Utf8.decode (strOfNums s) k).2 = 1) ∨
    (128 ≤ s.getD k 0 ∧ 128 ≤ ((Utf8.decode (strOfNums s) k).1 : Int) ∧ ((Utf8.decode (strOfNums s) k).1 : Int) ≤ 2147483647 ∧ 1 ≤ (Utf8.decode (strOfNums s) k).2 ∧ k + (Utf8.decode (strOfNums s) k).2 ≤ s.length ∧ ∀ j, k ≤ j → j < k + (Utf8.decode (strOfNums s) k).2 → 128 ≤ s.getD j 0) := by
  have hsz := strOfNums_size s
  have hk' : k < (strOfNums s).size := by rw [hsz]; exact hk
  have hat := str_at s hz k hk'
  by_cases ha : ((strOfNums s)[k]'hk').toNat < 128
  · left
    rw [decode_ascii _ k hk' ha]
    exact ⟨by omega, hat, rfl⟩
  · right
    obtain ⟨h1, h2⟩ := decode_high _ k hk' (by omega)
    have h3 := decode_le (strOfNums s) k
    obtain ⟨h4, h5⟩ := dec_wide _ k hk' (by rw [get_at _ k hk']; omega)
    rw [hsz] at h4
    refine ⟨by omega, by omega, by omega, h2, h4, fun j hj1 hj2 => ?_⟩
    have := h5 (j - k) (by omega)
    rw [show k + (j - k) = j by omega] at this
    have hj' : j < (strOfNums s).size := by omega
    have e := get_at (strOfNums s) j hj'
    rw [Nat.add_zero] at e
    rw [e] at this
    have := str_at s hz j hj'
    omega

def nlet (c : Int) : Bool := decide ((97 ≤ c ∧ c ≤ 122) ∨ (65 ≤ c ∧ c ≤ 90) ∨ c = 95)

def nok (s : List Int) (i : Nat) : Bool := nlet (s.getD i 0) || (lnumb (s.getD i 0) && decide (0 < i))

theorem nident_nok (s : List Int) (h1 : 1 ≤ s.length) (h2 : s.length ≤ 200) : nident s = decide (∀ i, i < s.length → nok s i = true) := by
  rw [Bool.eq_iff_iff, decide_eq_true_eq]
  unfold nident
  simp only [Bool.and_eq_true, List.all_eq_true, decide_eq_true_eq, Bool.not_eq_true']
  constructor
  · rintro ⟨⟨ha, _⟩, hb⟩ i hi
    have := ha (s.getD i 0) (by rw [show s.getD i 0 = s[i] by simp [List.getD, hi]]; exact List.getElem_mem hi)
    unfold lletter at this
    unfold nok nlet lnumb
    simp only [decide_eq_true_eq] at this
    simp only [Bool.or_eq_true, Bool.and_eq_true, decide_eq_true_eq]
    by_cases h0 : i = 0
    · subst h0
      unfold lnumb at hb
      rw [decide_eq_false_iff_not] at hb
      omega
    · omega
  · intro h
    refine ⟨⟨fun c hc => ?_, ⟨h1, h2⟩⟩, ?_⟩
    · obtain ⟨i, hi, rfl⟩ := List.getElem_of_mem hc
      have := h i hi
      rw [show s[i] = s.getD i 0 by simp [List.getD, hi]]
      unfold nok nlet lnumb at this
      unfold lletter
      simp only [Bool.or_eq_true, Bool.and_eq_true, decide_eq_true_eq] at this ⊢
      omega
    · have := h 0 (by omega)
      unfold nok nlet at this
      unfold lnumb at this ⊢
      rw [decide_eq_false_iff_not]
      simp only [Bool.or_eq_true, Bool.and_eq_true, decide_eq_true_eq] at this
      omega

def nsml (c : Int) : Bool := decide (97 ≤ c ∧ c ≤ 122)

end Go.Proofs.YtfkhocmbhnigeaaGreat
