/- The contract of the document's own answer on the quoted text at a text's beginning (the reference's TakeText), over the turned text. -/
import Derived.Test.YtfkhocmbhnigeaaGreatQEsc
namespace Go.Proofs.YtfkhocmbhnigeaaGreat
open Go.RowKit
set_option linter.unusedVariables false
set_option linter.unusedSimpArgs false

theorem lit_bs1 (w : World) (c : Int) (h0 : 0 ≤ c) (h1 : c ≤ 255) : Bs (w.alloc (.cells #[.int .u8 c] 5)) (some ⟨w.heap.size, 0, none⟩) 1 1 [c] :=
  Bs.of_owns (zs := [c]) (own_lit w c) (by intro x hx; simp at hx; omega)

theorem qesc_out (s : List Int) : (qesc s).1.length ≤ (qesc s).2 := by
  cases s with
  | nil => simp [qesc]
  | cons c r =>
    have h5 := uput_len (qrn 16 4 r 0).1
    have h6 := uput_len (qrn 16 8 r 0).1
    suffices key : ∀ p, qesc (c :: r) = p → p.1.length ≤ p.2 from key _ rfl
    intro p
    rw [qesc]
    by_cases k0 : c = 97
    · rw [if_pos k0]; rintro rfl; simp
    rw [if_neg k0]
    by_cases k1 : c = 98
    · rw [if_pos k1]; rintro rfl; simp
    rw [if_neg k1]
    by_cases k2 : c = 102
    · rw [if_pos k2]; rintro rfl; simp
    rw [if_neg k2]
    by_cases k3 : c = 110
    · rw [if_pos k3]; rintro rfl; simp
    rw [if_neg k3]
    by_cases k4 : c = 114
    · rw [if_pos k4]; rintro rfl; simp
    rw [if_neg k4]
    by_cases k5 : c = 116
    · rw [if_pos k5]; rintro rfl; simp
    rw [if_neg k5]
    by_cases k6 : c = 118
    · rw [if_pos k6]; rintro rfl; simp
    rw [if_neg k6]
    by_cases k7 : c = 92 ∨ c = 39 ∨ c = 34 ∨ c = 63
    · rw [if_pos k7]; rintro rfl; simp
    rw [if_neg k7]
    by_cases m0 : c = 120 ∨ c = 88
    · rw [if_pos m0]
      by_cases j : 0 < (qrn 16 2 r 0).2
      · rw [if_pos j]; rintro rfl; simp only [List.length_cons, List.length_nil]; omega
      · rw [if_neg j]; rintro rfl; simp
    rw [if_neg m0]
    by_cases m1 : c = 117
    · rw [if_pos m1]
      by_cases j : (qrn 16 4 r 0).2 = 4 ∧ isCh (qrn 16 4 r 0).1 = true
      · rw [if_pos j]; rintro rfl; simp only [List.length_cons, List.length_nil]; omega
      · rw [if_neg j]; rintro rfl; simp
    rw [if_neg m1]
    by_cases m2 : c = 85
    · rw [if_pos m2]
      by_cases j : (qrn 16 8 r 0).2 = 8 ∧ isCh (qrn 16 8 r 0).1 = true
      · rw [if_pos j]; rintro rfl; simp only [List.length_cons, List.length_nil]; omega
      · rw [if_neg j]; rintro rfl; simp
    rw [if_neg m2]
    by_cases j : 0 < (qrn 8 3 (c :: r) 0).2 ∧ (qrn 8 3 (c :: r) 0).1 < 256
    · rw [if_pos j]; rintro rfl; simp only [List.length_cons, List.length_nil]; omega
    · rw [if_neg j]; rintro rfl; simp

theorem qtk_bd (q : Int) : ∀ (f : Nat) (s : List Int) (i : Int) (o : List Int), (∀ c ∈ s, 0 ≤ c ∧ c ≤ 255) → (∀ c ∈ o, 0 ≤ c ∧ c ≤ 255) → ∀ c ∈ (qtk q f s i o).1, 0 ≤ c ∧ c ≤ 255
  | 0, s, i, o, _, _ => by simp [qtk]
  | f + 1, [], i, o, _, _ => by simp [qtk]
  | f + 1, c :: r, i, o, h, ho => by
    have hr : ∀ c ∈ r, 0 ≤ c ∧ c ≤ 255 := fun x hx => h x (by simp [hx])
    rw [qtk]
    by_cases k1 : c = q
    · rw [if_pos k1]; exact ho
    rw [if_neg k1]
    by_cases k2 : c = 0 ∨ c = 10
    · rw [if_pos k2]; simp
    rw [if_neg k2]
    by_cases k3 : c = 92
    · rw [if_pos k3]
      by_cases k4 : (qesc r).2 = 0
      · rw [if_pos k4]; simp
      · rw [if_neg k4]
        exact qtk_bd q f _ _ _ (fun x hx => hr x (List.mem_of_mem_drop hx)) (fun x hx => (List.mem_append.1 hx).elim (ho x) (qesc_bd r hr x))
    · rw [if_neg k3]
      exact qtk_bd q f _ _ _ hr (fun x hx => (List.mem_append.1 hx).elim (ho x) (fun hx => by simp at hx; subst hx; exact h x (by simp)))

theorem qtake_bd (s : List Int) (h : ∀ c ∈ s, 0 ≤ c ∧ c ≤ 255) : ∀ c ∈ (qtake s).1, 0 ≤ c ∧ c ≤ 255 := by
  cases s with
  | nil => simp [qtake]
  | cons c r =>
    rw [qtake]
    by_cases k : c = 34 ∨ c = 39
    · rw [if_pos k]; exact qtk_bd c _ r 1 [] (fun x hx => h x (by simp [hx])) (by simp)
    · rw [if_neg k]; simp

/-- Every text is some numbers'. -/
theorem str_nums (s : ByteArray) : ∃ z : List Int, s = strOfNums z ∧ ∀ i, 0 ≤ z.getD i 0 ∧ z.getD i 0 ≤ 255 := by
  refine ⟨s.data.toList.map fun x => (x.toNat : Int), ?_, getD_bd ?_⟩
  · apply ByteArray.ext
    apply Array.ext'
    rw [strOfNums_data, List.map_map]
    conv => lhs; rw [← List.map_id s.data.toList]
    apply List.map_congr_left
    intro x _
    simp
  · intro c hc
    obtain ⟨x, _, rfl⟩ := List.mem_map.1 hc
    have := x.toNat_lt
    omega

theorem drop_at {l : List Int} {k : Nat} (h : k < l.length) : l.drop k = l.getD k 0 :: l.drop (k + 1) := by
  rw [List.drop_eq_getElem_cons h]
  simp [List.getD, List.getElem?_eq_getElem h]

end Go.Proofs.YtfkhocmbhnigeaaGreat
