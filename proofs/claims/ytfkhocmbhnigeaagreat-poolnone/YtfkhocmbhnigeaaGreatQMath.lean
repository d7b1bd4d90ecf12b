/- Quoted texts and numbers as plain functions over lists of numbers, and how they hang together. -/
import Derived.Test.YtfkhocmbhnigeaaGreatUMath
namespace Go.Proofs.YtfkhocmbhnigeaaGreat
set_option linter.unusedSimpArgs false

def dgt (c : Int) : Int := if 48 ≤ c ∧ c ≤ 57 then c - 48 else if 97 ≤ c ∧ c ≤ 102 then c - 87 else if 65 ≤ c ∧ c ≤ 70 then c - 55 else 99

theorem dgt_bd (c : Int) : 0 ≤ dgt c ∧ dgt c ≤ 99 := by unfold dgt; repeat' split <;> omega

/-- Digits of a base at the beginning, at most so many: what they come to, and how many. -/
def qrn (base : Int) : Nat → List Int → Int → Int × Nat
  | 0, _, n => (n, 0)
  | _ + 1, [], n => (n, 0)
  | f + 1, c :: r, n => if dgt c < base then ((qrn base f r (n * base + dgt c)).1, (qrn base f r (n * base + dgt c)).2 + 1) else (n, 0)

theorem qrn_le (base : Int) : ∀ (f : Nat) (s : List Int) (n : Int), (qrn base f s n).2 ≤ f ∧ (qrn base f s n).2 ≤ s.length
  | 0, s, n => ⟨Nat.le_refl _, Nat.zero_le _⟩
  | f + 1, [], n => ⟨Nat.zero_le _, Nat.zero_le _⟩
  | f + 1, c :: r, n => by
    unfold qrn
    split
    · have := qrn_le base f r (n * base + dgt c)
      simp only [List.length_cons]
      omega
    · simp

theorem qrn_bd (base : Int) (b0 : 0 ≤ base) (b1 : base ≤ 16) : ∀ (f : Nat) (s : List Int) (n : Int) (k : Nat), 0 ≤ n → n < ((16 ^ k : Nat) : Int) → 0 ≤ (qrn base f s n).1 ∧ (qrn base f s n).1 < ((16 ^ (k + f) : Nat) : Int)
  | 0, s, n, k, h0, h1 => ⟨h0, h1⟩
  | f + 1, [], n, k, h0, h1 => by
    have : 16 ^ k ≤ 16 ^ (k + (f + 1)) := Nat.pow_le_pow_right (by omega) (by omega)
    exact ⟨h0, show n < _ by omega⟩
  | f + 1, c :: r, n, k, h0, h1 => by
    have hd := dgt_bd c
    unfold qrn
    split
    · have e : n * base ≤ n * 16 := Int.mul_le_mul_of_nonneg_left b1 h0
      have e0 : 0 ≤ n * base := Int.mul_nonneg h0 b0
      have := qrn_bd base b0 b1 f r (n * base + dgt c) (k + 1) (by omega) (by rw [Nat.pow_succ]; omega)
      rw [show k + 1 + f = k + (f + 1) by omega] at this
      exact this
    · have : 16 ^ k ≤ 16 ^ (k + (f + 1)) := Nat.pow_le_pow_right (by omega) (by omega)
      exact ⟨h0, show n < _ by omega⟩

/-- What stands behind a backslash: the bytes, how many signs; 0: nothing that may. -/
def qesc : List Int → List Int × Nat
  | [] => ([], 0)
  | c :: r =>
    if c = 97 then ([7], 1) else if c = 98 then ([8], 1) else if c = 102 then ([12], 1) else if c = 110 then ([10], 1) else if c = 114 then ([13], 1) else if c = 116 then ([9], 1) else if c = 118 then ([11], 1)
    else if c = 92 ∨ c = 39 ∨ c = 34 ∨ c = 63 then ([c], 1)
    else if c = 120 ∨ c = 88 then (if 0 < (qrn 16 2 r 0).2 then ([(qrn 16 2 r 0).1], 1 + (qrn 16 2 r 0).2) else ([], 0))
    else if c = 117 then (if (qrn 16 4 r 0).2 = 4 ∧ isCh (qrn 16 4 r 0).1 = true then (uput (qrn 16 4 r 0).1, 5) else ([], 0))
    else if c = 85 then (if (qrn 16 8 r 0).2 = 8 ∧ isCh (qrn 16 8 r 0).1 = true then (uput (qrn 16 8 r 0).1, 9) else ([], 0))
    else (if 0 < (qrn 8 3 (c :: r) 0).2 ∧ (qrn 8 3 (c :: r) 0).1 < 256 then ([(qrn 8 3 (c :: r) 0).1], (qrn 8 3 (c :: r) 0).2) else ([], 0))

theorem qesc_le (s : List Int) : (qesc s).2 ≤ s.length ∧ (qesc s).2 ≤ 9 ∧ (qesc s).1.length ≤ 4 := by
  cases s with
  | nil => simp [qesc]
  | cons c r =>
    have h1 := qrn_le 16 2 r 0
    have h2 := qrn_le 16 4 r 0
    have h3 := qrn_le 16 8 r 0
    have h4 := qrn_le 8 3 (c :: r) 0
    have h5 := uput_len (qrn 16 4 r 0).1
    have h6 := uput_len (qrn 16 8 r 0).1
    simp only [List.length_cons] at *
    suffices key : ∀ p, qesc (c :: r) = p → p.2 ≤ r.length + 1 ∧ p.2 ≤ 9 ∧ p.1.length ≤ 4 from key _ rfl
    intro p
    rw [qesc]
    by_cases k0 : c = 97
    · rw [if_pos k0]; rintro rfl; first | (simp only [List.length_cons, List.length_nil]; omega) | (refine ⟨?_, ?_, ?_⟩ <;> simp only [] <;> omega)
    rw [if_neg k0]
    by_cases k1 : c = 98
    · rw [if_pos k1]; rintro rfl; first | (simp only [List.length_cons, List.length_nil]; omega) | (refine ⟨?_, ?_, ?_⟩ <;> simp only [] <;> omega)
    rw [if_neg k1]
    by_cases k2 : c = 102
    · rw [if_pos k2]; rintro rfl; first | (simp only [List.length_cons, List.length_nil]; omega) | (refine ⟨?_, ?_, ?_⟩ <;> simp only [] <;> omega)
    rw [if_neg k2]
    by_cases k3 : c = 110
    · rw [if_pos k3]; rintro rfl; first | (simp only [List.length_cons, List.length_nil]; omega) | (refine ⟨?_, ?_, ?_⟩ <;> simp only [] <;> omega)
    rw [if_neg k3]
    by_cases k4 : c = 114
    · rw [if_pos k4]; rintro rfl; first | (simp only [List.length_cons, List.length_nil]; omega) | (refine ⟨?_, ?_, ?_⟩ <;> simp only [] <;> omega)
    rw [if_neg k4]
    by_cases k5 : c = 116
    · rw [if_pos k5]; rintro rfl; first | (simp only [List.length_cons, List.length_nil]; omega) | (refine ⟨?_, ?_, ?_⟩ <;> simp only [] <;> omega)
    rw [if_neg k5]
    by_cases k6 : c = 118
    · rw [if_pos k6]; rintro rfl; first | (simp only [List.length_cons, List.length_nil]; omega) | (refine ⟨?_, ?_, ?_⟩ <;> simp only [] <;> omega)
    rw [if_neg k6]
    by_cases k7 : c = 92 ∨ c = 39 ∨ c = 34 ∨ c = 63
    · rw [if_pos k7]; rintro rfl; first | (simp only [List.length_cons, List.length_nil]; omega) | (refine ⟨?_, ?_, ?_⟩ <;> simp only [] <;> omega)
    rw [if_neg k7]
    by_cases m0 : c = 120 ∨ c = 88
    · rw [if_pos m0]
      by_cases j : 0 < (qrn 16 2 r 0).2
      · rw [if_pos j]; rintro rfl; first | (simp only [List.length_cons, List.length_nil]; omega) | (refine ⟨?_, ?_, ?_⟩ <;> simp only [] <;> omega)
      · rw [if_neg j]; rintro rfl; first | (simp only [List.length_cons, List.length_nil]; omega) | (refine ⟨?_, ?_, ?_⟩ <;> simp only [] <;> omega)
    rw [if_neg m0]
    by_cases m1 : c = 117
    · rw [if_pos m1]
      by_cases j : (qrn 16 4 r 0).2 = 4 ∧ isCh (qrn 16 4 r 0).1 = true
      · rw [if_pos j]; rintro rfl; first | (simp only [List.length_cons, List.length_nil]; omega) | (refine ⟨?_, ?_, ?_⟩ <;> simp only [] <;> omega)
      · rw [if_neg j]; rintro rfl; first | (simp only [List.length_cons, List.length_nil]; omega) | (refine ⟨?_, ?_, ?_⟩ <;> simp only [] <;> omega)
    rw [if_neg m1]
    by_cases m2 : c = 85
    · rw [if_pos m2]
      by_cases j : (qrn 16 8 r 0).2 = 8 ∧ isCh (qrn 16 8 r 0).1 = true
      · rw [if_pos j]; rintro rfl; first | (simp only [List.length_cons, List.length_nil]; omega) | (refine ⟨?_, ?_, ?_⟩ <;> simp only [] <;> omega)
      · rw [if_neg j]; rintro rfl; first | (simp only [List.length_cons, List.length_nil]; omega) | (refine ⟨?_, ?_, ?_⟩ <;> simp only [] <;> omega)
    rw [if_neg m2]
    by_cases j : 0 < (qrn 8 3 (c :: r) 0).2 ∧ (qrn 8 3 (c :: r) 0).1 < 256
    · rw [if_pos j]; rintro rfl; first | (simp only [List.length_cons, List.length_nil]; omega) | (refine ⟨?_, ?_, ?_⟩ <;> simp only [] <;> omega)
    · rw [if_neg j]; rintro rfl; first | (simp only [List.length_cons, List.length_nil]; omega) | (refine ⟨?_, ?_, ?_⟩ <;> simp only [] <;> omega)

theorem qesc_bd (s : List Int) (h : ∀ c ∈ s, 0 ≤ c ∧ c ≤ 255) : ∀ c ∈ (qesc s).1, 0 ≤ c ∧ c ≤ 255 := by
  cases s with
  | nil => simp [qesc]
  | cons c r =>
    have hc := h c (by simp)
    have h1 := qrn_bd 16 (by omega) (by omega) 2 r 0 0 (by omega) (by omega)
    have h4 := qrn_bd 8 (by omega) (by omega) 3 (c :: r) 0 0 (by omega) (by omega)
    have h5 := uput_bd (qrn 16 4 r 0).1
    have h6 := uput_bd (qrn 16 8 r 0).1
    simp only [show 16 ^ (0 + 2) = 256 from rfl] at h1
    suffices key : ∀ p, qesc (c :: r) = p → ∀ x ∈ p.1, 0 ≤ x ∧ x ≤ 255 from key _ rfl
    intro p
    rw [qesc]
    by_cases k0 : c = 97
    · rw [if_pos k0]; rintro rfl; first | exact h5 | exact h6 | (intro x hx; simp only [List.mem_cons, List.not_mem_nil, or_false] at hx; omega) | (intro x hx; cases hx; done)
    rw [if_neg k0]
    by_cases k1 : c = 98
    · rw [if_pos k1]; rintro rfl; first | exact h5 | exact h6 | (intro x hx; simp only [List.mem_cons, List.not_mem_nil, or_false] at hx; omega) | (intro x hx; cases hx; done)
    rw [if_neg k1]
    by_cases k2 : c = 102
    · rw [if_pos k2]; rintro rfl; first | exact h5 | exact h6 | (intro x hx; simp only [List.mem_cons, List.not_mem_nil, or_false] at hx; omega) | (intro x hx; cases hx; done)
    rw [if_neg k2]
    by_cases k3 : c = 110
    · rw [if_pos k3]; rintro rfl; first | exact h5 | exact h6 | (intro x hx; simp only [List.mem_cons, List.not_mem_nil, or_false] at hx; omega) | (intro x hx; cases hx; done)
    rw [if_neg k3]
    by_cases k4 : c = 114
    · rw [if_pos k4]; rintro rfl; first | exact h5 | exact h6 | (intro x hx; simp only [List.mem_cons, List.not_mem_nil, or_false] at hx; omega) | (intro x hx; cases hx; done)
    rw [if_neg k4]
    by_cases k5 : c = 116
    · rw [if_pos k5]; rintro rfl; first | exact h5 | exact h6 | (intro x hx; simp only [List.mem_cons, List.not_mem_nil, or_false] at hx; omega) | (intro x hx; cases hx; done)
    rw [if_neg k5]
    by_cases k6 : c = 118
    · rw [if_pos k6]; rintro rfl; first | exact h5 | exact h6 | (intro x hx; simp only [List.mem_cons, List.not_mem_nil, or_false] at hx; omega) | (intro x hx; cases hx; done)
    rw [if_neg k6]
    by_cases k7 : c = 92 ∨ c = 39 ∨ c = 34 ∨ c = 63
    · rw [if_pos k7]; rintro rfl; first | exact h5 | exact h6 | (intro x hx; simp only [List.mem_cons, List.not_mem_nil, or_false] at hx; omega) | (intro x hx; cases hx; done)
    rw [if_neg k7]
    by_cases m0 : c = 120 ∨ c = 88
    · rw [if_pos m0]
      by_cases j : 0 < (qrn 16 2 r 0).2
      · rw [if_pos j]; rintro rfl; first | exact h5 | exact h6 | (intro x hx; simp only [List.mem_cons, List.not_mem_nil, or_false] at hx; omega) | (intro x hx; cases hx; done)
      · rw [if_neg j]; rintro rfl; first | exact h5 | exact h6 | (intro x hx; simp only [List.mem_cons, List.not_mem_nil, or_false] at hx; omega) | (intro x hx; cases hx; done)
    rw [if_neg m0]
    by_cases m1 : c = 117
    · rw [if_pos m1]
      by_cases j : (qrn 16 4 r 0).2 = 4 ∧ isCh (qrn 16 4 r 0).1 = true
      · rw [if_pos j]; rintro rfl; first | exact h5 | exact h6 | (intro x hx; simp only [List.mem_cons, List.not_mem_nil, or_false] at hx; omega) | (intro x hx; cases hx; done)
      · rw [if_neg j]; rintro rfl; first | exact h5 | exact h6 | (intro x hx; simp only [List.mem_cons, List.not_mem_nil, or_false] at hx; omega) | (intro x hx; cases hx; done)
    rw [if_neg m1]
    by_cases m2 : c = 85
    · rw [if_pos m2]
      by_cases j : (qrn 16 8 r 0).2 = 8 ∧ isCh (qrn 16 8 r 0).1 = true
      · rw [if_pos j]; rintro rfl; first | exact h5 | exact h6 | (intro x hx; simp only [List.mem_cons, List.not_mem_nil, or_false] at hx; omega) | (intro x hx; cases hx; done)
      · rw [if_neg j]; rintro rfl; first | exact h5 | exact h6 | (intro x hx; simp only [List.mem_cons, List.not_mem_nil, or_false] at hx; omega) | (intro x hx; cases hx; done)
    rw [if_neg m2]
    by_cases j : 0 < (qrn 8 3 (c :: r) 0).2 ∧ (qrn 8 3 (c :: r) 0).1 < 256
    · rw [if_pos j]; rintro rfl; first | exact h5 | exact h6 | (intro x hx; simp only [List.mem_cons, List.not_mem_nil, or_false] at hx; omega) | (intro x hx; cases hx; done)
    · rw [if_neg j]; rintro rfl; first | exact h5 | exact h6 | (intro x hx; simp only [List.mem_cons, List.not_mem_nil, or_false] at hx; omega) | (intro x hx; cases hx; done)

/-- The quoted text behind its first sign q: at place i, with what has come out. -/
def qtk (q : Int) : Nat → List Int → Int → List Int → List Int × Int × Int
  | 0, _, i, _ => ([], i, 40)
  | _ + 1, [], i, _ => ([], i, 40)
  | f + 1, c :: r, i, out =>
    if c = q then (out, i + 1, 0)
    else if c = 0 ∨ c = 10 then ([], i, 40)
    else if c = 92 then (if (qesc r).2 = 0 then ([], i, 40) else qtk q f (r.drop (qesc r).2) (i + 1 + (qesc r).2) (out ++ (qesc r).1))
    else qtk q f r (i + 1) (out ++ [c])

theorem qtk_fuel (q : Int) : ∀ (f g : Nat) (s : List Int) (i : Int) (out : List Int), s.length ≤ f → s.length ≤ g → qtk q f s i out = qtk q g s i out
  | 0, 0, s, i, out, _, _ => rfl
  | 0, g + 1, s, i, out, h, _ => by obtain rfl : s = [] := List.eq_nil_of_length_eq_zero (by omega); rfl
  | f + 1, 0, s, i, out, _, h => by obtain rfl : s = [] := List.eq_nil_of_length_eq_zero (by omega); rfl
  | f + 1, g + 1, [], i, out, _, _ => rfl
  | f + 1, g + 1, c :: r, i, out, h1, h2 => by
    simp only [List.length_cons] at h1 h2
    unfold qtk
    rw [qtk_fuel q f g r (i + 1) (out ++ [c]) (by omega) (by omega), qtk_fuel q f g (r.drop (qesc r).2) _ _ (by simp; omega) (by simp; omega)]

def qtake (s : List Int) : List Int × Int × Int :=
  match s with
  | [] => ([], 0, 40)
  | c :: r => if c = 34 ∨ c = 39 then qtk c r.length r 1 [] else ([], 0, 40)

/-- The number that digits of a base write, and whether they do. -/
def qnm (base : Int) : List Int → Int → Int × Bool
  | [], n => (n, true)
  | c :: r, n => if base ≤ dgt c ∨ (18446744073709551615 - dgt c) / base < n then (0, false) else qnm base r (n * base + dgt c)

def qnum (s : List Int) : Int × Bool :=
  if 2 < s.length ∧ s.getD 0 0 = 48 ∧ (s.getD 1 0 = 120 ∨ s.getD 1 0 = 88) then qnm 16 (s.drop 2) 0
  else if 1 < s.length ∧ s.getD 0 0 = 48 then qnm 8 (s.drop 1) 0
  else if s = [] then (0, false) else qnm 10 s 0

/-- Decimal digits. -/
def qdg : Nat → Int → List Int
  | 0, _ => []
  | f + 1, n => if n < 10 then [48 + n] else qdg f (n / 10) ++ [48 + n % 10]

/-- A byte as it stands in a quoted text. -/
def qch (c : Int) : List Int :=
  if c = 34 ∨ c = 92 then [92, c] else if c = 9 then [92, 116] else if c = 10 then [92, 110] else if c = 13 then [92, 114]
  else if 32 ≤ c ∧ c ≤ 126 then [c] else [92, 48 + c / 64, 48 + c / 8 % 8, 48 + c % 8]

def qtext (b : List Int) : List Int := 34 :: (b.flatMap qch ++ [34])

/-! ### How they hang together -/
theorem dgt_oct (d : Int) (h0 : 0 ≤ d) (h1 : d ≤ 9) : dgt (48 + d) = d := by unfold dgt; rw [if_pos (by omega)]; omega

/-- Three octal digits come to their number, whatever stands behind. -/
theorem qrn_oct (c : Int) (h0 : 0 ≤ c) (h1 : c ≤ 255) (r : List Int) : qrn 8 3 ((48 + c / 64) :: (48 + c / 8 % 8) :: (48 + c % 8) :: r) 0 = (c, 3) := by
  simp only [qrn, dgt_oct (c / 64) (by omega) (by omega), dgt_oct (c / 8 % 8) (by omega) (by omega), dgt_oct (c % 8) (by omega) (by omega)]
  rw [if_pos (by omega), if_pos (by omega), if_pos (by omega)]
  simp only [Prod.mk.injEq, and_true]
  omega

theorem qesc_oct (c : Int) (h0 : 0 ≤ c) (h1 : c ≤ 255) (r : List Int) : qesc ((48 + c / 64) :: (48 + c / 8 % 8) :: (48 + c % 8) :: r) = ([c], 3) := by
  rw [qesc]
  rw [if_neg (by omega), if_neg (by omega), if_neg (by omega), if_neg (by omega), if_neg (by omega), if_neg (by omega), if_neg (by omega), if_neg (by omega), if_neg (by omega), if_neg (by omega), if_neg (by omega), qrn_oct c h0 h1 r, if_pos (by omega)]

/-- One byte's signs are taken as that byte. -/
theorem qtk_ch (c : Int) (h0 : 0 ≤ c) (h1 : c ≤ 255) (f : Nat) (r : List Int) (i : Int) (out : List Int) (hf : r.length ≤ f) :
    qtk 34 (f + (qch c).length) (qch c ++ r) i out = qtk 34 f r (i + (qch c).length) (out ++ [c]) := by
  unfold qch
  split
  · rename_i h
    simp only [List.length_cons, List.length_nil, List.cons_append, List.nil_append]
    rw [show f + (0 + 1 + 1) = (f + 1) + 1 by omega, qtk, if_neg (by omega), if_neg (by omega), if_pos rfl]
    have e : qesc (c :: r) = ([c], 1) := by
      rw [qesc]
      rw [if_neg (by omega), if_neg (by omega), if_neg (by omega), if_neg (by omega), if_neg (by omega), if_neg (by omega), if_neg (by omega), if_pos (by omega)]
    rw [e, if_neg (by simp)]
    simp only [List.drop_succ_cons, List.drop_zero]
    rw [qtk_fuel 34 (f + 1) f r _ _ (by omega) hf]
    congr 1; omega
  split
  · rename_i h
    subst h
    simp only [List.length_cons, List.length_nil, List.cons_append, List.nil_append]
    rw [show f + (0 + 1 + 1) = (f + 1) + 1 by omega, qtk, if_neg (by omega), if_neg (by omega), if_pos rfl]
    have e : qesc (116 :: r) = ([9], 1) := by simp [qesc]
    rw [e, if_neg (by simp)]
    simp only [List.drop_succ_cons, List.drop_zero]
    rw [qtk_fuel 34 (f + 1) f r _ _ (by omega) hf]
    congr 1; omega
  split
  · rename_i h
    subst h
    simp only [List.length_cons, List.length_nil, List.cons_append, List.nil_append]
    rw [show f + (0 + 1 + 1) = (f + 1) + 1 by omega, qtk, if_neg (by omega), if_neg (by omega), if_pos rfl]
    have e : qesc (110 :: r) = ([10], 1) := by simp [qesc]
    rw [e, if_neg (by simp)]
    simp only [List.drop_succ_cons, List.drop_zero]
    rw [qtk_fuel 34 (f + 1) f r _ _ (by omega) hf]
    congr 1; omega
  split
  · rename_i h
    subst h
    simp only [List.length_cons, List.length_nil, List.cons_append, List.nil_append]
    rw [show f + (0 + 1 + 1) = (f + 1) + 1 by omega, qtk, if_neg (by omega), if_neg (by omega), if_pos rfl]
    have e : qesc (114 :: r) = ([13], 1) := by simp [qesc]
    rw [e, if_neg (by simp)]
    simp only [List.drop_succ_cons, List.drop_zero]
    rw [qtk_fuel 34 (f + 1) f r _ _ (by omega) hf]
    congr 1; omega
  split
  · simp only [List.length_cons, List.length_nil, List.cons_append, List.nil_append]
    rw [show f + (0 + 1) = f + 1 by omega, qtk, if_neg (by omega), if_neg (by omega), if_neg (by omega)]
    congr 1
  · simp only [List.length_cons, List.length_nil, List.cons_append, List.nil_append]
    rw [show f + (0 + 1 + 1 + 1 + 1) = (f + 3) + 1 by omega, qtk, if_neg (by omega), if_neg (by omega), if_pos rfl, qesc_oct c h0 h1 r, if_neg (by simp)]
    simp only [List.drop_succ_cons, List.drop_zero]
    rw [qtk_fuel 34 (f + 3) f r _ _ (by omega) hf]
    congr 1; omega

theorem qtk_all : ∀ (b : List Int) (f : Nat) (m : List Int) (i : Int) (out : List Int), (∀ c ∈ b, 0 ≤ c ∧ c ≤ 255) → (b.flatMap qch).length + m.length + 1 ≤ f →
    qtk 34 f (b.flatMap qch ++ 34 :: m) i out = (out ++ b, i + (b.flatMap qch).length + 1, 0)
  | [], f, m, i, out, _, hf => by
    obtain ⟨g, rfl⟩ : ∃ g, f = g + 1 := ⟨f - 1, by omega⟩
    simp [qtk]
  | c :: b, f, m, i, out, h, hf => by
    have hc := h c (by simp)
    simp only [List.flatMap_cons, List.length_append] at hf ⊢
    obtain ⟨g, rfl⟩ : ∃ g, f = g + (qch c).length := ⟨f - (qch c).length, by omega⟩
    rw [List.append_assoc, qtk_ch c hc.1 hc.2 g _ i out (by simp only [List.length_append, List.length_cons]; omega), qtk_all b g m _ _ (fun x hx => h x (by simp [hx])) (by omega)]
    simp only [List.append_assoc, List.cons_append, List.nil_append, Prod.mk.injEq, true_and, and_true]
    omega

/-- What is quoted is taken again, whatever stands behind. -/
theorem qtake_qtext (b m : List Int) (h : ∀ c ∈ b, 0 ≤ c ∧ c ≤ 255) : qtake (qtext b ++ m) = (b, ((qtext b).length : Int), 0) := by
  have : qtext b ++ m = 34 :: (b.flatMap qch ++ 34 :: m) := by simp [qtext]
  rw [this, qtake]
  simp only
  rw [if_pos (Or.inl trivial), qtk_all b _ m 1 [] h (by simp only [List.length_append, List.length_cons]; omega)]
  simp only [qtext, List.nil_append, List.length_append, List.length_cons, List.length_nil, Prod.mk.injEq, true_and, and_true]
  omega

theorem qch_len (c : Int) : 1 ≤ (qch c).length ∧ (qch c).length ≤ 4 := by
  unfold qch
  repeat' split
  all_goals simp

/-- Only signs that can be seen, and blanks. -/
theorem qch_plain (c : Int) (h0 : 0 ≤ c) (h1 : c ≤ 255) : ∀ x ∈ qch c, 32 ≤ x ∧ x ≤ 126 := by
  intro x hx
  unfold qch at hx
  by_cases k1 : c = 34 ∨ c = 92
  · rw [if_pos k1] at hx; simp at hx; omega
  rw [if_neg k1] at hx
  by_cases k2 : c = 9
  · rw [if_pos k2] at hx; simp at hx; omega
  rw [if_neg k2] at hx
  by_cases k3 : c = 10
  · rw [if_pos k3] at hx; simp at hx; omega
  rw [if_neg k3] at hx
  by_cases k4 : c = 13
  · rw [if_pos k4] at hx; simp at hx; omega
  rw [if_neg k4] at hx
  by_cases k5 : 32 ≤ c ∧ c ≤ 126
  · rw [if_pos k5] at hx; simp at hx; omega
  rw [if_neg k5] at hx; simp at hx; omega

theorem qtext_plain (b : List Int) (h : ∀ c ∈ b, 0 ≤ c ∧ c ≤ 255) : ∀ x ∈ qtext b, 32 ≤ x ∧ x ≤ 126 := by
  intro x hx
  simp only [qtext, List.mem_cons, List.mem_append, List.mem_flatMap, List.not_mem_nil, or_false] at hx
  rcases hx with rfl | ⟨c, hc, hx⟩ | rfl
  · omega
  · exact qch_plain c (h c hc).1 (h c hc).2 x hx
  · omega

theorem flat_len : ∀ b : List Int, (b.flatMap qch).length ≤ 4 * b.length
  | [] => by simp
  | c :: b => by
    have := qch_len c
    have := flat_len b
    simp only [List.flatMap_cons, List.length_append, List.length_cons]
    omega

theorem qtext_len (b : List Int) : (qtext b).length = (b.flatMap qch).length + 2 := by simp [qtext]

/-- Two texts are quoted as one. -/
theorem qtext_append (a b : List Int) : qtext (a ++ b) = (qtext a).take ((qtext a).length - 1) ++ (qtext b).drop 1 := by
  have e : (qtext a).take ((qtext a).length - 1) = 34 :: a.flatMap qch := by
    rw [qtext_len]
    simp [qtext]
  rw [e]
  simp [qtext]

/-- A byte's signs, cut: they are taken as something and then the text ends, or not at all. -/
theorem qtk_part (c : Int) (h0 : 0 ≤ c) (h1 : c ≤ 255) (j f : Nat) (i : Int) (out : List Int) (hj : j < (qch c).length) : ∃ k : Int, qtk 34 f ((qch c).take j) i out = ([], k, 40) ∧ i ≤ k ∧ k ≤ i + j := by
  cases f with
  | zero => exact ⟨i, rfl, by omega, by omega⟩
  | succ f =>
    cases j with
    | zero => exact ⟨i, by simp [qtk], by omega, by omega⟩
    | succ j =>
      have hnil : qesc [] = ([], 0) := rfl
      have two : ∀ x, (qch c) = [92, x] → ∃ k : Int, qtk 34 (f + 1) ((qch c).take (j + 1)) i out = ([], k, 40) ∧ i ≤ k ∧ k ≤ i + ((j + 1 : Nat) : Int) := by
        intro x hx
        rw [hx] at hj ⊢
        obtain rfl : j = 0 := by simp only [List.length_cons, List.length_nil] at hj; omega
        exact ⟨i, by simp [qtk, hnil], by omega, by omega⟩
      unfold qch at two hj ⊢
      by_cases k1 : c = 34 ∨ c = 92
      · rw [if_pos k1] at two ⊢; exact two _ rfl
      rw [if_neg k1] at two hj ⊢
      by_cases k2 : c = 9
      · rw [if_pos k2] at two ⊢; exact two _ rfl
      rw [if_neg k2] at two hj ⊢
      by_cases k3 : c = 10
      · rw [if_pos k3] at two ⊢; exact two _ rfl
      rw [if_neg k3] at two hj ⊢
      by_cases k4 : c = 13
      · rw [if_pos k4] at two ⊢; exact two _ rfl
      rw [if_neg k4] at two hj ⊢
      by_cases k5 : 32 ≤ c ∧ c ≤ 126
      · rw [if_pos k5] at hj; simp at hj
      rw [if_neg k5] at hj ⊢
      clear two
      simp at hj
      have d1 := dgt_oct (c / 64) (by omega) (by omega)
      have d2 := dgt_oct (c / 8 % 8) (by omega) (by omega)
      have hj' : j = 0 ∨ j = 1 ∨ j = 2 := by omega
      rcases hj' with rfl | rfl | rfl
      · exact ⟨i, by simp [qtk, hnil], by omega, by omega⟩
      · have e : qesc [48 + c / 64] = ([c / 64], 1) := by
          have q : qrn 8 3 [48 + c / 64] 0 = (c / 64, 1) := by
            simp only [qrn, d1]
            rw [if_pos (by omega)]
            simp
          rw [qesc, if_neg (by omega), if_neg (by omega), if_neg (by omega), if_neg (by omega), if_neg (by omega), if_neg (by omega), if_neg (by omega), if_neg (by omega), if_neg (by omega), if_neg (by omega), if_neg (by omega), q, if_pos (by omega)]
        refine ⟨i + 1 + (1 : Nat), ?_, by omega, by omega⟩
        simp only [List.take_succ_cons, List.take_zero]
        rw [qtk, if_neg (by omega), if_neg (by omega), if_pos rfl, e, if_neg (by simp)]
        cases f <;> simp [qtk]
      · have e : qesc [48 + c / 64, 48 + c / 8 % 8] = ([c / 64 * 8 + c / 8 % 8], 2) := by
          have q : qrn 8 3 [48 + c / 64, 48 + c / 8 % 8] 0 = (c / 64 * 8 + c / 8 % 8, 2) := by
            simp only [qrn, d1, d2]
            rw [if_pos (by omega), if_pos (by omega)]
            simp
          rw [qesc, if_neg (by omega), if_neg (by omega), if_neg (by omega), if_neg (by omega), if_neg (by omega), if_neg (by omega), if_neg (by omega), if_neg (by omega), if_neg (by omega), if_neg (by omega), if_neg (by omega), q, if_pos (by omega)]
        refine ⟨i + 1 + (2 : Nat), ?_, by omega, by omega⟩
        simp only [List.take_succ_cons, List.take_zero]
        rw [qtk, if_neg (by omega), if_neg (by omega), if_pos rfl, e, if_neg (by simp)]
        cases f <;> simp [qtk]

theorem qtk_cut : ∀ (b : List Int) (j f : Nat) (i : Int) (out : List Int), (∀ c ∈ b, 0 ≤ c ∧ c ≤ 255) → j ≤ (b.flatMap qch).length → j ≤ f → ∃ k : Int, qtk 34 f ((b.flatMap qch).take j) i out = ([], k, 40) ∧ i ≤ k ∧ k ≤ i + j
  | [], j, f, i, out, _, hj, hf => by
    simp at hj
    subst hj
    cases f <;> exact ⟨i, by simp [qtk], by omega, by omega⟩
  | c :: b, j, f, i, out, h, hj, hf => by
    have hc := h c (by simp)
    simp only [List.flatMap_cons, List.length_append] at hj ⊢
    by_cases hl : j < (qch c).length
    · rw [List.take_append_of_le_length (by omega)]
      exact qtk_part c hc.1 hc.2 j f i out hl
    · obtain ⟨g, rfl⟩ : ∃ g, f = g + (qch c).length := ⟨f - (qch c).length, by omega⟩
      obtain ⟨t, rfl⟩ : ∃ t, j = (qch c).length + t := ⟨j - (qch c).length, by omega⟩
      rw [List.take_length_add_append, qtk_ch c hc.1 hc.2 g _ i out (by simp only [List.length_take]; omega)]
      obtain ⟨k, e, h1, h2⟩ := qtk_cut b t g (i + (qch c).length) (out ++ [c]) (fun x hx => h x (by simp [hx])) (by omega) (by omega)
      exact ⟨k, e, by omega, by omega⟩

/-- A quoted text that is cut off is none. -/
theorem qtake_cut (b : List Int) (cut : Nat) (h : ∀ c ∈ b, 0 ≤ c ∧ c ≤ 255) (h1 : 1 ≤ cut) (h2 : cut < (qtext b).length) : ∃ k : Int, qtake ((qtext b).take cut) = ([], k, 40) ∧ 0 ≤ k ∧ k ≤ cut := by
  rw [qtext_len] at h2
  obtain ⟨j, rfl⟩ : ∃ j, cut = j + 1 := ⟨cut - 1, by omega⟩
  have e : (qtext b).take (j + 1) = 34 :: (b.flatMap qch).take j := by
    rw [qtext, List.take_succ_cons, List.take_append_of_le_length (by omega)]
  rw [e, qtake]
  simp only
  rw [if_pos (Or.inl trivial)]
  obtain ⟨k, e, h3, h4⟩ := qtk_cut b j ((b.flatMap qch).take j).length 1 [] h (by omega) (by simp only [List.length_take]; omega)
  exact ⟨k, e, by omega, by omega⟩

/-! ### Digits -/
theorem qdg_ten (f : Nat) (n : Int) (h : n < 10) : qdg (f + 1) n = [48 + n] := by rw [qdg, if_pos h]

theorem qdg_more (f : Nat) (n : Int) (h : 10 ≤ n) : qdg (f + 1) n = qdg f (n / 10) ++ [48 + n % 10] := by rw [qdg, if_neg (by omega)]

theorem qdg_bd : ∀ (f : Nat) (n : Int), 0 ≤ n → (∀ c ∈ qdg f n, 48 ≤ c ∧ c ≤ 57) ∧ (qdg f n).length ≤ f
  | 0, n, h => by simp [qdg]
  | f + 1, n, h => by
    by_cases k : n < 10
    · rw [qdg_ten f n k]; simp; omega
    · rw [qdg_more f n (by omega)]
      have := qdg_bd f (n / 10) (by omega)
      refine ⟨fun c hc => ?_, by simp; omega⟩
      rcases List.mem_append.1 hc with hc | hc
      · exact this.1 c hc
      · simp at hc; omega

/-- The first digit is a nought only where it stands alone. -/
theorem qdg_head : ∀ (f : Nat) (n : Int), 0 ≤ n → 1 ≤ f → n < 10 ^ f → ∃ d r, qdg f n = (48 + d) :: r ∧ 0 ≤ d ∧ d ≤ 9 ∧ (d = 0 → n = 0)
  | 0, n, _, h, _ => by omega
  | f + 1, n, h0, _, hf => by
    by_cases k : n < 10
    · exact ⟨n, [], qdg_ten f n k, h0, by omega, fun h => h⟩
    · rw [qdg_more f n (by omega)]
      cases f with
      | zero => simp at hf; omega
      | succ f =>
        obtain ⟨d, r, e, h1, h2, h3⟩ := qdg_head (f + 1) (n / 10) (by omega) (by omega) (by rw [Int.pow_succ] at hf; omega)
        exact ⟨d, r ++ [48 + n % 10], by rw [e]; rfl, h1, h2, fun h => absurd (h3 h) (by omega)⟩

theorem qnm_one (s : List Int) (c : Int) (base : Int) : ∀ n, (qnm base s n).2 = true → qnm base (s ++ [c]) n = qnm base [c] (qnm base s n).1 := by
  induction s with
  | nil => intro n _; rfl
  | cons x s ih =>
    intro n h
    by_cases k : base ≤ dgt x ∨ (18446744073709551615 - dgt x) / base < n
    · simp [qnm, k] at h
    · rw [List.cons_append, qnm, if_neg k]
      rw [qnm, if_neg k] at h
      rw [ih _ h]
      congr 1
      rw [qnm, if_neg k]

theorem qnm_qdg : ∀ (f : Nat) (n : Int), 0 ≤ n → n ≤ 18446744073709551615 → 1 ≤ f → n < 10 ^ f → qnm 10 (qdg f n) 0 = (n, true)
  | 0, n, _, _, h, _ => by omega
  | f + 1, n, h0, h1, _, hf => by
    by_cases k : n < 10
    · rw [qdg_ten f n k, qnm, dgt_oct n h0 (by omega), if_neg (by omega)]
      simp [qnm]
    · rw [qdg_more f n (by omega)]
      cases f with
      | zero => simp at hf; omega
      | succ f =>
        have ih := qnm_qdg (f + 1) (n / 10) (by omega) (by omega) (by omega) (by rw [Int.pow_succ] at hf; omega)
        rw [qnm_one _ _ _ _ (by rw [ih]), ih, qnm, dgt_oct (n % 10) (by omega) (by omega), if_neg (by omega)]
        simp only [qnm, Prod.mk.injEq, and_true]
        omega

/-- The digits are the number again. -/
theorem qnum_qdg (n : Int) (h0 : 0 ≤ n) (h1 : n ≤ 18446744073709551615) : qnum (qdg 20 n) = (n, true) := by
  have hf : n < 10 ^ 20 := by omega
  obtain ⟨d, r, e, d0, d9, hd⟩ := qdg_head 20 n h0 (by omega) hf
  have q := qnm_qdg 20 n h0 h1 (by omega) hf
  by_cases hz : n = 0
  · subst hz; decide
  · have hd0 : d ≠ 0 := fun h => hz (hd h)
    rw [e] at q ⊢
    unfold qnum
    rw [if_neg (by simp only [List.getD_cons_zero]; omega), if_neg (by simp only [List.getD_cons_zero]; omega), if_neg (by simp), q]

end Go.Proofs.YtfkhocmbhnigeaaGreat
