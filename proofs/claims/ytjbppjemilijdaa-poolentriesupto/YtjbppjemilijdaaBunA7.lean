/- Put together by a program out of these texts of mine: UMath, QMath, LMath. -/
import Derived.WalkKit

/- Characters as bytes: the document's plain functions (what Put answers, what stands at the beginning of bytes, how many there are) and how they hang together. -/
namespace Go.Proofs.Ytjbppjemilijdaa

def isCh (n : Int) : Bool := decide (0 ≤ n) && decide (n ≤ 1114111) && (decide (n < 55296) || decide (57343 < n))

theorem isCh_iff (n : Int) : isCh n = true ↔ 0 ≤ n ∧ n ≤ 1114111 ∧ (n < 55296 ∨ 57343 < n) := by
  simp [isCh, and_assoc]

def uput (n : Int) : List Int :=
  if isCh n = true then
    if n < 128 then [n]
    else if n < 2048 then [192 + n / 64, 128 + n % 64]
    else if n < 65536 then [224 + n / 4096, 128 + n / 64 % 64, 128 + n % 64]
    else [240 + n / 262144, 128 + n / 4096 % 64, 128 + n / 64 % 64, 128 + n % 64]
  else []

theorem uput_no {n : Int} (h : isCh n = false) : uput n = [] := by simp [uput, h]

theorem uput_1 {n : Int} (h0 : 0 ≤ n) (h1 : n < 128) : uput n = [n] := by
  rw [uput, if_pos ((isCh_iff n).2 ⟨h0, by omega, by omega⟩), if_pos h1]

theorem uput_2 {n : Int} (h0 : 128 ≤ n) (h1 : n < 2048) : uput n = [192 + n / 64, 128 + n % 64] := by
  rw [uput, if_pos ((isCh_iff n).2 ⟨by omega, by omega, by omega⟩), if_neg (by omega), if_pos h1]

theorem uput_3 {n : Int} (h0 : 2048 ≤ n) (h1 : n < 65536) (hs : n < 55296 ∨ 57343 < n) : uput n = [224 + n / 4096, 128 + n / 64 % 64, 128 + n % 64] := by
  rw [uput, if_pos ((isCh_iff n).2 ⟨by omega, by omega, hs⟩), if_neg (by omega), if_neg (by omega), if_pos h1]

theorem uput_4 {n : Int} (h0 : 65536 ≤ n) (h1 : n ≤ 1114111) : uput n = [240 + n / 262144, 128 + n / 4096 % 64, 128 + n / 64 % 64, 128 + n % 64] := by
  rw [uput, if_pos ((isCh_iff n).2 ⟨by omega, by omega, by omega⟩), if_neg (by omega), if_neg (by omega), if_neg (by omega)]

/-- The four ways of a character. -/
theorem isCh_ways {n : Int} (h : isCh n = true) : (0 ≤ n ∧ n < 128) ∨ (128 ≤ n ∧ n < 2048) ∨ (2048 ≤ n ∧ n < 65536 ∧ (n < 55296 ∨ 57343 < n)) ∨ (65536 ≤ n ∧ n ≤ 1114111) := by
  have := (isCh_iff n).1 h
  omega

theorem uput_bd (n : Int) : ∀ c ∈ uput n, 0 ≤ c ∧ c ≤ 255 := by
  cases h : isCh n with
  | false => simp [uput_no h]
  | true =>
    rcases isCh_ways h with ⟨h0, h1⟩ | ⟨h0, h1⟩ | ⟨h0, h1, hs⟩ | ⟨h0, h1⟩
    · rw [uput_1 h0 h1]; simp; omega
    · rw [uput_2 h0 h1]; simp; omega
    · rw [uput_3 h0 h1 hs]; simp; omega
    · rw [uput_4 h0 h1]; simp; omega

theorem uput_len (n : Int) : (uput n).length ≤ 4 := by
  cases h : isCh n with
  | false => simp [uput_no h]
  | true =>
    rcases isCh_ways h with ⟨h0, h1⟩ | ⟨h0, h1⟩ | ⟨h0, h1, hs⟩ | ⟨h0, h1⟩
    · rw [uput_1 h0 h1]; simp
    · rw [uput_2 h0 h1]; simp
    · rw [uput_3 h0 h1 hs]; simp
    · rw [uput_4 h0 h1]; simp

theorem uput_pos {n : Int} (h : isCh n = true) : 1 ≤ (uput n).length := by
  rcases isCh_ways h with ⟨h0, h1⟩ | ⟨h0, h1⟩ | ⟨h0, h1, hs⟩ | ⟨h0, h1⟩
  · rw [uput_1 h0 h1]; simp
  · rw [uput_2 h0 h1]; simp
  · rw [uput_3 h0 h1 hs]; simp
  · rw [uput_4 h0 h1]; simp

/-- Whether there is a character of one, two, three, four bytes, by the bytes themselves. -/
def cont (c : Int) : Prop := 128 ≤ c ∧ c < 192
def un2 (a b : Int) : Int := (a - 192) * 64 + b - 128
def un3 (a b c : Int) : Int := ((a - 224) * 64 + b - 128) * 64 + c - 128
def un4 (a b c d : Int) : Int := (((a - 240) * 64 + b - 128) * 64 + c - 128) * 64 + d - 128
def fit1 (len a : Int) : Prop := 1 ≤ len ∧ a < 128
def fit2 (len a b : Int) : Prop := 2 ≤ len ∧ 194 ≤ a ∧ a < 224 ∧ cont b
def fit3 (len a b c : Int) : Prop := 3 ≤ len ∧ 224 ≤ a ∧ a < 240 ∧ cont b ∧ cont c ∧ 2048 ≤ un3 a b c ∧ (un3 a b c < 55296 ∨ 57343 < un3 a b c)
def fit4 (len a b c d : Int) : Prop := 4 ≤ len ∧ 240 ≤ a ∧ a < 248 ∧ cont b ∧ cont c ∧ cont d ∧ 65536 ≤ un4 a b c d ∧ un4 a b c d ≤ 1114111

instance (len a : Int) : Decidable (fit1 len a) := by unfold fit1; infer_instance
instance (c : Int) : Decidable (cont c) := by unfold cont; infer_instance
instance (len a b : Int) : Decidable (fit2 len a b) := by unfold fit2; infer_instance
instance (len a b c : Int) : Decidable (fit3 len a b c) := by unfold fit3; infer_instance
instance (len a b c d : Int) : Decidable (fit4 len a b c d) := by unfold fit4; infer_instance

/-- The character and how many bytes it has, by the length and the first four bytes. -/
def ur (len a b c d : Int) : Int × Int :=
  if fit1 len a then (a, 1)
  else if fit2 len a b then (un2 a b, 2)
  else if fit3 len a b c then (un3 a b c, 3)
  else if fit4 len a b c d then (un4 a b c d, 4)
  else (-1, 0)

def urune (z : List Int) : Int × Int := ur z.length (z.getD 0 0) (z.getD 1 0) (z.getD 2 0) (z.getD 3 0)

/-- The document's own test: a character whose bytes are just those. -/
theorem test_1 {z : List Int} (h : 1 ≤ z.length) (hb : ∀ i, 0 ≤ z.getD i 0 ∧ z.getD i 0 ≤ 255) :
    (isCh (z.getD 0 0) = true ∧ uput (z.getD 0 0) = z.take 1) ↔ fit1 z.length (z.getD 0 0) := by
  match z, h with
  | a :: l, _ =>
    have h0 := hb 0
    simp only [List.getD_cons_zero] at h0 ⊢
    simp only [fit1, List.take_succ_cons, List.take_zero, List.length_cons]
    constructor
    · rintro ⟨h1, h2⟩
      refine ⟨by omega, ?_⟩
      rcases Int.lt_or_le a 128 with hl | hl
      · exact hl
      · rw [uput_2 hl (by omega)] at h2
        simp at h2
    · rintro ⟨_, h2⟩
      exact ⟨(isCh_iff a).2 (by omega), uput_1 h0.1 h2⟩

theorem test_2 {z : List Int} (h : 2 ≤ z.length) (hb : ∀ i, 0 ≤ z.getD i 0 ∧ z.getD i 0 ≤ 255) :
    (isCh (un2 (z.getD 0 0) (z.getD 1 0)) = true ∧ uput (un2 (z.getD 0 0) (z.getD 1 0)) = z.take 2) ↔ fit2 z.length (z.getD 0 0) (z.getD 1 0) := by
  match z, h with
  | a :: b :: l, _ =>
    have h0 := hb 0
    have h1 := hb 1
    simp only [List.getD_cons_zero, List.getD_cons_succ] at h0 h1 ⊢
    simp only [fit2, cont, List.take_succ_cons, List.take_zero, List.length_cons]
    generalize hn : un2 a b = n
    unfold un2 at hn
    constructor
    · rintro ⟨h1, h2⟩
      rcases isCh_ways h1 with ⟨g0, g1⟩ | ⟨g0, g1⟩ | ⟨g0, g1, hs⟩ | ⟨g0, g1⟩
      · rw [uput_1 g0 g1] at h2; simp at h2
      · rw [uput_2 g0 g1] at h2; simp at h2; omega
      · rw [uput_3 g0 g1 hs] at h2; simp at h2
      · rw [uput_4 g0 g1] at h2; simp at h2
    · rintro ⟨_, h2, h3, h4, h5⟩
      refine ⟨(isCh_iff n).2 (by omega), ?_⟩
      rw [uput_2 (by omega) (by omega)]
      simp; omega

theorem test_3 {z : List Int} (h : 3 ≤ z.length) (hb : ∀ i, 0 ≤ z.getD i 0 ∧ z.getD i 0 ≤ 255) :
    (isCh (un3 (z.getD 0 0) (z.getD 1 0) (z.getD 2 0)) = true ∧ uput (un3 (z.getD 0 0) (z.getD 1 0) (z.getD 2 0)) = z.take 3) ↔ fit3 z.length (z.getD 0 0) (z.getD 1 0) (z.getD 2 0) := by
  match z, h with
  | a :: b :: c :: l, _ =>
    have h0 := hb 0
    have h1 := hb 1
    have h2 := hb 2
    simp only [List.getD_cons_zero, List.getD_cons_succ] at h0 h1 h2 ⊢
    simp only [fit3, cont, List.take_succ_cons, List.take_zero, List.length_cons]
    generalize hn : un3 a b c = n
    unfold un3 at hn
    constructor
    · rintro ⟨h1, h2⟩
      rcases isCh_ways h1 with ⟨g0, g1⟩ | ⟨g0, g1⟩ | ⟨g0, g1, hs⟩ | ⟨g0, g1⟩
      · rw [uput_1 g0 g1] at h2; simp at h2
      · rw [uput_2 g0 g1] at h2; simp at h2
      · rw [uput_3 g0 g1 hs] at h2; simp at h2; omega
      · rw [uput_4 g0 g1] at h2; simp at h2
    · rintro ⟨_, h2, h3, h4, h5, h6, h7⟩
      refine ⟨(isCh_iff n).2 (by omega), ?_⟩
      rw [uput_3 (by omega) (by omega) h7]
      simp; omega

theorem test_4 {z : List Int} (h : 4 ≤ z.length) (hb : ∀ i, 0 ≤ z.getD i 0 ∧ z.getD i 0 ≤ 255) :
    (isCh (un4 (z.getD 0 0) (z.getD 1 0) (z.getD 2 0) (z.getD 3 0)) = true ∧ uput (un4 (z.getD 0 0) (z.getD 1 0) (z.getD 2 0) (z.getD 3 0)) = z.take 4) ↔ fit4 z.length (z.getD 0 0) (z.getD 1 0) (z.getD 2 0) (z.getD 3 0) := by
  match z, h with
  | a :: b :: c :: d :: l, _ =>
    have h0 := hb 0
    have h1 := hb 1
    have h2 := hb 2
    have h3 := hb 3
    simp only [List.getD_cons_zero, List.getD_cons_succ] at h0 h1 h2 h3 ⊢
    simp only [fit4, cont, List.take_succ_cons, List.take_zero, List.length_cons]
    generalize hn : un4 a b c d = n
    unfold un4 at hn
    constructor
    · rintro ⟨h1, h2⟩
      rcases isCh_ways h1 with ⟨g0, g1⟩ | ⟨g0, g1⟩ | ⟨g0, g1, hs⟩ | ⟨g0, g1⟩
      · rw [uput_1 g0 g1] at h2; simp at h2
      · rw [uput_2 g0 g1] at h2; simp at h2
      · rw [uput_3 g0 g1 hs] at h2; simp at h2
      · rw [uput_4 g0 g1] at h2; simp at h2; omega
    · rintro ⟨_, h2, h3, h4, h5, h6, h7, h8⟩
      refine ⟨(isCh_iff n).2 (by omega), ?_⟩
      rw [uput_4 (by omega) (by omega)]
      simp; omega

/-- What Put answers is found again, whatever stands behind. -/
theorem urune_uput {n : Int} (h : isCh n = true) (m : List Int) : urune (uput n ++ m) = (n, ((uput n).length : Int)) := by
  rcases isCh_ways h with ⟨h0, h1⟩ | ⟨h0, h1⟩ | ⟨h0, h1, hs⟩ | ⟨h0, h1⟩
  · rw [uput_1 h0 h1]
    simp only [urune, List.cons_append, List.nil_append, List.getD_cons_zero, List.getD_cons_succ, List.length_cons, List.length_nil, ur]
    rw [if_pos (show fit1 _ _ by unfold fit1; omega)]; rfl
  · rw [uput_2 h0 h1]
    simp only [urune, List.cons_append, List.nil_append, List.getD_cons_zero, List.getD_cons_succ, List.length_cons, List.length_nil, ur]
    rw [if_neg (show ¬ fit1 _ _ by unfold fit1; omega), if_pos (show fit2 _ _ _ by unfold fit2 cont; omega)]
    simp only [un2, Prod.mk.injEq]; omega
  · rw [uput_3 h0 h1 hs]
    simp only [urune, List.cons_append, List.nil_append, List.getD_cons_zero, List.getD_cons_succ, List.length_cons, List.length_nil, ur]
    rw [if_neg (show ¬ fit1 _ _ by unfold fit1; omega), if_neg (show ¬ fit2 _ _ _ by unfold fit2 cont; omega), if_pos (show fit3 _ _ _ _ by unfold fit3 cont un3; omega)]
    simp only [un3, Prod.mk.injEq]; omega
  · rw [uput_4 h0 h1]
    simp only [urune, List.cons_append, List.nil_append, List.getD_cons_zero, List.getD_cons_succ, List.length_cons, List.length_nil, ur]
    rw [if_neg (show ¬ fit1 _ _ by unfold fit1; omega), if_neg (show ¬ fit2 _ _ _ by unfold fit2 cont; omega), if_neg (show ¬ fit3 _ _ _ _ by unfold fit3 cont; omega), if_pos (show fit4 _ _ _ _ _ by unfold fit4 cont un4; omega)]
    simp only [un4, Prod.mk.injEq]; omega

/-- Where there is one, the bytes begin with what Put answers of it. -/
theorem urune_some {z : List Int} (hb : ∀ i, 0 ≤ z.getD i 0 ∧ z.getD i 0 ≤ 255) (h : (urune z).2 ≠ 0) :
    isCh (urune z).1 = true ∧ (urune z).2 = ((uput (urune z).1).length : Int) ∧ (uput (urune z).1).length ≤ z.length ∧ uput (urune z).1 = z.take (uput (urune z).1).length := by
  unfold urune ur at *
  split at h
  · rename_i h1
    have hl : 1 ≤ z.length := by unfold fit1 at h1; omega
    rw [if_pos h1]
    have t := (test_1 hl hb).2 h1
    refine ⟨t.1, ?_, ?_, ?_⟩ <;> simp only <;> rw [t.2, List.length_take, Nat.min_eq_left hl]
    · rfl
    · exact hl
  · rename_i h1
    rw [if_neg h1]
    split at h
    · rename_i h2
      have hl : 2 ≤ z.length := by unfold fit2 at h2; omega
      rw [if_pos h2]
      have t := (test_2 hl hb).2 h2
      refine ⟨t.1, ?_, ?_, ?_⟩ <;> simp only <;> rw [t.2, List.length_take, Nat.min_eq_left hl]
      · rfl
      · exact hl
    · rename_i h2
      rw [if_neg h2]
      split at h
      · rename_i h3
        have hl : 3 ≤ z.length := by unfold fit3 at h3; omega
        rw [if_pos h3]
        have t := (test_3 hl hb).2 h3
        refine ⟨t.1, ?_, ?_, ?_⟩ <;> simp only <;> rw [t.2, List.length_take, Nat.min_eq_left hl]
        · rfl
        · exact hl
      · rename_i h3
        rw [if_neg h3]
        split at h
        · rename_i h4
          have hl : 4 ≤ z.length := by unfold fit4 at h4; omega
          rw [if_pos h4]
          have t := (test_4 hl hb).2 h4
          refine ⟨t.1, ?_, ?_, ?_⟩ <;> simp only <;> rw [t.2, List.length_take, Nat.min_eq_left hl]
          · rfl
          · exact hl
        · exact absurd rfl h

/-- The five answers. -/
theorem ur_ways (len a b c d : Int) : (fit1 len a ∧ ur len a b c d = (a, 1)) ∨ (¬ fit1 len a ∧ fit2 len a b ∧ ur len a b c d = (un2 a b, 2)) ∨ (¬ fit1 len a ∧ ¬ fit2 len a b ∧ fit3 len a b c ∧ ur len a b c d = (un3 a b c, 3)) ∨
    (¬ fit1 len a ∧ ¬ fit2 len a b ∧ ¬ fit3 len a b c ∧ fit4 len a b c d ∧ ur len a b c d = (un4 a b c d, 4)) ∨ (¬ fit1 len a ∧ ¬ fit2 len a b ∧ ¬ fit3 len a b c ∧ ¬ fit4 len a b c d ∧ ur len a b c d = (-1, 0)) := by
  unfold ur
  by_cases h1 : fit1 len a
  · exact .inl ⟨h1, by rw [if_pos h1]⟩
  · by_cases h2 : fit2 len a b
    · exact .inr (.inl ⟨h1, h2, by rw [if_neg h1, if_pos h2]⟩)
    · by_cases h3 : fit3 len a b c
      · exact .inr (.inr (.inl ⟨h1, h2, h3, by rw [if_neg h1, if_neg h2, if_pos h3]⟩))
      · by_cases h4 : fit4 len a b c d
        · exact .inr (.inr (.inr (.inl ⟨h1, h2, h3, h4, by rw [if_neg h1, if_neg h2, if_neg h3, if_pos h4]⟩)))
        · exact .inr (.inr (.inr (.inr ⟨h1, h2, h3, h4, by rw [if_neg h1, if_neg h2, if_neg h3, if_neg h4]⟩)))

/-- How many bytes: none, or one to four that are there. -/
theorem urune_size (z : List Int) : 0 ≤ (urune z).2 ∧ (urune z).2 ≤ 4 ∧ (urune z).2 ≤ z.length ∧ ((urune z).2 = 0 → urune z = (-1, 0)) := by
  unfold urune
  rcases ur_ways z.length (z.getD 0 0) (z.getD 1 0) (z.getD 2 0) (z.getD 3 0) with ⟨h, e⟩ | ⟨_, h, e⟩ | ⟨_, _, h, e⟩ | ⟨_, _, _, h, e⟩ | ⟨_, _, _, _, e⟩ <;> rw [e]
  · exact ⟨by simp, by simp, h.1, fun h => absurd h (by simp)⟩
  · exact ⟨by simp, by simp, h.1, fun h => absurd h (by simp)⟩
  · exact ⟨by simp, by simp, h.1, fun h => absurd h (by simp)⟩
  · exact ⟨by simp, by simp, h.1, fun h => absurd h (by simp)⟩
  · exact ⟨by simp, by simp, by simp, fun _ => rfl⟩

theorem urune_nil : urune [] = (-1, 0) := by decide

/-- More behind a character turns nothing. -/
theorem urune_append {z m : List Int} (hb : ∀ i, 0 ≤ z.getD i 0 ∧ z.getD i 0 ≤ 255) (h : (urune z).2 ≠ 0) : urune (z ++ m) = urune z := by
  obtain ⟨h1, h2, h3, h4⟩ := urune_some hb h
  have e : z ++ m = uput (urune z).1 ++ (z.drop (uput (urune z).1).length ++ m) := by
    conv => rhs; lhs; rw [h4]
    rw [← List.append_assoc, List.take_append_drop]
  rw [e, urune_uput h1, ← h2]

/-- How many characters there are ahead of the first place at which there is none, and whether that is the end. -/
def ucount : Nat → List Int → Int × Bool
  | 0, z => (0, z.isEmpty)
  | f + 1, z => if z = [] then (0, true) else if (urune z).2 = 0 then (0, false) else ((ucount f (z.drop (urune z).2.toNat)).1 + 1, (ucount f (z.drop (urune z).2.toNat)).2)

theorem ucount_fuel : ∀ (f g : Nat) (z : List Int), z.length ≤ f → z.length ≤ g → ucount f z = ucount g z
  | 0, 0, z, _, _ => rfl
  | 0, g + 1, z, h, _ => by
    have : z = [] := List.eq_nil_of_length_eq_zero (by omega)
    subst this; rfl
  | f + 1, 0, z, _, h => by
    have : z = [] := List.eq_nil_of_length_eq_zero (by omega)
    subst this; rfl
  | f + 1, g + 1, z, h1, h2 => by
    unfold ucount
    by_cases hz : z = []
    · rw [if_pos hz, if_pos hz]
    · rw [if_neg hz, if_neg hz]
      by_cases hs : (urune z).2 = 0
      · rw [if_pos hs, if_pos hs]
      · rw [if_neg hs, if_neg hs]
        have := urune_size z
        rw [ucount_fuel f g (z.drop (urune z).2.toNat) (by rw [List.length_drop]; omega) (by rw [List.length_drop]; omega)]

def ucnt (z : List Int) : Int × Bool := ucount z.length z

theorem ucnt_nil : ucnt [] = (0, true) := rfl

theorem ucnt_stop {z : List Int} (hz : z ≠ []) (hs : (urune z).2 = 0) : ucnt z = (0, false) := by
  obtain ⟨n, hn⟩ : ∃ n, z.length = n + 1 := ⟨z.length - 1, by have := List.length_pos_iff.2 hz; omega⟩
  rw [ucnt, hn, ucount, if_neg hz, if_pos hs]

theorem ucnt_step {z : List Int} (hs : (urune z).2 ≠ 0) : ucnt z = ((ucnt (z.drop (urune z).2.toNat)).1 + 1, (ucnt (z.drop (urune z).2.toNat)).2) := by
  have hz : z ≠ [] := by rintro rfl; exact hs (by rw [urune_nil])
  obtain ⟨n, hn⟩ : ∃ n, z.length = n + 1 := ⟨z.length - 1, by have := List.length_pos_iff.2 hz; omega⟩
  have := urune_size z
  rw [ucnt, hn, ucount, if_neg hz, if_neg hs, ucount_fuel n _ (z.drop (urune z).2.toNat) (by rw [List.length_drop]; omega) (Nat.le_refl _)]
  rfl

theorem ucnt_bd : ∀ (f : Nat) (z : List Int), 0 ≤ (ucount f z).1 ∧ (ucount f z).1 ≤ f
  | 0, z => by simp [ucount]
  | f + 1, z => by
    unfold ucount
    have := ucnt_bd f (z.drop (urune z).2.toNat)
    split
    · simp; omega
    · split
      · simp; omega
      · simp only; omega

theorem getD_drop' (z : List Int) (k i : Nat) : (z.drop k).getD i 0 = z.getD (k + i) 0 := by simp [List.getD]

theorem ucnt_append : ∀ (f : Nat) (a b : List Int), a.length ≤ f → (∀ i, 0 ≤ a.getD i 0 ∧ a.getD i 0 ≤ 255) → (ucnt a).2 = true → ucnt (a ++ b) = ((ucnt a).1 + (ucnt b).1, (ucnt b).2)
  | f, [], b, _, _, _ => by rw [ucnt_nil]; simp
  | 0, x :: a, b, h, _, _ => by simp at h
  | f + 1, x :: a, b, h, hb, hv => by
    by_cases hs : (urune (x :: a)).2 = 0
    · rw [ucnt_stop (by simp) hs] at hv; simp at hv
    · have sz := urune_size (x :: a)
      have e := urune_append (m := b) hb hs
      have hd : (x :: a ++ b).drop (urune (x :: a)).2.toNat = (x :: a).drop (urune (x :: a)).2.toNat ++ b := List.drop_append_of_le_length (by omega)
      rw [ucnt_step hs] at hv
      have ih := ucnt_append f ((x :: a).drop (urune (x :: a)).2.toNat) b (by rw [List.length_drop]; omega) (fun i => by rw [getD_drop']; exact hb _) hv
      rw [ucnt_step (z := x :: a ++ b) (by rw [e]; exact hs), e, hd, ih, ucnt_step hs]
      simp only [Prod.mk.injEq, and_true]
      omega

theorem ucnt_uput {n : Int} (h : isCh n = true) : ucnt (uput n) = (1, true) := by
  have e := urune_uput h []
  rw [List.append_nil] at e
  have hp := uput_pos h
  rw [ucnt_step (by rw [e]; simp only; omega), e]
  simp [ucnt_nil]

/-- A part of one is none. -/
theorem urune_part {n : Int} (h : isCh n = true) {k : Nat} (h1 : 1 ≤ k) (h2 : k < (uput n).length) : urune ((uput n).take k) = (-1, 0) := by
  rcases isCh_ways h with ⟨h0, h3⟩ | ⟨h0, h3⟩ | ⟨h0, h3, hs⟩ | ⟨h0, h3⟩
  · rw [uput_1 h0 h3] at h2; simp at h2; omega
  · rw [uput_2 h0 h3] at h2 ⊢
    obtain rfl : k = 1 := by simp at h2; omega
    simp only [urune, ur, List.take_succ_cons, List.take_zero, List.length_cons, List.length_nil, List.getD_cons_zero, List.getD_cons_succ]
    rw [if_neg (by unfold fit1; omega), if_neg (by unfold fit2; omega), if_neg (by unfold fit3; omega), if_neg (by unfold fit4; omega)]
  · rw [uput_3 h0 h3 hs] at h2 ⊢
    obtain rfl | rfl : k = 1 ∨ k = 2 := by simp at h2; omega
    all_goals
      simp only [urune, ur, List.take_succ_cons, List.take_zero, List.length_cons, List.length_nil, List.getD_cons_zero, List.getD_cons_succ]
      rw [if_neg (by unfold fit1; omega), if_neg (by unfold fit2; omega), if_neg (by unfold fit3; omega), if_neg (by unfold fit4; omega)]
  · rw [uput_4 h0 h3] at h2 ⊢
    obtain rfl | rfl | rfl : k = 1 ∨ k = 2 ∨ k = 3 := by simp at h2; omega
    all_goals
      simp only [urune, ur, List.take_succ_cons, List.take_zero, List.length_cons, List.length_nil, List.getD_cons_zero, List.getD_cons_succ]
      rw [if_neg (by unfold fit1; omega), if_neg (by unfold fit2; omega), if_neg (by unfold fit3; omega), if_neg (by unfold fit4; omega)]

theorem ucnt_part {n : Int} (h : isCh n = true) {k : Nat} (h1 : 1 ≤ k) (h2 : k < (uput n).length) : ucnt ((uput n).take k) = (0, false) := by
  refine ucnt_stop (fun e => ?_) (by rw [urune_part h h1 h2])
  have := congrArg List.length e
  rw [List.length_take, List.length_nil] at this
  omega

end Go.Proofs.Ytjbppjemilijdaa

/- Quoted texts and numbers as plain functions over lists of numbers, and how they hang together. -/
namespace Go.Proofs.Ytjbppjemilijdaa
set_option linter.unusedSimpArgs false

def dgt (c : Int) : Int := if 48 ≤ c ∧ c ≤ 57 then c - 48 else if 97 ≤ c ∧ c ≤ 102 then c - 87 else if 65 ≤ c ∧ c ≤ 70 then c - 55 else 99

theorem dgt_bd (c : Int) : 0 ≤ dgt c ∧ dgt c ≤ 99 := by unfold dgt; repeat' split <;> omega

/-- Digits of a base at the beginning, at most so many: what they come to, and how many. -/
def qrn (base : Int) : Nat → List Int → Int → Int × Nat
  | 0, _, n => (n, 0)
  | _ + 1, [], n => (n, 0)
  | f + 1, c :: r, n => if dgt c < base then ((qrn base f r (n * base + dgt c)).1, (qrn base f r (n * base + dgt c)).2 + 1) else (n, 0)

theorem qrn_le (base : Int) : ∀ (f : Nat) (s : List Int) (n : Int), (qrn base f s n).2 ≤ f ∧ (qrn base f s n).2 ≤ s.length
  | 0, s, n => ⟨Nat.le_refl _, Nat.zero_le _⟩
  | f + 1, [], n => ⟨Nat.zero_le _, Nat.zero_le _⟩
  | f + 1, c :: r, n => by
    unfold qrn
    split
    · have := qrn_le base f r (n * base + dgt c)
      simp only [List.length_cons]
      omega
    · simp

theorem qrn_bd (base : Int) (b0 : 0 ≤ base) (b1 : base ≤ 16) : ∀ (f : Nat) (s : List Int) (n : Int) (k : Nat), 0 ≤ n → n < ((16 ^ k : Nat) : Int) → 0 ≤ (qrn base f s n).1 ∧ (qrn base f s n).1 < ((16 ^ (k + f) : Nat) : Int)
  | 0, s, n, k, h0, h1 => ⟨h0, h1⟩
  | f + 1, [], n, k, h0, h1 => by
    have : 16 ^ k ≤ 16 ^ (k + (f + 1)) := Nat.pow_le_pow_right (by omega) (by omega)
    exact ⟨h0, show n < _ by omega⟩
  | f + 1, c :: r, n, k, h0, h1 => by
    have hd := dgt_bd c
    unfold qrn
    split
    · have e : n * base ≤ n * 16 := Int.mul_le_mul_of_nonneg_left b1 h0
      have e0 : 0 ≤ n * base := Int.mul_nonneg h0 b0
      have := qrn_bd base b0 b1 f r (n * base + dgt c) (k + 1) (by omega) (by rw [Nat.pow_succ]; omega)
      rw [show k + 1 + f = k + (f + 1) by omega] at this
      exact this
    · have : 16 ^ k ≤ 16 ^ (k + (f + 1)) := Nat.pow_le_pow_right (by omega) (by omega)
      exact ⟨h0, show n < _ by omega⟩

/-- What stands behind a backslash: the bytes, how many signs; 0: nothing that may. -/
def qesc : List Int → List Int × Nat
  | [] => ([], 0)
  | c :: r =>
    if c = 97 then ([7], 1) else if c = 98 then ([8], 1) else if c = 102 then ([12], 1) else if c = 110 then ([10], 1) else if c = 114 then ([13], 1) else if c = 116 then ([9], 1) else if c = 118 then ([11], 1)
    else if c = 92 ∨ c = 39 ∨ c = 34 ∨ c = 63 then ([c], 1)
    else if c = 120 ∨ c = 88 then (if 0 < (qrn 16 2 r 0).2 then ([(qrn 16 2 r 0).1], 1 + (qrn 16 2 r 0).2) else ([], 0))
    else if c = 117 then (if (qrn 16 4 r 0).2 = 4 ∧ isCh (qrn 16 4 r 0).1 = true then (uput (qrn 16 4 r 0).1, 5) else ([], 0))
    else if c = 85 then (if (qrn 16 8 r 0).2 = 8 ∧ isCh (qrn 16 8 r 0).1 = true then (uput (qrn 16 8 r 0).1, 9) else ([], 0))
    else (if 0 < (qrn 8 3 (c :: r) 0).2 ∧ (qrn 8 3 (c :: r) 0).1 < 256 then ([(qrn 8 3 (c :: r) 0).1], (qrn 8 3 (c :: r) 0).2) else ([], 0))

theorem qesc_le (s : List Int) : (qesc s).2 ≤ s.length ∧ (qesc s).2 ≤ 9 ∧ (qesc s).1.length ≤ 4 := by
  cases s with
  | nil => simp [qesc]
  | cons c r =>
    have h1 := qrn_le 16 2 r 0
    have h2 := qrn_le 16 4 r 0
    have h3 := qrn_le 16 8 r 0
    have h4 := qrn_le 8 3 (c :: r) 0
    have h5 := uput_len (qrn 16 4 r 0).1
    have h6 := uput_len (qrn 16 8 r 0).1
    simp only [List.length_cons] at *
    suffices key : ∀ p, qesc (c :: r) = p → p.2 ≤ r.length + 1 ∧ p.2 ≤ 9 ∧ p.1.length ≤ 4 from key _ rfl
    intro p
    rw [qesc]
    by_cases k0 : c = 97
    · rw [if_pos k0]; rintro rfl; first | (simp only [List.length_cons, List.length_nil]; omega) | (refine ⟨?_, ?_, ?_⟩ <;> simp only [] <;> omega)
    rw [if_neg k0]
    by_cases k1 : c = 98
    · rw [if_pos k1]; rintro rfl; first | (simp only [List.length_cons, List.length_nil]; omega) | (refine ⟨?_, ?_, ?_⟩ <;> simp only [] <;> omega)
    rw [if_neg k1]
    by_cases k2 : c = 102
    · rw [if_pos k2]; rintro rfl; first | (simp only [List.length_cons, List.length_nil]; omega) | (refine ⟨?_, ?_, ?_⟩ <;> simp only [] <;> omega)
    rw [if_neg k2]
    by_cases k3 : c = 110
    · rw [if_pos k3]; rintro rfl; first | (simp only [List.length_cons, List.length_nil]; omega) | (refine ⟨?_, ?_, ?_⟩ <;> simp only [] <;> omega)
    rw [if_neg k3]
    by_cases k4 : c = 114
    · rw [if_pos k4]; rintro rfl; first | (simp only [List.length_cons, List.length_nil]; omega) | (refine ⟨?_, ?_, ?_⟩ <;> simp only [] <;> omega)
    rw [if_neg k4]
    by_cases k5 : c = 116
    · rw [if_pos k5]; rintro rfl; first | (simp only [List.length_cons, List.length_nil]; omega) | (refine ⟨?_, ?_, ?_⟩ <;> simp only [] <;> omega)
    rw [if_neg k5]
    by_cases k6 : c = 118
    · rw [if_pos k6]; rintro rfl; first | (simp only [List.length_cons, List.length_nil]; omega) | (refine ⟨?_, ?_, ?_⟩ <;> simp only [] <;> omega)
    rw [if_neg k6]
    by_cases k7 : c = 92 ∨ c = 39 ∨ c = 34 ∨ c = 63
    · rw [if_pos k7]; rintro rfl; first | (simp only [List.length_cons, List.length_nil]; omega) | (refine ⟨?_, ?_, ?_⟩ <;> simp only [] <;> omega)
    rw [if_neg k7]
    by_cases m0 : c = 120 ∨ c = 88
    · rw [if_pos m0]
      by_cases j : 0 < (qrn 16 2 r 0).2
      · rw [if_pos j]; rintro rfl; first | (simp only [List.length_cons, List.length_nil]; omega) | (refine ⟨?_, ?_, ?_⟩ <;> simp only [] <;> omega)
      · rw [if_neg j]; rintro rfl; first | (simp only [List.length_cons, List.length_nil]; omega) | (refine ⟨?_, ?_, ?_⟩ <;> simp only [] <;> omega)
    rw [if_neg m0]
    by_cases m1 : c = 117
    · rw [if_pos m1]
      by_cases j : (qrn 16 4 r 0).2 = 4 ∧ isCh (qrn 16 4 r 0).1 = true
      · rw [if_pos j]; rintro rfl; first | (simp only [List.length_cons, List.length_nil]; omega) | (refine ⟨?_, ?_, ?_⟩ <;> simp only [] <;> omega)
      · rw [if_neg j]; rintro rfl; first | (simp only [List.length_cons, List.length_nil]; omega) | (refine ⟨?_, ?_, ?_⟩ <;> simp only [] <;> omega)
    rw [if_neg m1]
    by_cases m2 : c = 85
    · rw [if_pos m2]
      by_cases j : (qrn 16 8 r 0).2 = 8 ∧ isCh (qrn 16 8 r 0).1 = true
      · rw [if_pos j]; rintro rfl; first | (simp only [List.length_cons, List.length_nil]; omega) | (refine ⟨?_, ?_, ?_⟩ <;> simp only [] <;> omega)
      · rw [if_neg j]; rintro rfl; first | (simp only [List.length_cons, List.length_nil]; omega) | (refine ⟨?_, ?_, ?_⟩ <;> simp only [] <;> omega)
    rw [if_neg m2]
    by_cases j : 0 < (qrn 8 3 (c :: r) 0).2 ∧ (qrn 8 3 (c :: r) 0).1 < 256
    · rw [if_pos j]; rintro rfl; first | (simp only [List.length_cons, List.length_nil]; omega) | (refine ⟨?_, ?_, ?_⟩ <;> simp only [] <;> omega)
    · rw [if_neg j]; rintro rfl; first | (simp only [List.length_cons, List.length_nil]; omega) | (refine ⟨?_, ?_, ?_⟩ <;> simp only [] <;> omega)

theorem qesc_bd (s : List Int) (h : ∀ c ∈ s, 0 ≤ c ∧ c ≤ 255) : ∀ c ∈ (qesc s).1, 0 ≤ c ∧ c ≤ 255 := by
  cases s with
  | nil => simp [qesc]
  | cons c r =>
    have hc := h c (by simp)
    have h1 := qrn_bd 16 (by omega) (by omega) 2 r 0 0 (by omega) (by omega)
    have h4 := qrn_bd 8 (by omega) (by omega) 3 (c :: r) 0 0 (by omega) (by omega)
    have h5 := uput_bd (qrn 16 4 r 0).1
    have h6 := uput_bd (qrn 16 8 r 0).1
    simp only [show 16 ^ (0 + 2) = 256 from rfl] at h1
    suffices key : ∀ p, qesc (c :: r) = p → ∀ x ∈ p.1, 0 ≤ x ∧ x ≤ 255 from key _ rfl
    intro p
    rw [qesc]
    by_cases k0 : c = 97
    · rw [if_pos k0]; rintro rfl; first | exact h5 | exact h6 | (intro x hx; simp only [List.mem_cons, List.not_mem_nil, or_false] at hx; omega) | (intro x hx; cases hx; done)
    rw [if_neg k0]
    by_cases k1 : c = 98
    · rw [if_pos k1]; rintro rfl; first | exact h5 | exact h6 | (intro x hx; simp only [List.mem_cons, List.not_mem_nil, or_false] at hx; omega) | (intro x hx; cases hx; done)
    rw [if_neg k1]
    by_cases k2 : c = 102
    · rw [if_pos k2]; rintro rfl; first | exact h5 | exact h6 | (intro x hx; simp only [List.mem_cons, List.not_mem_nil, or_false] at hx; omega) | (intro x hx; cases hx; done)
    rw [if_neg k2]
    by_cases k3 : c = 110
    · rw [if_pos k3]; rintro rfl; first | exact h5 | exact h6 | (intro x hx; simp only [List.mem_cons, List.not_mem_nil, or_false] at hx; omega) | (intro x hx; cases hx; done)
    rw [if_neg k3]
    by_cases k4 : c = 114
    · rw [if_pos k4]; rintro rfl; first | exact h5 | exact h6 | (intro x hx; simp only [List.mem_cons, List.not_mem_nil, or_false] at hx; omega) | (intro x hx; cases hx; done)
    rw [if_neg k4]
    by_cases k5 : c = 116
    · rw [if_pos k5]; rintro rfl; first | exact h5 | exact h6 | (intro x hx; simp only [List.mem_cons, List.not_mem_nil, or_false] at hx; omega) | (intro x hx; cases hx; done)
    rw [if_neg k5]
    by_cases k6 : c = 118
    · rw [if_pos k6]; rintro rfl; first | exact h5 | exact h6 | (intro x hx; simp only [List.mem_cons, List.not_mem_nil, or_false] at hx; omega) | (intro x hx; cases hx; done)
    rw [if_neg k6]
    by_cases k7 : c = 92 ∨ c = 39 ∨ c = 34 ∨ c = 63
    · rw [if_pos k7]; rintro rfl; first | exact h5 | exact h6 | (intro x hx; simp only [List.mem_cons, List.not_mem_nil, or_false] at hx; omega) | (intro x hx; cases hx; done)
    rw [if_neg k7]
    by_cases m0 : c = 120 ∨ c = 88
    · rw [if_pos m0]
      by_cases j : 0 < (qrn 16 2 r 0).2
      · rw [if_pos j]; rintro rfl; first | exact h5 | exact h6 | (intro x hx; simp only [List.mem_cons, List.not_mem_nil, or_false] at hx; omega) | (intro x hx; cases hx; done)
      · rw [if_neg j]; rintro rfl; first | exact h5 | exact h6 | (intro x hx; simp only [List.mem_cons, List.not_mem_nil, or_false] at hx; omega) | (intro x hx; cases hx; done)
    rw [if_neg m0]
    by_cases m1 : c = 117
    · rw [if_pos m1]
      by_cases j : (qrn 16 4 r 0).2 = 4 ∧ isCh (qrn 16 4 r 0).1 = true
      · rw [if_pos j]; rintro rfl; first | exact h5 | exact h6 | (intro x hx; simp only [List.mem_cons, List.not_mem_nil, or_false] at hx; omega) | (intro x hx; cases hx; done)
      · rw [if_neg j]; rintro rfl; first | exact h5 | exact h6 | (intro x hx; simp only [List.mem_cons, List.not_mem_nil, or_false] at hx; omega) | (intro x hx; cases hx; done)
    rw [if_neg m1]
    by_cases m2 : c = 85
    · rw [if_pos m2]
      by_cases j : (qrn 16 8 r 0).2 = 8 ∧ isCh (qrn 16 8 r 0).1 = true
      · rw [if_pos j]; rintro rfl; first | exact h5 | exact h6 | (intro x hx; simp only [List.mem_cons, List.not_mem_nil, or_false] at hx; omega) | (intro x hx; cases hx; done)
      · rw [if_neg j]; rintro rfl; first | exact h5 | exact h6 | (intro x hx; simp only [List.mem_cons, List.not_mem_nil, or_false] at hx; omega) | (intro x hx; cases hx; done)
    rw [if_neg m2]
    by_cases j : 0 < (qrn 8 3 (c :: r) 0).2 ∧ (qrn 8 3 (c :: r) 0).1 < 256
    · rw [if_pos j]; rintro rfl; first | exact h5 | exact h6 | (intro x hx; simp only [List.mem_cons, List.not_mem_nil, or_false] at hx; omega) | (intro x hx; cases hx; done)
    · rw [if_neg j]; rintro rfl; first | exact h5 | exact h6 | (intro x hx; simp only [List.mem_cons, List.not_mem_nil, or_false] at hx; omega) | (intro x hx; cases hx; done)

/-- The quoted text behind its first sign q: at place i, with what has come out. -/
def qtk (q : Int) : Nat → List Int → Int → List Int → List Int × Int × Int
  | 0, _, i, _ => ([], i, 40)
  | _ + 1, [], i, _ => ([], i, 40)
  | f + 1, c :: r, i, out =>
    if c = q then (out, i + 1, 0)
    else if c = 0 ∨ c = 10 then ([], i, 40)
    else if c = 92 then (if (qesc r).2 = 0 then ([], i, 40) else qtk q f (r.drop (qesc r).2) (i + 1 + (qesc r).2) (out ++ (qesc r).1))
    else qtk q f r (i + 1) (out ++ [c])

theorem qtk_fuel (q : Int) : ∀ (f g : Nat) (s : List Int) (i : Int) (out : List Int), s.length ≤ f → s.length ≤ g → qtk q f s i out = qtk q g s i out
  | 0, 0, s, i, out, _, _ => rfl
  | 0, g + 1, s, i, out, h, _ => by obtain rfl : s = [] := List.eq_nil_of_length_eq_zero (by omega); rfl
  | f + 1, 0, s, i, out, _, h => by obtain rfl : s = [] := List.eq_nil_of_length_eq_zero (by omega); rfl
  | f + 1, g + 1, [], i, out, _, _ => rfl
  | f + 1, g + 1, c :: r, i, out, h1, h2 => by
    simp only [List.length_cons] at h1 h2
    unfold qtk
    rw [qtk_fuel q f g r (i + 1) (out ++ [c]) (by omega) (by omega), qtk_fuel q f g (r.drop (qesc r).2) _ _ (by simp; omega) (by simp; omega)]

def qtake (s : List Int) : List Int × Int × Int :=
  match s with
  | [] => ([], 0, 40)
  | c :: r => if c = 34 ∨ c = 39 then qtk c r.length r 1 [] else ([], 0, 40)

/-- The number that digits of a base write, and whether they do. -/
def qnm (base : Int) : List Int → Int → Int × Bool
  | [], n => (n, true)
  | c :: r, n => if base ≤ dgt c ∨ (18446744073709551615 - dgt c) / base < n then (0, false) else qnm base r (n * base + dgt c)

def qnum (s : List Int) : Int × Bool :=
  if 2 < s.length ∧ s.getD 0 0 = 48 ∧ (s.getD 1 0 = 120 ∨ s.getD 1 0 = 88) then qnm 16 (s.drop 2) 0
  else if 1 < s.length ∧ s.getD 0 0 = 48 then qnm 8 (s.drop 1) 0
  else if s = [] then (0, false) else qnm 10 s 0

/-- Decimal digits. -/
def qdg : Nat → Int → List Int
  | 0, _ => []
  | f + 1, n => if n < 10 then [48 + n] else qdg f (n / 10) ++ [48 + n % 10]

/-- A byte as it stands in a quoted text. -/
def qch (c : Int) : List Int :=
  if c = 34 ∨ c = 92 then [92, c] else if c = 9 then [92, 116] else if c = 10 then [92, 110] else if c = 13 then [92, 114]
  else if 32 ≤ c ∧ c ≤ 126 then [c] else [92, 48 + c / 64, 48 + c / 8 % 8, 48 + c % 8]

def qtext (b : List Int) : List Int := 34 :: (b.flatMap qch ++ [34])

/-! ### How they hang together -/
theorem dgt_oct (d : Int) (h0 : 0 ≤ d) (h1 : d ≤ 9) : dgt (48 + d) = d := by unfold dgt; rw [if_pos (by omega)]; omega

/-- Three octal digits come to their number, whatever stands behind. -/
theorem qrn_oct (c : Int) (h0 : 0 ≤ c) (h1 : c ≤ 255) (r : List Int) : qrn 8 3 ((48 + c / 64) :: (48 + c / 8 % 8) :: (48 + c % 8) :: r) 0 = (c, 3) := by
  simp only [qrn, dgt_oct (c / 64) (by omega) (by omega), dgt_oct (c / 8 % 8) (by omega) (by omega), dgt_oct (c % 8) (by omega) (by omega)]
  rw [if_pos (by omega), if_pos (by omega), if_pos (by omega)]
  simp only [Prod.mk.injEq, and_true]
  omega

theorem qesc_oct (c : Int) (h0 : 0 ≤ c) (h1 : c ≤ 255) (r : List Int) : qesc ((48 + c / 64) :: (48 + c / 8 % 8) :: (48 + c % 8) :: r) = ([c], 3) := by
  rw [qesc]
  rw [if_neg (by omega), if_neg (by omega), if_neg (by omega), if_neg (by omega), if_neg (by omega), if_neg (by omega), if_neg (by omega), if_neg (by omega), if_neg (by omega), if_neg (by omega), if_neg (by omega), qrn_oct c h0 h1 r, if_pos (by omega)]

/-- One byte's signs are taken as that byte. -/
theorem qtk_ch (c : Int) (h0 : 0 ≤ c) (h1 : c ≤ 255) (f : Nat) (r : List Int) (i : Int) (out : List Int) (hf : r.length ≤ f) :
    qtk 34 (f + (qch c).length) (qch c ++ r) i out = qtk 34 f r (i + (qch c).length) (out ++ [c]) := by
  unfold qch
  split
  · rename_i h
    simp only [List.length_cons, List.length_nil, List.cons_append, List.nil_append]
    rw [show f + (0 + 1 + 1) = (f + 1) + 1 by omega, qtk, if_neg (by omega), if_neg (by omega), if_pos rfl]
    have e : qesc (c :: r) = ([c], 1) := by
      rw [qesc]
      rw [if_neg (by omega), if_neg (by omega), if_neg (by omega), if_neg (by omega), if_neg (by omega), if_neg (by omega), if_neg (by omega), if_pos (by omega)]
    rw [e, if_neg (by simp)]
    simp only [List.drop_succ_cons, List.drop_zero]
    rw [qtk_fuel 34 (f + 1) f r _ _ (by omega) hf]
    congr 1; omega
  split
  · rename_i h
    subst h
    simp only [List.length_cons, List.length_nil, List.cons_append, List.nil_append]
    rw [show f + (0 + 1 + 1) = (f + 1) + 1 by omega, qtk, if_neg (by omega), if_neg (by omega), if_pos rfl]
    have e : qesc (116 :: r) = ([9], 1) := by simp [qesc]
    rw [e, if_neg (by simp)]
    simp only [List.drop_succ_cons, List.drop_zero]
    rw [qtk_fuel 34 (f + 1) f r _ _ (by omega) hf]
    congr 1; omega
  split
  · rename_i h
    subst h
    simp only [List.length_cons, List.length_nil, List.cons_append, List.nil_append]
    rw [show f + (0 + 1 + 1) = (f + 1) + 1 by omega, qtk, if_neg (by omega), if_neg (by omega), if_pos rfl]
    have e : qesc (110 :: r) = ([10], 1) := by simp [qesc]
    rw [e, if_neg (by simp)]
    simp only [List.drop_succ_cons, List.drop_zero]
    rw [qtk_fuel 34 (f + 1) f r _ _ (by omega) hf]
    congr 1; omega
  split
  · rename_i h
    subst h
    simp only [List.length_cons, List.length_nil, List.cons_append, List.nil_append]
    rw [show f + (0 + 1 + 1) = (f + 1) + 1 by omega, qtk, if_neg (by omega), if_neg (by omega), if_pos rfl]
    have e : qesc (114 :: r) = ([13], 1) := by simp [qesc]
    rw [e, if_neg (by simp)]
    simp only [List.drop_succ_cons, List.drop_zero]
    rw [qtk_fuel 34 (f + 1) f r _ _ (by omega) hf]
    congr 1; omega
  split
  · simp only [List.length_cons, List.length_nil, List.cons_append, List.nil_append]
    rw [show f + (0 + 1) = f + 1 by omega, qtk, if_neg (by omega), if_neg (by omega), if_neg (by omega)]
    congr 1
  · simp only [List.length_cons, List.length_nil, List.cons_append, List.nil_append]
    rw [show f + (0 + 1 + 1 + 1 + 1) = (f + 3) + 1 by omega, qtk, if_neg (by omega), if_neg (by omega), if_pos rfl, qesc_oct c h0 h1 r, if_neg (by simp)]
    simp only [List.drop_succ_cons, List.drop_zero]
    rw [qtk_fuel 34 (f + 3) f r _ _ (by omega) hf]
    congr 1; omega

theorem qtk_all : ∀ (b : List Int) (f : Nat) (m : List Int) (i : Int) (out : List Int), (∀ c ∈ b, 0 ≤ c ∧ c ≤ 255) → (b.flatMap qch).length + m.length + 1 ≤ f →
    qtk 34 f (b.flatMap qch ++ 34 :: m) i out = (out ++ b, i + (b.flatMap qch).length + 1, 0)
  | [], f, m, i, out, _, hf => by
    obtain ⟨g, rfl⟩ : ∃ g, f = g + 1 := ⟨f - 1, by omega⟩
    simp [qtk]
  | c :: b, f, m, i, out, h, hf => by
    have hc := h c (by simp)
    simp only [List.flatMap_cons, List.length_append] at hf ⊢
    obtain ⟨g, rfl⟩ : ∃ g, f = g + (qch c).length := ⟨f - (qch c).length, by omega⟩
    rw [List.append_assoc, qtk_ch c hc.1 hc.2 g _ i out (by simp only [List.length_append, List.length_cons]; omega), qtk_all b g m _ _ (fun x hx => h x (by simp [hx])) (by omega)]
    simp only [List.append_assoc, List.cons_append, List.nil_append, Prod.mk.injEq, true_and, and_true]
    omega

/-- What is quoted is taken again, whatever stands behind. -/
theorem qtake_qtext (b m : List Int) (h : ∀ c ∈ b, 0 ≤ c ∧ c ≤ 255) : qtake (qtext b ++ m) = (b, ((qtext b).length : Int), 0) := by
  have : qtext b ++ m = 34 :: (b.flatMap qch ++ 34 :: m) := by simp [qtext]
  rw [this, qtake]
  simp only
  rw [if_pos (Or.inl trivial), qtk_all b _ m 1 [] h (by simp only [List.length_append, List.length_cons]; omega)]
  simp only [qtext, List.nil_append, List.length_append, List.length_cons, List.length_nil, Prod.mk.injEq, true_and, and_true]
  omega

theorem qch_len (c : Int) : 1 ≤ (qch c).length ∧ (qch c).length ≤ 4 := by
  unfold qch
  repeat' split
  all_goals simp

/-- Only signs that can be seen, and blanks. -/
theorem qch_plain (c : Int) (h0 : 0 ≤ c) (h1 : c ≤ 255) : ∀ x ∈ qch c, 32 ≤ x ∧ x ≤ 126 := by
  intro x hx
  unfold qch at hx
  by_cases k1 : c = 34 ∨ c = 92
  · rw [if_pos k1] at hx; simp at hx; omega
  rw [if_neg k1] at hx
  by_cases k2 : c = 9
  · rw [if_pos k2] at hx; simp at hx; omega
  rw [if_neg k2] at hx
  by_cases k3 : c = 10
  · rw [if_pos k3] at hx; simp at hx; omega
  rw [if_neg k3] at hx
  by_cases k4 : c = 13
  · rw [if_pos k4] at hx; simp at hx; omega
  rw [if_neg k4] at hx
  by_cases k5 : 32 ≤ c ∧ c ≤ 126
  · rw [if_pos k5] at hx; simp at hx; omega
  rw [if_neg k5] at hx; simp at hx; omega

theorem qtext_plain (b : List Int) (h : ∀ c ∈ b, 0 ≤ c ∧ c ≤ 255) : ∀ x ∈ qtext b, 32 ≤ x ∧ x ≤ 126 := by
  intro x hx
  simp only [qtext, List.mem_cons, List.mem_append, List.mem_flatMap, List.not_mem_nil, or_false] at hx
  rcases hx with rfl | ⟨c, hc, hx⟩ | rfl
  · omega
  · exact qch_plain c (h c hc).1 (h c hc).2 x hx
  · omega

theorem flat_len : ∀ b : List Int, (b.flatMap qch).length ≤ 4 * b.length
  | [] => by simp
  | c :: b => by
    have := qch_len c
    have := flat_len b
    simp only [List.flatMap_cons, List.length_append, List.length_cons]
    omega

theorem qtext_len (b : List Int) : (qtext b).length = (b.flatMap qch).length + 2 := by simp [qtext]

/-- Two texts are quoted as one. -/
theorem qtext_append (a b : List Int) : qtext (a ++ b) = (qtext a).take ((qtext a).length - 1) ++ (qtext b).drop 1 := by
  have e : (qtext a).take ((qtext a).length - 1) = 34 :: a.flatMap qch := by
    rw [qtext_len]
    simp [qtext]
  rw [e]
  simp [qtext]

/-- A byte's signs, cut: they are taken as something and then the text ends, or not at all. -/
theorem qtk_part (c : Int) (h0 : 0 ≤ c) (h1 : c ≤ 255) (j f : Nat) (i : Int) (out : List Int) (hj : j < (qch c).length) : ∃ k : Int, qtk 34 f ((qch c).take j) i out = ([], k, 40) ∧ i ≤ k ∧ k ≤ i + j := by
  cases f with
  | zero => exact ⟨i, rfl, by omega, by omega⟩
  | succ f =>
    cases j with
    | zero => exact ⟨i, by simp [qtk], by omega, by omega⟩
    | succ j =>
      have hnil : qesc [] = ([], 0) := rfl
      have two : ∀ x, (qch c) = [92, x] → ∃ k : Int, qtk 34 (f + 1) ((qch c).take (j + 1)) i out = ([], k, 40) ∧ i ≤ k ∧ k ≤ i + ((j + 1 : Nat) : Int) := by
        intro x hx
        rw [hx] at hj ⊢
        obtain rfl : j = 0 := by simp only [List.length_cons, List.length_nil] at hj; omega
        exact ⟨i, by simp [qtk, hnil], by omega, by omega⟩
      unfold qch at two hj ⊢
      by_cases k1 : c = 34 ∨ c = 92
      · rw [if_pos k1] at two ⊢; exact two _ rfl
      rw [if_neg k1] at two hj ⊢
      by_cases k2 : c = 9
      · rw [if_pos k2] at two ⊢; exact two _ rfl
      rw [if_neg k2] at two hj ⊢
      by_cases k3 : c = 10
      · rw [if_pos k3] at two ⊢; exact two _ rfl
      rw [if_neg k3] at two hj ⊢
      by_cases k4 : c = 13
      · rw [if_pos k4] at two ⊢; exact two _ rfl
      rw [if_neg k4] at two hj ⊢
      by_cases k5 : 32 ≤ c ∧ c ≤ 126
      · rw [if_pos k5] at hj; simp at hj
      rw [if_neg k5] at hj ⊢
      clear two
      simp at hj
      have d1 := dgt_oct (c / 64) (by omega) (by omega)
      have d2 := dgt_oct (c / 8 % 8) (by omega) (by omega)
      have hj' : j = 0 ∨ j = 1 ∨ j = 2 := by omega
      rcases hj' with rfl | rfl | rfl
      · exact ⟨i, by simp [qtk, hnil], by omega, by omega⟩
      · have e : qesc [48 + c / 64] = ([c / 64], 1) := by
          have q : qrn 8 3 [48 + c / 64] 0 = (c / 64, 1) := by
            simp only [qrn, d1]
            rw [if_pos (by omega)]
            simp
          rw [qesc, if_neg (by omega), if_neg (by omega), if_neg (by omega), if_neg (by omega), if_neg (by omega), if_neg (by omega), if_neg (by omega), if_neg (by omega), if_neg (by omega), if_neg (by omega), if_neg (by omega), q, if_pos (by omega)]
        refine ⟨i + 1 + (1 : Nat), ?_, by omega, by omega⟩
        simp only [List.take_succ_cons, List.take_zero]
        rw [qtk, if_neg (by omega), if_neg (by omega), if_pos rfl, e, if_neg (by simp)]
        cases f <;> simp [qtk]
      · have e : qesc [48 + c / 64, 48 + c / 8 % 8] = ([c / 64 * 8 + c / 8 % 8], 2) := by
          have q : qrn 8 3 [48 + c / 64, 48 + c / 8 % 8] 0 = (c / 64 * 8 + c / 8 % 8, 2) := by
            simp only [qrn, d1, d2]
            rw [if_pos (by omega), if_pos (by omega)]
            simp
          rw [qesc, if_neg (by omega), if_neg (by omega), if_neg (by omega), if_neg (by omega), if_neg (by omega), if_neg (by omega), if_neg (by omega), if_neg (by omega), if_neg (by omega), if_neg (by omega), if_neg (by omega), q, if_pos (by omega)]
        refine ⟨i + 1 + (2 : Nat), ?_, by omega, by omega⟩
        simp only [List.take_succ_cons, List.take_zero]
        rw [qtk, if_neg (by omega), if_neg (by omega), if_pos rfl, e, if_neg (by simp)]
        cases f <;> simp [qtk]

theorem qtk_cut : ∀ (b : List Int) (j f : Nat) (i : Int) (out : List Int), (∀ c ∈ b, 0 ≤ c ∧ c ≤ 255) → j ≤ (b.flatMap qch).length → j ≤ f → ∃ k : Int, qtk 34 f ((b.flatMap qch).take j) i out = ([], k, 40) ∧ i ≤ k ∧ k ≤ i + j
  | [], j, f, i, out, _, hj, hf => by
    simp at hj
    subst hj
    cases f <;> exact ⟨i, by simp [qtk], by omega, by omega⟩
  | c :: b, j, f, i, out, h, hj, hf => by
    have hc := h c (by simp)
    simp only [List.flatMap_cons, List.length_append] at hj ⊢
    by_cases hl : j < (qch c).length
    · rw [List.take_append_of_le_length (by omega)]
      exact qtk_part c hc.1 hc.2 j f i out hl
    · obtain ⟨g, rfl⟩ : ∃ g, f = g + (qch c).length := ⟨f - (qch c).length, by omega⟩
      obtain ⟨t, rfl⟩ : ∃ t, j = (qch c).length + t := ⟨j - (qch c).length, by omega⟩
      rw [List.take_length_add_append, qtk_ch c hc.1 hc.2 g _ i out (by simp only [List.length_take]; omega)]
      obtain ⟨k, e, h1, h2⟩ := qtk_cut b t g (i + (qch c).length) (out ++ [c]) (fun x hx => h x (by simp [hx])) (by omega) (by omega)
      exact ⟨k, e, by omega, by omega⟩

/-- A quoted text that is cut off is none. -/
theorem qtake_cut (b : List Int) (cut : Nat) (h : ∀ c ∈ b, 0 ≤ c ∧ c ≤ 255) (h1 : 1 ≤ cut) (h2 : cut < (qtext b).length) : ∃ k : Int, qtake ((qtext b).take cut) = ([], k, 40) ∧ 0 ≤ k ∧ k ≤ cut := by
  rw [qtext_len] at h2
  obtain ⟨j, rfl⟩ : ∃ j, cut = j + 1 := ⟨cut - 1, by omega⟩
  have e : (qtext b).take (j + 1) = 34 :: (b.flatMap qch).take j := by
    rw [qtext, List.take_succ_cons, List.take_append_of_le_length (by omega)]
  rw [e, qtake]
  simp only
  rw [if_pos (Or.inl trivial)]
  obtain ⟨k, e, h3, h4⟩ := qtk_cut b j ((b.flatMap qch).take j).length 1 [] h (by omega) (by simp only [List.length_take]; omega)
  exact ⟨k, e, by omega, by omega⟩

/-! ### Digits -/
theorem qdg_ten (f : Nat) (n : Int) (h : n < 10) : qdg (f + 1) n = [48 + n] := by rw [qdg, if_pos h]

theorem qdg_more (f : Nat) (n : Int) (h : 10 ≤ n) : qdg (f + 1) n = qdg f (n / 10) ++ [48 + n % 10] := by rw [qdg, if_neg (by omega)]

theorem qdg_bd : ∀ (f : Nat) (n : Int), 0 ≤ n → (∀ c ∈ qdg f n, 48 ≤ c ∧ c ≤ 57) ∧ (qdg f n).length ≤ f
  | 0, n, h => by simp [qdg]
  | f + 1, n, h => by
    by_cases k : n < 10
    · rw [qdg_ten f n k]; simp; omega
    · rw [qdg_more f n (by omega)]
      have := qdg_bd f (n / 10) (by omega)
      refine ⟨fun c hc => ?_, by simp; omega⟩
      rcases List.mem_append.1 hc with hc | hc
      · exact this.1 c hc
      · simp at hc; omega

/-- The first digit is a nought only where it stands alone. -/
theorem qdg_head : ∀ (f : Nat) (n : Int), 0 ≤ n → 1 ≤ f → n < 10 ^ f → ∃ d r, qdg f n = (48 + d) :: r ∧ 0 ≤ d ∧ d ≤ 9 ∧ (d = 0 → n = 0)
  | 0, n, _, h, _ => by omega
  | f + 1, n, h0, _, hf => by
    by_cases k : n < 10
    · exact ⟨n, [], qdg_ten f n k, h0, by omega, fun h => h⟩
    · rw [qdg_more f n (by omega)]
      cases f with
      | zero => simp at hf; omega
      | succ f =>
        obtain ⟨d, r, e, h1, h2, h3⟩ := qdg_head (f + 1) (n / 10) (by omega) (by omega) (by rw [Int.pow_succ] at hf; omega)
        exact ⟨d, r ++ [48 + n % 10], by rw [e]; rfl, h1, h2, fun h => absurd (h3 h) (by omega)⟩

theorem qnm_one (s : List Int) (c : Int) (base : Int) : ∀ n, (qnm base s n).2 = true → qnm base (s ++ [c]) n = qnm base [c] (qnm base s n).1 := by
  induction s with
  | nil => intro n _; rfl
  | cons x s ih =>
    intro n h
    by_cases k : base ≤ dgt x ∨ (18446744073709551615 - dgt x) / base < n
    · simp [qnm, k] at h
    · rw [List.cons_append, qnm, if_neg k]
      rw [qnm, if_neg k] at h
      rw [ih _ h]
      congr 1
      rw [qnm, if_neg k]

theorem qnm_qdg : ∀ (f : Nat) (n : Int), 0 ≤ n → n ≤ 18446744073709551615 → 1 ≤ f → n < 10 ^ f → qnm 10 (qdg f n) 0 = (n, true)
  | 0, n, _, _, h, _ => by omega
  | f + 1, n, h0, h1, _, hf => by
    by_cases k : n < 10
    · rw [qdg_ten f n k, qnm, dgt_oct n h0 (by omega), if_neg (by omega)]
      simp [qnm]
    · rw [qdg_more f n (by omega)]
      cases f with
      | zero => simp at hf; omega
      | succ f =>
        have ih := qnm_qdg (f + 1) (n / 10) (by omega) (by omega) (by omega) (by rw [Int.pow_succ] at hf; omega)
        rw [qnm_one _ _ _ _ (by rw [ih]), ih, qnm, dgt_oct (n % 10) (by omega) (by omega), if_neg (by omega)]
        simp only [qnm, Prod.mk.injEq, and_true]
        omega

/-- The digits are the number again. -/
theorem qnum_qdg (n : Int) (h0 : 0 ≤ n) (h1 : n ≤ 18446744073709551615) : qnum (qdg 20 n) = (n, true) := by
  have hf : n < 10 ^ 20 := by omega
  obtain ⟨d, r, e, d0, d9, hd⟩ := qdg_head 20 n h0 (by omega) hf
  have q := qnm_qdg 20 n h0 h1 (by omega) hf
  by_cases hz : n = 0
  · subst hz; decide
  · have hd0 : d ≠ 0 := fun h => hz (hd h)
    rw [e] at q ⊢
    unfold qnum
    rw [if_neg (by simp only [List.getD_cons_zero]; omega), if_neg (by simp only [List.getD_cons_zero]; omega), if_neg (by simp), q]

end Go.Proofs.Ytjbppjemilijdaa

/- The tokens of a source as plain functions over lists of numbers. -/
namespace Go.Proofs.Ytjbppjemilijdaa
set_option linter.unusedSimpArgs false

def lblank (c : Int) : Bool := decide (c = 32 ∨ (9 ≤ c ∧ c ≤ 13))

def lletter (c : Int) : Bool := decide ((97 ≤ c ∧ c ≤ 122) ∨ (65 ≤ c ∧ c ≤ 90) ∨ (48 ≤ c ∧ c ≤ 57) ∨ c = 95)

def lnumb (c : Int) : Bool := decide (48 ≤ c ∧ c ≤ 57)

def lsign (c : Int) : Bool := decide (c = 59 ∨ c = 44 ∨ c = 46 ∨ c = 61 ∨ c = 123 ∨ c = 125 ∨ c = 91 ∨ c = 93 ∨ c = 40 ∨ c = 41 ∨ c = 60 ∨ c = 62 ∨ c = 58 ∨ c = 45)

/-- Where the line of a place begins. -/
def lnAt (s : List Int) : Nat → Nat
  | 0 => 0
  | k + 1 => if s.getD k 0 = 10 then k + 1 else lnAt s k

theorem lnAt_le (s : List Int) : ∀ k, lnAt s k ≤ k
  | 0 => Nat.le_refl _
  | k + 1 => by
    unfold lnAt
    split
    · exact Nat.le_refl _
    · have := lnAt_le s k; omega

/-- As long as p holds from place i on, at most up to place 'to' (so many steps as f, at most). -/
def lrun (p : Int → Bool) (s : List Int) (to : Nat) : Nat → Nat → Nat
  | 0, i => i
  | f + 1, i => if i < to ∧ p (s.getD i 0) = true then lrun p s to f (i + 1) else i

theorem lrun_ge (p : Int → Bool) (s : List Int) (to : Nat) : ∀ f i, i ≤ lrun p s to f i
  | 0, i => Nat.le_refl _
  | f + 1, i => by
    unfold lrun
    split
    · have := lrun_ge p s to f (i + 1); omega
    · exact Nat.le_refl _

theorem lrun_le (p : Int → Bool) (s : List Int) (to : Nat) : ∀ f i, i ≤ to → lrun p s to f i ≤ to
  | 0, i, h => h
  | f + 1, i, h => by
    unfold lrun
    split
    · exact lrun_le p s to f (i + 1) (by omega)
    · exact h

theorem lrun_fuel (p : Int → Bool) (s : List Int) (to : Nat) : ∀ f g i, to ≤ i + f → to ≤ i + g → lrun p s to f i = lrun p s to g i
  | 0, 0, i, _, _ => rfl
  | 0, g + 1, i, h, _ => by unfold lrun; rw [if_neg (by omega)]
  | f + 1, 0, i, _, h => by unfold lrun; rw [if_neg (by omega)]
  | f + 1, g + 1, i, h1, h2 => by
    unfold lrun
    rw [lrun_fuel p s to f g (i + 1) (by omega) (by omega)]

/-- Up to a line's end, or the source's. -/
def leol (c : Int) : Bool := decide (c ≠ 10)

/-- The text of a line that is a comment and nothing else. -/
def lown (s : List Int) (frm to : Nat) : Option (List Int) :=
  let i := lrun lblank s to (to - frm) frm
  if i + 2 ≤ to ∧ s.getD i 0 = 47 ∧ s.getD (i + 1) 0 = 47 then some ((s.take to).drop (i + 2)) else none

def linside : List Nat → Nat → Bool
  | a :: b :: r, k => decide (a < k ∧ k < b) || linside r k
  | _, _ => false

/-- The comments right ahead of the line that begins at place frm. -/
def ldl (s : List Int) (marks : List Nat) : Nat → Nat → List Int → List Int
  | 0, _, out => out
  | f + 1, frm, out =>
    if frm = 0 then out else
    match lown s (lnAt s (frm - 1)) (frm - 1) with
    | none => out
    | some t => if linside marks (lnAt s (frm - 1)) || linside marks (frm - 1) then out else ldl s marks f (lnAt s (frm - 1)) (t ++ [10] ++ out)

def ldoc (s : List Int) (k : Nat) (marks : List Nat) : List Int :=
  if lrun lblank s k (k - lnAt s k) (lnAt s k) = k then ldl s marks (lnAt s k) (lnAt s k) [] else []

/-- A token. -/
structure Tk where
  kind : Int
  text : List Int
  n : Int
  pos : Nat
  doc : List Int
deriving DecidableEq

/-- Where a comment between signs ends: the place of its last '*', from place k on; the source's end: nowhere. -/
def lcl (s : List Int) : Nat → Nat → Nat
  | 0, k => k
  | f + 1, k => if k + 1 < s.length ∧ ¬ (s.getD k 0 = 42 ∧ s.getD (k + 1) 0 = 47) then lcl s f (k + 1) else k

theorem lcl_ge (s : List Int) : ∀ f k, k ≤ lcl s f k
  | 0, k => Nat.le_refl _
  | f + 1, k => by
    unfold lcl
    split
    · have := lcl_ge s f (k + 1); omega
    · exact Nat.le_refl _

def lpc (s : List Int) (i k : Nat) : List Int := (s.take k).drop i

/-- The token that begins at place i, and where it ends; or a place and an error. -/
def ltok (s : List Int) (i : Nat) (doc : List Int) : (Tk × Nat) ⊕ (Int × Int) :=
  if lletter (s.getD i 0) = true then
    let k := lrun lletter s s.length (s.length - (i + 1)) (i + 1)
    if lnumb (s.getD i 0) = true then
      (if (qnum (lpc s i k)).2 = true then .inl (⟨2, [], (qnum (lpc s i k)).1, i, doc⟩, k) else .inr ((i : Int), 52))
    else .inl (⟨1, lpc s i k, 0, i, doc⟩, k)
  else if s.getD i 0 = 34 ∨ s.getD i 0 = 39 then
    (if (qtake (s.drop i)).2.2 = 0 then .inl (⟨3, (qtake (s.drop i)).1, 0, i, doc⟩, i + (qtake (s.drop i)).2.1.toNat) else .inr ((i : Int) + (qtake (s.drop i)).2.1, (qtake (s.drop i)).2.2))
  else if lsign (s.getD i 0) = true then .inl (⟨4, lpc s i (i + 1), 0, i, doc⟩, i + 1)
  else .inr ((i : Int), 50)

/-- From place i on. -/
def lsc (s : List Int) : Nat → Nat → List Tk → List Nat → List Tk × Int × Int
  | 0, _, _, _ => ([], 0, 0)
  | f + 1, i0, out, marks =>
    let i := lrun lblank s s.length (s.length - i0) i0
    if i = s.length then (out ++ [⟨0, [], 0, i, ldoc s i marks⟩], 0, 0)
    else if i + 1 < s.length ∧ s.getD i 0 = 47 ∧ s.getD (i + 1) 0 = 47 then lsc s f (lrun leol s s.length (s.length - i) i) out marks
    else if i + 1 < s.length ∧ s.getD i 0 = 47 ∧ s.getD (i + 1) 0 = 42 then
      (let k := lcl s (s.length - (i + 2)) (i + 2)
       if k + 1 < s.length then lsc s f (k + 2) out (marks ++ [i, k + 1]) else ([], (i : Int), 51))
    else match ltok s i (ldoc s i marks) with
      | .inl (t, k) => lsc s f k (out ++ [t]) marks
      | .inr (k, e) => ([], k, e)

def lscan (s : List Int) : List Tk × Int × Int := if 100000 < s.length then ([], 0, 2) else lsc s (s.length + 1) 0 [] []

/-- Line and column. -/
def lline (s : List Int) : Nat → Int
  | 0 => 1
  | k + 1 => if s.getD k 0 = 10 then lline s k + 1 else lline s k

/-- A text as comments: what stands from a line's beginning on. -/
def ldcs : List Int → List Int → List Int
  | [], [] => []
  | l, [] => [47, 47] ++ l ++ [10]
  | l, c :: r => if c = 10 then [47, 47] ++ l ++ [10] ++ ldcs [] r else ldcs (l ++ [c]) r

def ldocs (t : List Int) : List Int := ldcs [] t

end Go.Proofs.Ytjbppjemilijdaa
