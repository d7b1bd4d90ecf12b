/- Characters as bytes: the document's plain functions (what Put answers, what stands at the beginning of bytes, how many there are) and how they hang together. -/
import Derived.WalkKit
namespace Go.Proofs.YtfkhocmbhnigeaaGreat

def isCh (n : Int) : Bool := decide (0 ≤ n) && decide (n ≤ 1114111) && (decide (n < 55296) || decide (57343 < n))

theorem isCh_iff (n : Int) : isCh n = true ↔ 0 ≤ n ∧ n ≤ 1114111 ∧ (n < 55296 ∨ 57343 < n) := by
  simp [isCh, and_assoc]

def uput (n : Int) : List Int :=
  if isCh n = true then
    if n < 128 then [n]
    else if n < 2048 then [192 + n / 64, 128 + n % 64]
    else if n < 65536 then [224 + n / 4096, 128 + n / 64 % 64, 128 + n % 64]
    else [240 + n / 262144, 128 + n / 4096 % 64, 128 + n / 64 % 64, 128 + n % 64]
  else []

theorem uput_no {n : Int} (h : isCh n = false) : uput n = [] := by simp [uput, h]

theorem uput_1 {n : Int} (h0 : 0 ≤ n) (h1 : n < 128) : uput n = [n] := by
  rw [uput, if_pos ((isCh_iff n).2 ⟨h0, by omega, by omega⟩), if_pos h1]

theorem uput_2 {n : Int} (h0 : 128 ≤ n) (h1 : n < 2048) : uput n = [192 + n / 64, 128 + n % 64] := by
  rw [uput, if_pos ((isCh_iff n).2 ⟨by omega, by omega, by omega⟩), if_neg (by omega), if_pos h1]

theorem uput_3 {n : Int} (h0 : 2048 ≤ n) (h1 : n < 65536) (hs : n < 55296 ∨ 57343 < n) : uput n = [224 + n / 4096, 128 + n / 64 % 64, 128 + n % 64] := by
  rw [uput, if_pos ((isCh_iff n).2 ⟨by omega, by omega, hs⟩), if_neg (by omega), if_neg (by omega), if_pos h1]

theorem uput_4 {n : Int} (h0 : 65536 ≤ n) (h1 : n ≤ 1114111) : uput n = [240 + n / 262144, 128 + n / 4096 % 64, 128 + n / 64 % 64, 128 + n % 64] := by
  rw [uput, if_pos ((isCh_iff n).2 ⟨by omega, by omega, by omega⟩), if_neg (by omega), if_neg (by omega), if_neg (by omega)]

/-- The four ways of a character. -/
theorem isCh_ways {n : Int} (h : isCh n = true) : (0 ≤ n ∧ n < 128) ∨ (128 ≤ n ∧ n < 2048) ∨ (2048 ≤ n ∧ n < 65536 ∧ (n < 55296 ∨ 57343 < n)) ∨ (65536 ≤ n ∧ n ≤ 1114111) := by
  have := (isCh_iff n).1 h
  omega

theorem uput_bd (n : Int) : ∀ c ∈ uput n, 0 ≤ c ∧ c ≤ 255 := by
  cases h : isCh n with
  | false => simp [uput_no h]
  | true =>
    rcases isCh_ways h with ⟨h0, h1⟩ | ⟨h0, h1⟩ | ⟨h0, h1, hs⟩ | ⟨h0, h1⟩
    · rw [uput_1 h0 h1]; simp; omega
    · rw [uput_2 h0 h1]; simp; omega
    · rw [uput_3 h0 h1 hs]; simp; omega
    · rw [uput_4 h0 h1]; simp; omega

theorem uput_len (n : Int) : (uput n).length ≤ 4 := by
  cases h : isCh n with
  | false => simp [uput_no h]
  | true =>
    rcases isCh_ways h with ⟨h0, h1⟩ | ⟨h0, h1⟩ | ⟨h0, h1, hs⟩ | ⟨h0, h1⟩
    · rw [uput_1 h0 h1]; simp
    · rw [uput_2 h0 h1]; simp
    · rw [uput_3 h0 h1 hs]; simp
    · rw [uput_4 h0 h1]; simp

theorem uput_pos {n : Int} (h : isCh n = true) : 1 ≤ (uput n).length := by
  rcases isCh_ways h with ⟨h0, h1⟩ | ⟨h0, h1⟩ | ⟨h0, h1, hs⟩ | ⟨h0, h1⟩
  · rw [uput_1 h0 h1]; simp
  · rw [uput_2 h0 h1]; simp
  · rw [uput_3 h0 h1 hs]; simp
  · rw [uput_4 h0 h1]; simp

/-- Whether there is a character of one, two, three, four bytes, by the bytes themselves. -/
def cont (c : Int) : Prop := 128 ≤ c ∧ c < 192
def un2 (a b : Int) : Int := (a - 192) * 64 + b - 128
def un3 (a b c : Int) : Int := ((a - 224) * 64 + b - 128) * 64 + c - 128
def un4 (a b c d : Int) : Int := (((a - 240) * 64 + b - 128) * 64 + c - 128) * 64 + d - 128
def fit1 (len a : Int) : Prop := 1 ≤ len ∧ a < 128
def fit2 (len a b : Int) : Prop := 2 ≤ len ∧ 194 ≤ a ∧ a < 224 ∧ cont b
def fit3 (len a b c : Int) : Prop := 3 ≤ len ∧ 224 ≤ a ∧ a < 240 ∧ cont b ∧ cont c ∧ 2048 ≤ un3 a b c ∧ (un3 a b c < 55296 ∨ 57343 < un3 a b c)
def fit4 (len a b c d : Int) : Prop := 4 ≤ len ∧ 240 ≤ a ∧ a < 248 ∧ cont b ∧ cont c ∧ cont d ∧ 65536 ≤ un4 a b c d ∧ un4 a b c d ≤ 1114111

instance (len a : Int) : Decidable (fit1 len a) := by unfold fit1; infer_instance
instance (c : Int) : Decidable (cont c) := by unfold cont; infer_instance
instance (len a b : Int) : Decidable (fit2 len a b) := by unfold fit2; infer_instance
instance (len a b c : Int) : Decidable (fit3 len a b c) := by unfold fit3; infer_instance
instance (len a b c d : Int) : Decidable (fit4 len a b c d) := by unfold fit4; infer_instance

/-- The character and how many bytes it has, by the length and the first four bytes. -/
def ur (len a b c d : Int) : Int × Int :=
  if fit1 len a then (a, 1)
  else if fit2 len a b then (un2 a b, 2)
  else if fit3 len a b c then (un3 a b c, 3)
  else if fit4 len a b c d then (un4 a b c d, 4)
  else (-1, 0)

def urune (z : List Int) : Int × Int := ur z.length (z.getD 0 0) (z.getD 1 0) (z.getD 2 0) (z.getD 3 0)

/-- The document's own test: a character whose bytes are just those. -/
theorem test_1 {z : List Int} (h : 1 ≤ z.length) (hb : ∀ i, 0 ≤ z.getD i 0 ∧ z.getD i 0 ≤ 255) :
    (isCh (z.getD 0 0) = true ∧ uput (z.getD 0 0) = z.take 1) ↔ fit1 z.length (z.getD 0 0) := by
  match z, h with
  | a :: l, _ =>
    have h0 := hb 0
    simp only [List.getD_cons_zero] at h0 ⊢
    simp only [fit1, List.take_succ_cons, List.take_zero, List.length_cons]
    constructor
    · rintro ⟨h1, h2⟩
      refine ⟨by omega, ?_⟩
      rcases Int.lt_or_le a 128 with hl | hl
      · exact hl
      · rw [uput_2 hl (by omega)] at h2
        simp at h2
    · rintro ⟨_, h2⟩
      exact ⟨(isCh_iff a).2 (by omega), uput_1 h0.1 h2⟩

theorem test_2 {z : List Int} (h : 2 ≤ z.length) (hb : ∀ i, 0 ≤ z.getD i 0 ∧ z.getD i 0 ≤ 255) :
    (isCh (un2 (z.getD 0 0) (z.getD 1 0)) = true ∧ uput (un2 (z.getD 0 0) (z.getD 1 0)) = z.take 2) ↔ fit2 z.length (z.getD 0 0) (z.getD 1 0) := by
  match z, h with
  | a :: b :: l, _ =>
    have h0 := hb 0
    have h1 := hb 1
    simp only [List.getD_cons_zero, List.getD_cons_succ] at h0 h1 ⊢
    simp only [fit2, cont, List.take_succ_cons, List.take_zero, List.length_cons]
    generalize hn : un2 a b = n
    unfold un2 at hn
    constructor
    · rintro ⟨h1, h2⟩
      rcases isCh_ways h1 with ⟨g0, g1⟩ | ⟨g0, g1⟩ | ⟨g0, g1, hs⟩ | ⟨g0, g1⟩
      · rw [uput_1 g0 g1] at h2; simp at h2
      · rw [uput_2 g0 g1] at h2; simp at h2; omega
      · rw [uput_3 g0 g1 hs] at h2; simp at h2
      · rw [uput_4 g0 g1] at h2; simp at h2
    · rintro ⟨_, h2, h3, h4, h5⟩
      refine ⟨(isCh_iff n).2 (by omega), ?_⟩
      rw [uput_2 (by omega) (by omega)]
      simp; omega

theorem test_3 {z : List Int} (h : 3 ≤ z.length) (hb : ∀ i, 0 ≤ z.getD i 0 ∧ z.getD i 0 ≤ 255) :
    (isCh (un3 (z.getD 0 0) (z.getD 1 0) (z.getD 2 0)) = true ∧ uput (un3 (z.getD 0 0) (z.getD 1 0) (z.getD 2 0)) = z.take 3) ↔ fit3 z.length (z.getD 0 0) (z.getD 1 0) (z.getD 2 0) := by
  match z, h with
  | a :: b :: c :: l, _ =>
    have h0 := hb 0
    have h1 := hb 1
    have h2 := hb 2
    simp only [List.getD_cons_zero, List.getD_cons_succ] at h0 h1 h2 ⊢
    simp only [fit3, cont, List.take_succ_cons, List.take_zero, List.length_cons]
    generalize hn : un3 a b c = n
    unfold un3 at hn
    constructor
    · rintro ⟨h1, h2⟩
      rcases isCh_ways h1 with ⟨g0, g1⟩ | ⟨g0, g1⟩ | ⟨g0, g1, hs⟩ | ⟨g0, g1⟩
      · rw [uput_1 g0 g1] at h2; simp at h2
      · rw [uput_2 g0 g1] at h2; simp at h2
      · rw [uput_3 g0 g1 hs] at h2; simp at h2; omega
      · rw [uput_4 g0 g1] at h2; simp at h2
    · rintro ⟨_, h2, h3, h4, h5, h6, h7⟩
      refine ⟨(isCh_iff n).2 (by omega), ?_⟩
      rw [uput_3 (by omega) (by omega) h7]
      simp; omega

theorem test_4 {z : List Int} (h : 4 ≤ z.length) (hb : ∀ i, 0 ≤ z.getD i 0 ∧ z.getD i 0 ≤ 255) :
    (isCh (un4 (z.getD 0 0) (z.getD 1 0) (z.getD 2 0) (z.getD 3 0)) = true ∧ uput (un4 (z.getD 0 0) (z.getD 1 0) (z.getD 2 0) (z.getD 3 0)) = z.take 4) ↔ fit4 z.length (z.getD 0 0) (z.getD 1 0) (z.getD 2 0) (z.getD 3 0) := by
  match z, h with
  | a :: b :: c :: d :: l, _ =>
    have h0 := hb 0
    have h1 := hb 1
    have h2 := hb 2
    have h3 := hb 3
    simp only [List.getD_cons_zero, List.getD_cons_succ] at h0 h1 h2 h3 ⊢
    simp only [fit4, cont, List.take_succ_cons, List.take_zero, List.length_cons]
    generalize hn : un4 a b c d = n
    unfold un4 at hn
    constructor
    · rintro ⟨h1, h2⟩
      rcases isCh_ways h1 with ⟨g0, g1⟩ | ⟨g0, g1⟩ | ⟨g0, g1, hs⟩ | ⟨g0, g1⟩
      · rw [uput_1 g0 g1] at h2; simp at h2
      · rw [uput_2 g0 g1] at h2; simp at h2
      · rw [uput_3 g0 g1 hs] at h2; simp at h2
      · rw [uput_4 g0 g1] at h2; simp at h2; omega
    · rintro ⟨_, h2, h3, h4, h5, h6, h7, h8⟩
      refine ⟨(isCh_iff n).2 (by omega), ?_⟩
      rw [uput_4 (by omega) (by omega)]
      simp; omega

/-- What Put answers is found again, whatever stands behind. -/
theorem urune_uput {n : Int} (h : isCh n = true) (m : List Int) : urune (uput n ++ m) = (n, ((uput n).length : Int)) := by
  rcases isCh_ways h with ⟨h0, h1⟩ | ⟨h0, h1⟩ | ⟨h0, h1, hs⟩ | ⟨h0, h1⟩
  · rw [uput_1 h0 h1]
    simp only [urune, List.cons_append, List.nil_append, List.getD_cons_zero, List.getD_cons_succ, List.length_cons, List.length_nil, ur]
    rw [if_pos (show fit1 _ _ by unfold fit1; omega)]; rfl
  · rw [uput_2 h0 h1]
    simp only [urune, List.cons_append, List.nil_append, List.getD_cons_zero, List.getD_cons_succ, List.length_cons, List.length_nil, ur]
    rw [if_neg (show ¬ fit1 _ _ by unfold fit1; omega), if_pos (show fit2 _ _ _ by unfold fit2 cont; omega)]
    simp only [un2, Prod.mk.injEq]; omega
  · rw [uput_3 h0 h1 hs]
    simp only [urune, List.cons_append, List.nil_append, List.getD_cons_zero, List.getD_cons_succ, List.length_cons, List.length_nil, ur]
    rw [if_neg (show ¬ fit1 _ _ by unfold fit1; omega), if_neg (show ¬ fit2 _ _ _ by unfold fit2 cont; omega), if_pos (show fit3 _ _ _ _ by unfold fit3 cont un3; omega)]
    simp only [un3, Prod.mk.injEq]; omega
  · rw [uput_4 h0 h1]
    simp only [urune, List.cons_append, List.nil_append, List.getD_cons_zero, List.getD_cons_succ, List.length_cons, List.length_nil, ur]
    rw [if_neg (show ¬ fit1 _ _ by unfold fit1; omega), if_neg (show ¬ fit2 _ _ _ by unfold fit2 cont; omega), if_neg (show ¬ fit3 _ _ _ _ by unfold fit3 cont; omega), if_pos (show fit4 _ _ _ _ _ by unfold fit4 cont un4; omega)]
    simp only [un4, Prod.mk.injEq]; omega

/-- Where there is one, the bytes begin with what Put answers of it. -/
theorem urune_some {z : List Int} (hb : ∀ i, 0 ≤ z.getD i 0 ∧ z.getD i 0 ≤ 255) (h : (urune z).2 ≠ 0) :
    isCh (urune z).1 = true ∧ (urune z).2 = ((uput (urune z).1).length : Int) ∧ (uput (urune z).1).length ≤ z.length ∧ uput (urune z).1 = z.take (uput (urune z).1).length := by
  unfold urune ur at *
  split at h
  · rename_i h1
    have hl : 1 ≤ z.length := by unfold fit1 at h1; omega
    rw [if_pos h1]
    have t := (test_1 hl hb).2 h1
    refine ⟨t.1, ?_, ?_, ?_⟩ <;> simp only <;> rw [t.2, List.length_take, Nat.min_eq_left hl]
    · rfl
    · exact hl
  · rename_i h1
    rw [if_neg h1]
    split at h
    · rename_i h2
      have hl : 2 ≤ z.length := by unfold fit2 at h2; omega
      rw [if_pos h2]
      have t := (test_2 hl hb).2 h2
      refine ⟨t.1, ?_, ?_, ?_⟩ <;> simp only <;> rw [t.2, List.length_take, Nat.min_eq_left hl]
      · rfl
      · exact hl
    · rename_i h2
      rw [if_neg h2]
      split at h
      · rename_i h3
        have hl : 3 ≤ z.length := by unfold fit3 at h3; omega
        rw [if_pos h3]
        have t := (test_3 hl hb).2 h3
        refine ⟨t.1, ?_, ?_, ?_⟩ <;> simp only <;> rw [t.2, List.length_take, Nat.min_eq_left hl]
        · rfl
        · exact hl
      · rename_i h3
        rw [if_neg h3]
        split at h
        · rename_i h4
          have hl : 4 ≤ z.length := by unfold fit4 at h4; omega
          rw [if_pos h4]
          have t := (test_4 hl hb).2 h4
          refine ⟨t.1, ?_, ?_, ?_⟩ <;> simp only <;> rw [t.2, List.length_take, Nat.min_eq_left hl]
          · rfl
          · exact hl
        · exact absurd rfl h

/-- The five answers. -/
theorem ur_ways (len a b c d : Int) : (fit1 len a ∧ ur len a b c d = (a, 1)) ∨ (¬ fit1 len a ∧ fit2 len a b ∧ ur len a b c d = (un2 a b, 2)) ∨ (¬ fit1 len a ∧ ¬ fit2 len a b ∧ fit3 len a b c ∧ ur len a b c d = (un3 a b c, 3)) ∨
    (¬ fit1 len a ∧ ¬ fit2 len a b ∧ ¬ fit3 len a b c ∧ fit4 len a b c d ∧ ur len a b c d = (un4 a b c d, 4)) ∨ (¬ fit1 len a ∧ ¬ fit2 len a b ∧ ¬ fit3 len a b c ∧ ¬ fit4 len a b c d ∧ ur len a b c d = (-1, 0)) := by
  unfold ur
  by_cases h1 : fit1 len a
  · exact .inl ⟨h1, by rw [if_pos h1]⟩
  · by_cases h2 : fit2 len a b
    · exact .inr (.inl ⟨h1, h2, by rw [if_neg h1, if_pos h2]⟩)
    · by_cases h3 : fit3 len a b c
      · exact .inr (.inr (.inl ⟨h1, h2, h3, by rw [if_neg h1, if_neg h2, if_pos h3]⟩))
      · by_cases h4 : fit4 len a b c d
        · exact .inr (.inr (.inr (.inl ⟨h1, h2, h3, h4, by rw [if_neg h1, if_neg h2, if_neg h3, if_pos h4]⟩)))
        · exact .inr (.inr (.inr (.inr ⟨h1, h2, h3, h4, by rw [if_neg h1, if_neg h2, if_neg h3, if_neg h4]⟩)))

/-- How many bytes: none, or one to four that are there. -/
theorem urune_size (z : List Int) : 0 ≤ (urune z).2 ∧ (urune z).2 ≤ 4 ∧ (urune z).2 ≤ z.length ∧ ((urune z).2 = 0 → urune z = (-1, 0)) := by
  unfold urune
  rcases ur_ways z.length (z.getD 0 0) (z.getD 1 0) (z.getD 2 0) (z.getD 3 0) with ⟨h, e⟩ | ⟨_, h, e⟩ | ⟨_, _, h, e⟩ | ⟨_, _, _, h, e⟩ | ⟨_, _, _, _, e⟩ <;> rw [e]
  · exact ⟨by simp, by simp, h.1, fun h => absurd h (by simp)⟩
  · exact ⟨by simp, by simp, h.1, fun h => absurd h (by simp)⟩
  · exact ⟨by simp, by simp, h.1, fun h => absurd h (by simp)⟩
  · exact ⟨by simp, by simp, h.1, fun h => absurd h (by simp)⟩
  · exact ⟨by simp, by simp, by simp, fun _ => rfl⟩

theorem urune_nil : urune [] = (-1, 0) := by decide

/-- More behind a character turns nothing. -/
theorem urune_append {z m : List Int} (hb : ∀ i, 0 ≤ z.getD i 0 ∧ z.getD i 0 ≤ 255) (h : (urune z).2 ≠ 0) : urune (z ++ m) = urune z := by
  obtain ⟨h1, h2, h3, h4⟩ := urune_some hb h
  have e : z ++ m = uput (urune z).1 ++ (z.drop (uput (urune z).1).length ++ m) := by
    conv => rhs; lhs; rw [h4]
    rw [← List.append_assoc, List.take_append_drop]
  rw [e, urune_uput h1, ← h2]

/-- How many characters there are ahead of the first place at which there is none, and whether that is the end. -/
def ucount : Nat → List Int → Int × Bool
  | 0, z => (0, z.isEmpty)
  | f + 1, z => if z = [] then (0, true) else if (urune z).2 = 0 then (0, false) else ((ucount f (z.drop (urune z).2.toNat)).1 + 1, (ucount f (z.drop (urune z).2.toNat)).2)

theorem ucount_fuel : ∀ (f g : Nat) (z : List Int), z.length ≤ f → z.length ≤ g → ucount f z = ucount g z
  | 0, 0, z, _, _ => rfl
  | 0, g + 1, z, h, _ => by
    have : z = [] := List.eq_nil_of_length_eq_zero (by omega)
    subst this; rfl
  | f + 1, 0, z, _, h => by
    have : z = [] := List.eq_nil_of_length_eq_zero (by omega)
    subst this; rfl
  | f + 1, g + 1, z, h1, h2 => by
    unfold ucount
    by_cases hz : z = []
    · rw [if_pos hz, if_pos hz]
    · rw [if_neg hz, if_neg hz]
      by_cases hs : (urune z).2 = 0
      · rw [if_pos hs, if_pos hs]
      · rw [if_neg hs, if_neg hs]
        have := urune_size z
        rw [ucount_fuel f g (z.drop (urune z).2.toNat) (by rw [List.length_drop]; omega) (by rw [List.length_drop]; omega)]

def ucnt (z : List Int) : Int × Bool := ucount z.length z

theorem ucnt_nil : ucnt [] = (0, true) := rfl

theorem ucnt_stop {z : List Int} (hz : z ≠ []) (hs : (urune z).2 = 0) : ucnt z = (0, false) := by
  obtain ⟨n, hn⟩ : ∃ n, z.length = n + 1 := ⟨z.length - 1, by have := List.length_pos_iff.2 hz; omega⟩
  rw [ucnt, hn, ucount, if_neg hz, if_pos hs]

theorem ucnt_step {z : List Int} (hs : (urune z).2 ≠ 0) : ucnt z = ((ucnt (z.drop (urune z).2.toNat)).1 + 1, (ucnt (z.drop (urune z).2.toNat)).2) := by
  have hz : z ≠ [] := by rintro rfl; exact hs (by rw [urune_nil])
  obtain ⟨n, hn⟩ : ∃ n, z.length = n + 1 := ⟨z.length - 1, by have := List.length_pos_iff.2 hz; omega⟩
  have := urune_size z
  rw [ucnt, hn, ucount, if_neg hz, if_neg hs, ucount_fuel n _ (z.drop (urune z).2.toNat) (by rw [List.length_drop]; omega) (Nat.le_refl _)]
  rfl

theorem ucnt_bd : ∀ (f : Nat) (z : List Int), 0 ≤ (ucount f z).1 ∧ (ucount f z).1 ≤ f
  | 0, z => by simp [ucount]
  | f + 1, z => by
    unfold ucount
    have := ucnt_bd f (z.drop (urune z).2.toNat)
    split
    · simp; omega
    · split
      · simp; omega
      · simp only; omega

theorem getD_drop' (z : List Int) (k i : Nat) : (z.drop k).getD i 0 = z.getD (k + i) 0 := by simp [List.getD]

theorem ucnt_append : ∀ (f : Nat) (a b : List Int), a.length ≤ f → (∀ i, 0 ≤ a.getD i 0 ∧ a.getD i 0 ≤ 255) → (ucnt a).2 = true → ucnt (a ++ b) = ((ucnt a).1 + (ucnt b).1, (ucnt b).2)
  | f, [], b, _, _, _ => by rw [ucnt_nil]; simp
  | 0, x :: a, b, h, _, _ => by simp at h
  | f + 1, x :: a, b, h, hb, hv => by
    by_cases hs : (urune (x :: a)).2 = 0
    · rw [ucnt_stop (by simp) hs] at hv; simp at hv
    · have sz := urune_size (x :: a)
      have e := urune_append (m := b) hb hs
      have hd : (x :: a ++ b).drop (urune (x :: a)).2.toNat = (x :: a).drop (urune (x :: a)).2.toNat ++ b := List.drop_append_of_le_length (by omega)
      rw [ucnt_step hs] at hv
      have ih := ucnt_append f ((x :: a).drop (urune (x :: a)).2.toNat) b (by rw [List.length_drop]; omega) (fun i => by rw [getD_drop']; exact hb _) hv
      rw [ucnt_step (z := x :: a ++ b) (by rw [e]; exact hs), e, hd, ih, ucnt_step hs]
      simp only [Prod.mk.injEq, and_true]
      omega

theorem ucnt_uput {n : Int} (h : isCh n = true) : ucnt (uput n) = (1, true) := by
  have e := urune_uput h []
  rw [List.append_nil] at e
  have hp := uput_pos h
  rw [ucnt_step (by rw [e]; simp only; omega), e]
  simp [ucnt_nil]

/-- A part of one is none. -/
theorem urune_part {n : Int} (h : isCh n = true) {k : Nat} (h1 : 1 ≤ k) (h2 : k < (uput n).length) : urune ((uput n).take k) = (-1, 0) := by
  rcases isCh_ways h with ⟨h0, h3⟩ | ⟨h0, h3⟩ | ⟨h0, h3, hs⟩ | ⟨h0, h3⟩
  · rw [uput_1 h0 h3] at h2; simp at h2; omega
  · rw [uput_2 h0 h3] at h2 ⊢
    obtain rfl : k = 1 := by simp at h2; omega
    simp only [urune, ur, List.take_succ_cons, List.take_zero, List.length_cons, List.length_nil, List.getD_cons_zero, List.getD_cons_succ]
    rw [if_neg (by unfold fit1; omega), if_neg (by unfold fit2; omega), if_neg (by unfold fit3; omega), if_neg (by unfold fit4; omega)]
  · rw [uput_3 h0 h3 hs] at h2 ⊢
    obtain rfl | rfl : k = 1 ∨ k = 2 := by simp at h2; omega
    all_goals
      simp only [urune, ur, List.take_succ_cons, List.take_zero, List.length_cons, List.length_nil, List.getD_cons_zero, List.getD_cons_succ]
      rw [if_neg (by unfold fit1; omega), if_neg (by unfold fit2; omega), if_neg (by unfold fit3; omega), if_neg (by unfold fit4; omega)]
  · rw [uput_4 h0 h3] at h2 ⊢
    obtain rfl | rfl | rfl : k = 1 ∨ k = 2 ∨ k = 3 := by simp at h2; omega
    all_goals
      simp only [urune, ur, List.take_succ_cons, List.take_zero, List.length_cons, List.length_nil, List.getD_cons_zero, List.getD_cons_succ]
      rw [if_neg (by unfold fit1; omega), if_neg (by unfold fit2; omega), if_neg (by unfold fit3; omega), if_neg (by unfold fit4; omega)]

theorem ucnt_part {n : Int} (h : isCh n = true) {k : Nat} (h1 : 1 ≤ k) (h2 : k < (uput n).length) : ucnt ((uput n).take k) = (0, false) := by
  refine ucnt_stop (fun e => ?_) (by rw [urune_part h h1 h2])
  have := congrArg List.length e
  rw [List.length_take, List.length_nil] at this
  omega

end Go.Proofs.YtfkhocmbhnigeaaGreat
