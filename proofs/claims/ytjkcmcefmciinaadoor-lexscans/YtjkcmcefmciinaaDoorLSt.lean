/- What the program's Scan remembers of the lines ahead (comments of their own, whether the line is used), and that it is what the comments of a token hang on: plain. -/
import Derived.Test.YtjkcmcefmciinaaDoorLKind
namespace Go.Proofs.YtjkcmcefmciinaaDoor
set_option linter.unusedSimpArgs false
set_option linter.unusedVariables false

theorem lrun_holds (p : Int → Bool) (s : List Int) (to : Nat) : ∀ f i q, i ≤ q → q < lrun p s to f i → p (s.getD q 0) = true ∧ q < to
  | 0, i, q, h1, h2 => by rw [lrun] at h2; omega
  | f + 1, i, q, h1, h2 => by
    rw [lrun] at h2
    by_cases k : i < to ∧ p (s.getD i 0) = true
    · rw [if_pos k] at h2
      by_cases e : q = i
      · subst e; exact ⟨k.2, k.1⟩
      · exact lrun_holds p s to f (i + 1) q (by omega) h2
    · rw [if_neg k] at h2; omega

theorem lrun_stop (p : Int → Bool) (s : List Int) (to : Nat) : ∀ f i, to ≤ i + f → lrun p s to f i < to → p (s.getD (lrun p s to f i) 0) = false
  | 0, i, h1, h2 => by rw [lrun] at h2; omega
  | f + 1, i, h1, h2 => by
    rw [lrun] at h2 ⊢
    by_cases k : i < to ∧ p (s.getD i 0) = true
    · rw [if_pos k] at h2 ⊢
      exact lrun_stop p s to f (i + 1) (by omega) h2
    · rw [if_neg k] at h2 ⊢
      cases hp : p (s.getD i 0) with
      | true => exact absurd ⟨h2, hp⟩ k
      | false => rfl

theorem lrun_uniq (p : Int → Bool) (s : List Int) (to : Nat) : ∀ f i k, i ≤ k → k ≤ to → to ≤ i + f → (∀ q, i ≤ q → q < k → p (s.getD q 0) = true) → (k = to ∨ p (s.getD k 0) = false) → lrun p s to f i = k
  | 0, i, k, h1, h2, h3, h4, h5 => by rw [lrun]; omega
  | f + 1, i, k, h1, h2, h3, h4, h5 => by
    rw [lrun]
    by_cases e : i = k
    · subst e
      rw [if_neg]
      rintro ⟨g1, g2⟩
      rcases h5 with h5 | h5
      · omega
      · rw [h5] at g2; exact absurd g2 (by decide)
    · rw [if_pos ⟨by omega, h4 i (Nat.le_refl _) (by omega)⟩]
      exact lrun_uniq p s to f (i + 1) k (by omega) h2 (by omega) (fun q g1 g2 => h4 q (by omega) g2) h5

theorem lnAt_no (s : List Int) : ∀ i p, lnAt s i ≤ p → p < i → s.getD p 0 ≠ 10
  | 0, p, _, h2 => by omega
  | i + 1, p, h1, h2 => by
    rw [lnAt] at h1
    by_cases k : s.getD i 0 = 10
    · rw [if_pos k] at h1; omega
    · rw [if_neg k] at h1
      by_cases e : p = i
      · subst e; exact k
      · exact lnAt_no s i p h1 (by omega)

theorem lnAt_ext (s : List Int) (i : Nat) : ∀ k, i ≤ k → (∀ p, i ≤ p → p < k → s.getD p 0 ≠ 10) → lnAt s k = lnAt s i
  | 0, h1, _ => by rw [show i = 0 by omega]
  | k + 1, h1, h2 => by
    by_cases e : i = k + 1
    · rw [e]
    · rw [lnAt, if_neg (h2 k (by omega) (by omega))]
      exact lnAt_ext s i k (by omega) (fun p g1 g2 => h2 p g1 (by omega))

theorem lnAt_next (s : List Int) (i : Nat) (h : s.getD i 0 = 10) : lnAt s (i + 1) = i + 1 := by rw [lnAt, if_pos h]

/-- A line is blank up to a place. -/
def blk (s : List Int) (i : Nat) : Prop := ∀ p, lnAt s i ≤ p → p < i → lblank (s.getD p 0) = true

theorem blk_run (s : List Int) (i : Nat) : lrun lblank s i (i - lnAt s i) (lnAt s i) = i ↔ blk s i := by
  constructor
  · intro h p h1 h2
    exact (lrun_holds lblank s i (i - lnAt s i) _ p h1 (by rw [h]; exact h2)).1
  · intro h
    have := lnAt_le s i
    exact lrun_uniq lblank s i _ _ i this (Nat.le_refl _) (by omega) h (.inl rfl)

theorem lown_blank (s : List Int) (a b : Nat) (hab : a ≤ b) (h : ∀ p, a ≤ p → p < b → lblank (s.getD p 0) = true) : lown s a b = none := by
  unfold lown
  simp only
  rw [lrun_uniq lblank s b _ _ b hab (Nat.le_refl _) (by omega) h (.inl rfl), if_neg (by omega)]

theorem lown_not (s : List Int) (a j b : Nat) (haj : a ≤ j) (hjb : j < b) (h : ∀ p, a ≤ p → p < j → lblank (s.getD p 0) = true) (hj : lblank (s.getD j 0) = false) (hn : ¬ (s.getD j 0 = 47 ∧ s.getD (j + 1) 0 = 47)) : lown s a b = none := by
  unfold lown
  simp only
  rw [lrun_uniq lblank s b _ _ j haj (by omega) (by omega) h (.inr hj), if_neg (fun g => hn g.2)]

theorem lown_is (s : List Int) (a j b : Nat) (haj : a ≤ j) (hjb : j + 2 ≤ b) (h : ∀ p, a ≤ p → p < j → lblank (s.getD p 0) = true) (h1 : s.getD j 0 = 47) (h2 : s.getD (j + 1) 0 = 47) : lown s a b = some (lpc s (j + 2) b) := by
  unfold lown
  simp only
  rw [lrun_uniq lblank s b _ _ j haj (by omega) (by omega) h (.inr (by rw [h1]; decide)), if_pos ⟨hjb, h1, h2⟩]
  rfl

theorem ldl_app (s : List Int) (ms : List Nat) : ∀ (f n : Nat) (a b : List Int), ldl s ms f n (a ++ b) = ldl s ms f n a ++ b
  | 0, n, a, b => rfl
  | f + 1, n, a, b => by
    rw [ldl, ldl]
    by_cases k : n = 0
    · rw [if_pos k, if_pos k]
    rw [if_neg k, if_neg k]
    cases lown s (lnAt s (n - 1)) (n - 1) with
    | none => rfl
    | some t =>
      simp only
      split
      · rfl
      · rw [← List.append_assoc, ldl_app]

theorem ldl_fuel (s : List Int) (ms : List Nat) : ∀ (f g n : Nat) (a : List Int), n ≤ f → n ≤ g → ldl s ms f n a = ldl s ms g n a
  | 0, 0, n, a, _, _ => rfl
  | 0, g + 1, n, a, h, _ => by rw [ldl, ldl, if_pos (by omega)]
  | f + 1, 0, n, a, _, h => by rw [ldl, ldl, if_pos (by omega)]
  | f + 1, g + 1, n, a, h1, h2 => by
    rw [ldl, ldl]
    by_cases k : n = 0
    · rw [if_pos k, if_pos k]
    rw [if_neg k, if_neg k]
    have hl := lnAt_le s (n - 1)
    cases lown s (lnAt s (n - 1)) (n - 1) with
    | none => rfl
    | some t =>
      simp only
      split
      · rfl
      · exact ldl_fuel s ms f g _ _ (by omega) (by omega)

theorem linside_app (a b p : Nat) : ∀ (n : Nat) (ms : List Nat), ms.length = 2 * n → linside (ms ++ [a, b]) p = (linside ms p || decide (a < p ∧ p < b))
  | 0, ms, h => by
    have : ms = [] := List.eq_nil_of_length_eq_zero (by omega)
    subst this
    simp [linside]
  | n + 1, [], h => by simp at h
  | n + 1, [x], h => by simp at h; omega
  | n + 1, x :: y :: ms, h => by
    simp only [List.cons_append, linside]
    rw [linside_app a b p n ms (by simp at h; omega), Bool.or_assoc]

/-- This line has no comment of its own. -/
def Bad (s : List Int) (ms : List Nat) (i : Nat) : Prop := ∀ e, i ≤ e → lnAt s e = lnAt s i → lown s (lnAt s i) e = none ∨ linside ms (lnAt s i) = true

/-- What Scan remembers at place i, behind the marks ms. -/
structure Rel (s : List Int) (ms : List Nat) (i : Nat) (doc : List Int) (used own : Bool) : Prop where
  even : ∃ n, ms.length = 2 * n
  past : ∀ p, i ≤ p → linside ms p = false
  way : (used = false ∧ own = false ∧ blk s i ∧ linside ms (lnAt s i) = false ∧ doc = ldl s ms (lnAt s i) (lnAt s i) []) ∨
        (used = true ∧ own = false ∧ ¬ blk s i ∧ Bad s ms i) ∨
        (used = true ∧ own = true ∧ ¬ blk s i ∧ (i < s.length → s.getD i 0 = 10 ∧ doc = ldl s ms (i + 1) (i + 1) []))

theorem Rel.start (s : List Int) : Rel s [] 0 [] false false :=
  ⟨⟨0, rfl⟩, fun p _ => rfl, .inl ⟨rfl, rfl, fun p _ h => absurd h (by omega), rfl, rfl⟩⟩

theorem Rel.doc {s : List Int} {ms : List Nat} {i : Nat} {doc : List Int} {used own : Bool} (h : Rel s ms i doc used own) : ldoc s i ms = if used = true then [] else doc := by
  unfold ldoc
  rcases h.way with ⟨rfl, rfl, hb, hl, rfl⟩ | ⟨rfl, rfl, hb, _⟩ | ⟨rfl, rfl, hb, _⟩
  · rw [if_pos ((blk_run s i).2 hb), if_neg (by decide)]
  · rw [if_neg (fun h => hb ((blk_run s i).1 h)), if_pos rfl]
  · rw [if_neg (fun h => hb ((blk_run s i).1 h)), if_pos rfl]

theorem Rel.eol {s : List Int} {ms : List Nat} {i : Nat} {doc : List Int} {used own : Bool} (h : Rel s ms i doc used own) (hi : i < s.length) (h10 : s.getD i 0 = 10) : Rel s ms (i + 1) (if own = true then doc else []) false false := by
  have hn := lnAt_next s i h10
  refine ⟨h.even, fun p hp => h.past p (by omega), .inl ⟨rfl, rfl, fun p h1 h2 => by omega, by rw [hn]; exact h.past _ (by omega), ?_⟩⟩
  rw [hn]
  rcases h.way with ⟨rfl, rfl, hb, hl, rfl⟩ | ⟨rfl, rfl, hb, hB⟩ | ⟨rfl, rfl, hb, hd⟩
  · rw [if_neg (by decide), ldl, if_neg (by omega), show i + 1 - 1 = i by omega, lown_blank s _ _ (lnAt_le s i) hb]
  · rw [if_neg (by decide), ldl, if_neg (by omega), show i + 1 - 1 = i by omega]
    rcases hB i (Nat.le_refl _) rfl with h1 | h1
    · rw [h1]
    · cases lown s (lnAt s i) i with
      | none => rfl
      | some t => simp only [h1, Bool.true_or, if_true]
  · rw [if_pos rfl]
    exact (hd hi).2

theorem Rel.same {s : List Int} {ms : List Nat} {i k : Nat} {doc : List Int} (h : Rel s ms i doc true false) (hk : i ≤ k) (h10 : ∀ p, i ≤ p → p < k → s.getD p 0 ≠ 10) : Rel s ms k doc true false := by
  have hl := lnAt_ext s i k hk h10
  refine ⟨h.even, fun p hp => h.past p (by omega), .inr (.inl ⟨rfl, rfl, ?_, ?_⟩)⟩
  · rcases h.way with ⟨h1, _⟩ | ⟨_, _, hb, _⟩ | ⟨_, h2, _⟩
    · simp at h1
    · intro hk2
      exact hb (fun p h1 h2 => hk2 p (by rw [hl]; exact h1) (by omega))
    · simp at h2
  · rcases h.way with ⟨h1, _⟩ | ⟨_, _, hb, hB⟩ | ⟨_, h2, _⟩
    · simp at h1
    · intro e he1 he2
      rw [hl] at he2 ⊢
      exact hB e (by omega) he2
    · simp at h2

theorem Rel.blank {s : List Int} {ms : List Nat} {i : Nat} {doc : List Int} {used own : Bool} (h : Rel s ms i doc used own) (hi : i < s.length) (hb : lblank (s.getD i 0) = true) (h10 : s.getD i 0 ≠ 10) : Rel s ms (i + 1) doc used own := by
  have hx : ∀ p, i ≤ p → p < i + 1 → s.getD p 0 ≠ 10 := fun p h1 h2 => by rw [show p = i by omega]; exact h10
  have hl := lnAt_ext s i (i + 1) (by omega) hx
  have h' := h
  rcases h.way with ⟨rfl, rfl, hk, hm, hd⟩ | ⟨rfl, rfl, _⟩ | ⟨rfl, rfl, _, hd⟩
  · refine ⟨h.even, fun p hp => h.past p (by omega), .inl ⟨rfl, rfl, fun p h1 h2 => ?_, by rw [hl]; exact hm, by rw [hl]; exact hd⟩⟩
    by_cases e : p = i
    · rw [e]; exact hb
    · exact hk p (by rw [hl] at h1; exact h1) (by omega)
  · exact h'.same (by omega) hx
  · exact absurd (hd hi).1 h10

theorem Rel.tok {s : List Int} {ms : List Nat} {i k : Nat} {doc : List Int} {used own : Bool} (h : Rel s ms i doc used own) (hi : i < s.length) (hk : i < k) (h10 : ∀ p, i ≤ p → p < k → s.getD p 0 ≠ 10) (hb : lblank (s.getD i 0) = false) (hn : ¬ (s.getD i 0 = 47 ∧ s.getD (i + 1) 0 = 47)) :
    Rel s ms k doc true own := by
  have hl := lnAt_ext s i k (by omega) h10
  have h' := h
  rcases h.way with ⟨rfl, rfl, hbk, hm, hd⟩ | ⟨rfl, rfl, _⟩ | ⟨rfl, rfl, _, hd⟩
  · refine ⟨h.even, fun p hp => h.past p (by omega), .inr (.inl ⟨rfl, rfl, fun hk2 => ?_, fun e he1 he2 => .inl ?_⟩)⟩
    · have := hk2 i (by rw [hl]; exact lnAt_le s i) hk
      rw [hb] at this
      exact absurd this (by decide)
    · rw [hl]
      exact lown_not s _ i e (lnAt_le s i) (by omega) hbk hb hn
  · exact h'.same (by omega) h10
  · exact absurd (hd hi).1 (h10 i (Nat.le_refl _) hk)

theorem Rel.line {s : List Int} {ms : List Nat} {i e : Nat} {doc : List Int} {used own : Bool} (h : Rel s ms i doc used own) (hi : i + 1 < s.length) (h1 : s.getD i 0 = 47) (h2 : s.getD (i + 1) 0 = 47) (he : e = lrun leol s s.length (s.length - i) i) :
    Rel s ms e (if used = true then doc else doc ++ (lpc s (i + 2) e ++ [10])) true (if used = true then own else true) := by
  have hx : ∀ p, i ≤ p → p < e → s.getD p 0 ≠ 10 := fun p g1 g2 => by
    have := (lrun_holds leol s s.length _ _ p g1 (by rw [← he]; exact g2)).1
    exact of_decide_eq_true this
  have hle : e ≤ s.length := by rw [he]; exact lrun_le _ _ _ _ _ (by omega)
  have hge : i + 2 ≤ e := by
    rcases Nat.lt_or_ge e (i + 2) with g | g
    · have hg := lrun_ge leol s s.length (s.length - i) i
      rw [← he] at hg
      have hs := lrun_stop leol s s.length (s.length - i) i (by omega) (by omega)
      rw [← he] at hs
      have : e = i ∨ e = i + 1 := by omega
      rcases this with rfl | rfl
      · rw [h1] at hs; exact absurd hs (by decide)
      · rw [h2] at hs; exact absurd hs (by decide)
    · exact g
  have hl := lnAt_ext s i e (by omega) hx
  have h' := h
  rcases h.way with ⟨rfl, rfl, hbk, hm, hd⟩ | ⟨rfl, rfl, _⟩ | ⟨rfl, rfl, _, hd⟩
  · rw [if_neg (by decide), if_neg (by decide)]
    refine ⟨h.even, fun p hp => h.past p (by omega), .inr (.inr ⟨rfl, rfl, fun hk2 => ?_, fun hel => ?_⟩)⟩
    · have := hk2 i (by rw [hl]; exact lnAt_le s i) (by omega)
      rw [h1] at this
      exact absurd this (by decide)
    · have hs := lrun_stop leol s s.length (s.length - i) i (by omega) (by rw [← he]; exact hel)
      rw [← he] at hs
      have h10 : s.getD e 0 = 10 := by
        rcases Decidable.em (s.getD e 0 = 10) with g | g
        · exact g
        · rw [show leol (s.getD e 0) = true from decide_eq_true g] at hs; exact absurd hs (by decide)
      refine ⟨h10, ?_⟩
      have hln := lnAt_le s i
      rw [ldl, if_neg (by omega), show e + 1 - 1 = e by omega, hl, lown_is s _ i e hln hge hbk h1 h2]
      simp only [hm, h.past e (by omega), Bool.or_self]
      rw [if_neg (by decide), ldl_app, List.append_nil, hd]
      have := ldl_app s ms e (lnAt s i) [] (lpc s (i + 2) e ++ [10])
      rw [List.nil_append] at this
      rw [this, ldl_fuel s ms e (lnAt s i) (lnAt s i) [] (by omega) (Nat.le_refl _)]
  · rw [if_pos rfl, if_pos rfl]
    exact h'.same (by omega) hx
  · have := (hd (by omega)).1
    rw [h1] at this
    exact absurd this (by decide)

theorem lcl_end (s : List Int) : ∀ f k, s.length ≤ k + f → lcl s f k + 1 < s.length → s.getD (lcl s f k) 0 = 42 ∧ s.getD (lcl s f k + 1) 0 = 47
  | 0, k, h, h2 => by rw [lcl] at h2; omega
  | f + 1, k, h, h2 => by
    rw [lcl] at h2 ⊢
    by_cases c : k + 1 < s.length ∧ ¬ (s.getD k 0 = 42 ∧ s.getD (k + 1) 0 = 47)
    · rw [if_pos c] at h2 ⊢
      exact lcl_end s f (k + 1) (by omega) h2
    · rw [if_neg c] at h2 ⊢
      exact Decidable.byContradiction fun g => c ⟨h2, g⟩

theorem Rel.block {s : List Int} {ms : List Nat} {i K : Nat} {doc : List Int} {used own : Bool} (h : Rel s ms i doc used own) (hi : i + 1 < s.length) (h1 : s.getD i 0 = 47) (h2 : s.getD (i + 1) 0 = 42) (hK : i + 2 ≤ K) (hKl : K + 1 < s.length)
    (e1 : s.getD K 0 = 42) (e2 : s.getD (K + 1) 0 = 47) : Rel s (ms ++ [i, K + 1]) (K + 2) doc true own := by
  obtain ⟨n, hn⟩ := h.even
  have hin : ∀ p, linside (ms ++ [i, K + 1]) p = (linside ms p || decide (i < p ∧ p < K + 1)) := fun p => linside_app i (K + 1) p n ms hn
  have hlK : lnAt s (K + 2) ≤ K := by
    rw [lnAt, if_neg (by rw [e2]; decide), lnAt, if_neg (by rw [e1]; decide)]
    exact lnAt_le s K
  have hown : own = false := by
    rcases h.way with ⟨_, g, _⟩ | ⟨_, g, _⟩ | ⟨_, _, _, hd⟩
    · exact g
    · exact g
    · have := (hd (by omega)).1; rw [h1] at this; exact absurd this (by decide)
  subst hown
  refine ⟨⟨n + 1, by simp; omega⟩, fun p hp => by rw [hin, h.past p (by omega)]; simp; omega, .inr (.inl ⟨rfl, rfl, fun hk2 => ?_, fun e he1 he2 => ?_⟩)⟩
  · have := hk2 (K + 1) (by omega) (by omega)
    rw [e2] at this
    exact absurd this (by decide)
  · rcases Nat.lt_or_ge i (lnAt s (K + 2)) with g | g
    · right
      rw [hin, decide_eq_true ⟨g, by omega⟩, Bool.or_true]
    · have hl := lnAt_ext s i (K + 2) (by omega) (fun p g1 g2 => lnAt_no s (K + 2) p (by omega) g2)
      rw [hl] at he2 ⊢
      rcases h.way with ⟨_, _, hbk, hm, _⟩ | ⟨_, _, _, hB⟩ | ⟨_, h3, _⟩
      · left
        exact lown_not s _ i e (lnAt_le s i) (by omega) hbk (by rw [h1]; decide) (fun g => by rw [h2] at g; exact absurd g.2 (by decide))
      · rcases hB e (by omega) he2 with g2 | g2
        · exact .inl g2
        · right; rw [hin, g2, Bool.true_or]
      · simp at h3

/- A quoted text has no line's end within. -/
theorem qrn_no10 (base : Int) (hb : base ≤ 16) : ∀ (f : Nat) (s : List Int) (n : Int), ∀ x ∈ s.take (qrn base f s n).2, x ≠ 10
  | 0, s, n => by simp [qrn]
  | f + 1, [], n => by simp [qrn]
  | f + 1, c :: r, n => by
    rw [qrn]
    by_cases k : dgt c < base
    · rw [if_pos k]
      intro x hx
      simp only [List.take_succ_cons, List.mem_cons] at hx
      rcases hx with rfl | hx
      · rintro rfl
        have : dgt 10 = 99 := by decide
        omega
      · exact qrn_no10 base hb f r _ x hx
    · rw [if_neg k]; simp

theorem qesc_no10 (s : List Int) : ∀ x ∈ s.take (qesc s).2, x ≠ 10 := by
  cases s with
  | nil => simp [qesc]
  | cons c r =>
    have h1 := qrn_no10 16 (by omega) 2 r 0
    have h2 := qrn_no10 16 (by omega) 4 r 0
    have h3 := qrn_no10 16 (by omega) 8 r 0
    have h4 := qrn_no10 8 (by omega) 3 (c :: r) 0
    rw [qesc]
    by_cases k0 : c = 97
    · rw [if_pos k0]; simp [k0]
    rw [if_neg k0]
    by_cases k1 : c = 98
    · rw [if_pos k1]; simp [k1]
    rw [if_neg k1]
    by_cases k2 : c = 102
    · rw [if_pos k2]; simp [k2]
    rw [if_neg k2]
    by_cases k3 : c = 110
    · rw [if_pos k3]; simp [k3]
    rw [if_neg k3]
    by_cases k4 : c = 114
    · rw [if_pos k4]; simp [k4]
    rw [if_neg k4]
    by_cases k5 : c = 116
    · rw [if_pos k5]; simp [k5]
    rw [if_neg k5]
    by_cases k6 : c = 118
    · rw [if_pos k6]; simp [k6]
    rw [if_neg k6]
    by_cases k7 : c = 92 ∨ c = 39 ∨ c = 34 ∨ c = 63
    · rw [if_pos k7]; simp; omega
    rw [if_neg k7]
    by_cases m0 : c = 120 ∨ c = 88
    · rw [if_pos m0]
      by_cases j : 0 < (qrn 16 2 r 0).2
      · rw [if_pos j]
        simp only [Nat.add_comm 1, List.take_succ_cons, List.mem_cons]
        rintro x (rfl | hx)
        · omega
        · exact h1 x hx
      · rw [if_neg j]; simp
    rw [if_neg m0]
    by_cases m1 : c = 117
    · rw [if_pos m1]
      by_cases j : (qrn 16 4 r 0).2 = 4 ∧ isCh (qrn 16 4 r 0).1 = true
      · rw [if_pos j]
        rw [j.1] at h2
        simp only [List.take_succ_cons, List.mem_cons]
        rintro x (rfl | hx)
        · omega
        · exact h2 x hx
      · rw [if_neg j]; simp
    rw [if_neg m1]
    by_cases m2 : c = 85
    · rw [if_pos m2]
      by_cases j : (qrn 16 8 r 0).2 = 8 ∧ isCh (qrn 16 8 r 0).1 = true
      · rw [if_pos j]
        rw [j.1] at h3
        simp only [List.take_succ_cons, List.mem_cons]
        rintro x (rfl | hx)
        · omega
        · exact h3 x hx
      · rw [if_neg j]; simp
    rw [if_neg m2]
    by_cases j : 0 < (qrn 8 3 (c :: r) 0).2 ∧ (qrn 8 3 (c :: r) 0).1 < 256
    · rw [if_pos j]; exact h4
    · rw [if_neg j]; simp

theorem qtk_no10 (q : Int) (hq : q ≠ 10) : ∀ (f : Nat) (s : List Int) (i : Int) (o : List Int), (qtk q f s i o).2.2 = 0 → ∃ n : Nat, (qtk q f s i o).2.1 = i + n ∧ n ≤ s.length ∧ ∀ x ∈ s.take n, x ≠ 10
  | 0, s, i, o, h => by simp [qtk] at h
  | f + 1, [], i, o, h => by simp [qtk] at h
  | f + 1, c :: r, i, o, h => by
    rw [qtk] at h ⊢
    by_cases k1 : c = q
    · simp only [if_pos k1] at h ⊢
      exact ⟨1, by omega, by simp, by simp; omega⟩
    simp only [if_neg k1] at h ⊢
    by_cases k2 : c = 0 ∨ c = 10
    · simp only [if_pos k2] at h; exact absurd h (by decide)
    simp only [if_neg k2] at h ⊢
    by_cases k3 : c = 92
    · simp only [if_pos k3] at h ⊢
      by_cases k4 : (qesc r).2 = 0
      · simp only [if_pos k4] at h; exact absurd h (by decide)
      · simp only [if_neg k4] at h ⊢
        obtain ⟨n, h1, h2, h3⟩ := qtk_no10 q hq f (r.drop (qesc r).2) _ _ h
        have hle := (qesc_le r).1
        simp only [List.length_drop] at h2
        refine ⟨1 + (qesc r).2 + n, by rw [h1]; push_cast; omega, by simp only [List.length_cons]; omega, ?_⟩
        rw [show 1 + (qesc r).2 + n = ((qesc r).2 + n) + 1 by omega, List.take_succ_cons, List.take_add]
        simp only [List.mem_cons, List.mem_append]
        rintro x (rfl | hx | hx)
        · omega
        · exact qesc_no10 r x hx
        · exact h3 x hx
    · simp only [if_neg k3] at h ⊢
      obtain ⟨n, h1, h2, h3⟩ := qtk_no10 q hq f r _ _ h
      refine ⟨n + 1, by rw [h1]; push_cast; omega, by simp only [List.length_cons]; omega, ?_⟩
      rw [List.take_succ_cons]
      simp only [List.mem_cons]
      rintro x (rfl | hx)
      · omega
      · exact h3 x hx

theorem qtake_no10 (s : List Int) (h : (qtake s).2.2 = 0) : ∃ n : Nat, (qtake s).2.1 = n ∧ n ≤ s.length ∧ 0 < n ∧ ∀ p, p < n → s.getD p 0 ≠ 10 := by
  cases s with
  | nil => simp [qtake] at h
  | cons c r =>
    rw [qtake] at h ⊢
    by_cases k : c = 34 ∨ c = 39
    · simp only [if_pos k] at h ⊢
      obtain ⟨n, h1, h2, h3⟩ := qtk_no10 c (by omega) r.length r 1 [] h
      refine ⟨n + 1, by rw [h1]; push_cast; omega, by simp only [List.length_cons]; omega, by omega, ?_⟩
      intro p hp
      match p with
      | 0 => simp; omega
      | p + 1 =>
        have hpr : p < r.length := by omega
        simp only [List.getD, List.getElem?_cons_succ, List.getElem?_eq_getElem hpr, Option.getD_some]
        refine h3 _ ?_
        rw [List.mem_take_iff_getElem]
        exact ⟨p, by omega, rfl⟩
    · simp only [if_neg k] at h; exact absurd h (by decide)

end Go.Proofs.YtjkcmcefmciinaaDoor
