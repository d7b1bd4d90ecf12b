/- The tokens of a source, but for places and comments, by what is left of it; two sources with a new line between. -/
import Derived.Test.YtjkcmcefmciinaaDoorLMath
namespace Go.Proofs.YtjkcmcefmciinaaDoor
set_option linter.unusedSimpArgs false

/-- What stands behind the next end of a comment between signs. -/
def lclo : List Int → Option (List Int)
  | [] => none
  | c :: r => match r with
    | [] => none
    | d :: q => if c = 42 ∧ d = 47 then some q else lclo r

abbrev Co := Int × List Int × Int

/-- Tokens without places and comments. -/
def lco : Nat → List Int → Option (List Co)
  | 0, _ => none
  | f + 1, s => match s.dropWhile lblank with
    | [] => some []
    | c :: r =>
      if c = 47 ∧ r.head? = some 47 then lco f (r.dropWhile leol)
      else if c = 47 ∧ r.head? = some 42 then (lclo (r.drop 1)).bind (lco f)
      else if lletter c = true then
        (if lnumb c = true then (if (qnum ((c :: r).takeWhile lletter)).2 = true then (lco f ((c :: r).dropWhile lletter)).map ((2, [], (qnum ((c :: r).takeWhile lletter)).1) :: ·) else none)
         else (lco f ((c :: r).dropWhile lletter)).map ((1, (c :: r).takeWhile lletter, 0) :: ·))
      else if c = 34 ∨ c = 39 then
        (if (qtake (c :: r)).2.2 = 0 then (lco f ((c :: r).drop (qtake (c :: r)).2.1.toNat)).map ((3, (qtake (c :: r)).1, 0) :: ·) else none)
      else if lsign c = true then (lco f r).map ((4, [c], 0) :: ·)
      else none

theorem dropWhile_idem (p : Int → Bool) (s : List Int) : (s.dropWhile p).dropWhile p = s.dropWhile p := by
  induction s with
  | nil => rfl
  | cons c r ih =>
    by_cases h : p c = true
    · rw [List.dropWhile_cons_of_pos h, ih]
    · rw [List.dropWhile_cons_of_neg h, List.dropWhile_cons_of_neg h]

theorem dropWhile_app (p : Int → Bool) (x y : List Int) (h : x.dropWhile p ≠ []) : (x ++ y).dropWhile p = x.dropWhile p ++ y := by
  induction x with
  | nil => exact absurd rfl h
  | cons c r ih =>
    by_cases hp : p c = true
    · rw [List.dropWhile_cons_of_pos hp] at h
      rw [List.cons_append, List.dropWhile_cons_of_pos hp, List.dropWhile_cons_of_pos hp, ih h]
    · rw [List.cons_append, List.dropWhile_cons_of_neg hp, List.dropWhile_cons_of_neg hp]; rfl

theorem dropWhile_all (p : Int → Bool) (x y : List Int) (h : x.dropWhile p = []) : (x ++ y).dropWhile p = y.dropWhile p := by
  induction x with
  | nil => rfl
  | cons c r ih =>
    by_cases hp : p c = true
    · rw [List.dropWhile_cons_of_pos hp] at h
      rw [List.cons_append, List.dropWhile_cons_of_pos hp, ih h]
    · rw [List.dropWhile_cons_of_neg hp] at h; simp at h

/-- A run that the sign behind ends. -/
theorem dropWhile_stop (p : Int → Bool) (x y : List Int) (c : Int) (hc : p c = false) : (x ++ c :: y).dropWhile p = x.dropWhile p ++ c :: y := by
  by_cases h : x.dropWhile p = []
  · rw [dropWhile_all p x _ h, h, List.dropWhile_cons_of_neg (by simp [hc])]; rfl
  · exact dropWhile_app p x _ h

theorem takeWhile_stop (p : Int → Bool) (x y : List Int) (c : Int) (hc : p c = false) : (x ++ c :: y).takeWhile p = x.takeWhile p := by
  induction x with
  | nil => simp [hc]
  | cons d r ih =>
    by_cases hp : p d = true
    · rw [List.cons_append, List.takeWhile_cons_of_pos hp, List.takeWhile_cons_of_pos hp, ih]
    · rw [List.cons_append, List.takeWhile_cons_of_neg hp, List.takeWhile_cons_of_neg hp]

theorem dropWhile_len (p : Int → Bool) (s : List Int) : (s.dropWhile p).length ≤ s.length := by
  induction s with
  | nil => simp
  | cons c r ih =>
    by_cases h : p c = true
    · rw [List.dropWhile_cons_of_pos h]; simp; omega
    · rw [List.dropWhile_cons_of_neg h]; simp

theorem lclo_app : ∀ (x y r : List Int), lclo x = some r → lclo (x ++ y) = some (r ++ y)
  | [], y, r, h => by simp [lclo] at h
  | [c], y, r, h => by simp [lclo] at h
  | c :: d :: q, y, r, h => by
    rw [lclo] at h
    simp only [List.cons_append]
    rw [lclo]
    by_cases k : c = 42 ∧ d = 47
    · simp only [if_pos k, Option.some.injEq] at h ⊢
      rw [h]
    · simp only [if_neg k] at h ⊢
      exact lclo_app (d :: q) y r h

theorem lclo_len : ∀ (x r : List Int), lclo x = some r → r.length < x.length
  | [], r, h => by simp [lclo] at h
  | [c], r, h => by simp [lclo] at h
  | c :: d :: q, r, h => by
    rw [lclo] at h
    by_cases k : c = 42 ∧ d = 47
    · simp only [if_pos k, Option.some.injEq] at h
      rw [← h]; simp; omega
    · simp only [if_neg k] at h
      have := lclo_len (d :: q) r h
      simp only [List.length_cons] at this ⊢
      omega

theorem qrn_app (base : Int) : ∀ (f : Nat) (s y : List Int) (n : Int), (qrn base f s n).2 = f ∨ (qrn base f s n).2 < s.length → qrn base f (s ++ y) n = qrn base f s n
  | 0, s, y, n, _ => rfl
  | f + 1, [], y, n, h => by simp [qrn] at h
  | f + 1, c :: r, y, n, h => by
    rw [List.cons_append, qrn, qrn]
    rw [qrn] at h
    by_cases k : dgt c < base
    · rw [if_pos k] at h ⊢
      rw [if_pos k]
      rw [qrn_app base f r y _ (by simp only [List.length_cons] at h; omega)]
    · rw [if_neg k, if_neg k]

theorem qesc_app (s y : List Int) (h0 : (qesc s).2 ≠ 0) (h1 : (qesc s).2 < s.length) : qesc (s ++ y) = qesc s := by
  cases s with
  | nil => simp at h1
  | cons c r =>
    revert h0 h1
    rw [List.cons_append, qesc, qesc]
    by_cases k0 : c = 97
    · rw [if_pos k0, if_pos k0]; intros; rfl
    rw [if_neg k0, if_neg k0]
    by_cases k1 : c = 98
    · rw [if_pos k1, if_pos k1]; intros; rfl
    rw [if_neg k1, if_neg k1]
    by_cases k2 : c = 102
    · rw [if_pos k2, if_pos k2]; intros; rfl
    rw [if_neg k2, if_neg k2]
    by_cases k3 : c = 110
    · rw [if_pos k3, if_pos k3]; intros; rfl
    rw [if_neg k3, if_neg k3]
    by_cases k4 : c = 114
    · rw [if_pos k4, if_pos k4]; intros; rfl
    rw [if_neg k4, if_neg k4]
    by_cases k5 : c = 116
    · rw [if_pos k5, if_pos k5]; intros; rfl
    rw [if_neg k5, if_neg k5]
    by_cases k6 : c = 118
    · rw [if_pos k6, if_pos k6]; intros; rfl
    rw [if_neg k6, if_neg k6]
    by_cases k7 : c = 92 ∨ c = 39 ∨ c = 34 ∨ c = 63
    · rw [if_pos k7, if_pos k7]; intros; rfl
    rw [if_neg k7, if_neg k7]
    by_cases m0 : c = 120 ∨ c = 88
    · rw [if_pos m0, if_pos m0]
      intro h0 h1
      by_cases j : 0 < (qrn 16 2 r 0).2
      · rw [if_pos j] at h1
        rw [qrn_app 16 2 r y 0 (by simp only [List.length_cons] at h1; omega)]
      · rw [if_neg j] at h0; exact absurd rfl h0
    rw [if_neg m0, if_neg m0]
    by_cases m1 : c = 117
    · rw [if_pos m1, if_pos m1]
      intro h0 h1
      by_cases j : (qrn 16 4 r 0).2 = 4 ∧ isCh (qrn 16 4 r 0).1 = true
      · rw [qrn_app 16 4 r y 0 (.inl j.1)]
      · rw [if_neg j] at h0; exact absurd rfl h0
    rw [if_neg m1, if_neg m1]
    by_cases m2 : c = 85
    · rw [if_pos m2, if_pos m2]
      intro h0 h1
      by_cases j : (qrn 16 8 r 0).2 = 8 ∧ isCh (qrn 16 8 r 0).1 = true
      · rw [qrn_app 16 8 r y 0 (.inl j.1)]
      · rw [if_neg j] at h0; exact absurd rfl h0
    rw [if_neg m2, if_neg m2]
    intro h0 h1
    by_cases j : 0 < (qrn 8 3 (c :: r) 0).2 ∧ (qrn 8 3 (c :: r) 0).1 < 256
    · rw [if_pos j] at h1
      have := qrn_app 8 3 (c :: r) y 0 (.inr h1)
      rw [List.cons_append] at this
      rw [this]
    · rw [if_neg j] at h0; exact absurd rfl h0

/-- A quoted text that ends is the same whatever stands behind; where it ends. -/
theorem qtk_app (q : Int) : ∀ (f g : Nat) (s y : List Int) (i : Int) (o : List Int), s.length ≤ f → (s ++ y).length ≤ g → (qtk q f s i o).2.2 = 0 →
    qtk q g (s ++ y) i o = qtk q f s i o ∧ i + 1 ≤ (qtk q f s i o).2.1 ∧ (qtk q f s i o).2.1 ≤ i + s.length
  | 0, g, s, y, i, o, h1, _, h => by simp [qtk] at h
  | f + 1, g, [], y, i, o, h1, _, h => by simp [qtk] at h
  | f + 1, 0, c :: r, y, i, o, h1, h2, h => by simp at h2
  | f + 1, g + 1, c :: r, y, i, o, h1, h2, h => by
    simp only [List.cons_append, List.length_cons] at h1 h2
    rw [List.cons_append, qtk, qtk]
    rw [qtk] at h
    by_cases k1 : c = q
    · simp only [if_pos k1, List.length_cons, true_and]
      omega
    simp only [if_neg k1] at h ⊢
    by_cases k2 : c = 0 ∨ c = 10
    · simp [if_pos k2] at h
    simp only [if_neg k2] at h ⊢
    by_cases k3 : c = 92
    · simp only [if_pos k3] at h ⊢
      by_cases k4 : (qesc r).2 = 0
      · simp [if_pos k4] at h
      · simp only [if_neg k4] at h
        have hle := (qesc_le r).1
        by_cases k5 : (qesc r).2 < r.length
        · rw [qesc_app r y k4 k5]
          simp only [if_neg k4]
          have e : (r ++ y).drop (qesc r).2 = r.drop (qesc r).2 ++ y := by rw [List.drop_append_of_le_length (by omega)]
          rw [e]
          have := qtk_app q f g (r.drop (qesc r).2) y (i + 1 + (qesc r).2) (o ++ (qesc r).1) (by simp only [List.length_drop]; omega) (by simp only [List.length_append, List.length_drop] at h2 ⊢; omega) h
          refine ⟨this.1, ?_⟩
          have h3 := this.2
          simp only [List.length_drop, List.length_cons] at h3 ⊢
          omega
        · rw [List.drop_eq_nil_of_le (by omega)] at h
          cases f <;> simp [qtk] at h
    · simp only [if_neg k3] at h ⊢
      have := qtk_app q f g r y (i + 1) (o ++ [c]) (by omega) (by omega) h
      refine ⟨this.1, ?_⟩
      have h3 := this.2
      simp only [List.length_cons]
      omega

theorem qtake_app (s y : List Int) (h : (qtake s).2.2 = 0) : qtake (s ++ y) = qtake s ∧ 2 ≤ (qtake s).2.1 ∧ (qtake s).2.1 ≤ s.length := by
  cases s with
  | nil => simp [qtake] at h
  | cons c r =>
    rw [List.cons_append, qtake, qtake]
    rw [qtake] at h
    by_cases k : c = 34 ∨ c = 39
    · simp only [if_pos k] at h ⊢
      have := qtk_app c r.length (r ++ y).length r y 1 [] (Nat.le_refl _) (Nat.le_refl _) h
      refine ⟨this.1, ?_⟩
      have h3 := this.2
      simp only [List.length_cons]
      omega
    · simp [if_neg k] at h

theorem lco_dw (f : Nat) (s t : List Int) (h : s.dropWhile lblank = t.dropWhile lblank) : lco f s = lco f t := by
  cases f with
  | zero => rfl
  | succ f => rw [lco, lco, h]

theorem map_some {α β : Type} {g : α → β} {o : Option α} {v : β} (h : o.map g = some v) : ∃ u, o = some u ∧ g u = v := by
  cases o with
  | none => simp at h
  | some u => exact ⟨u, rfl, by simpa using h⟩

/-- More steps do no harm. -/
theorem lco_fuel : ∀ (f g : Nat) (s : List Int) (u : List Co), f ≤ g → lco f s = some u → lco g s = some u
  | 0, g, s, u, _, h => by simp [lco] at h
  | f + 1, 0, s, u, hg, h => by omega
  | f + 1, g + 1, s, u, hg, h => by
    rw [lco] at h ⊢
    cases hd : s.dropWhile lblank with
    | nil => rw [hd] at h; exact h
    | cons c r =>
      rw [hd] at h
      simp only at h ⊢
      by_cases k1 : c = 47 ∧ r.head? = some 47
      · simp only [if_pos k1] at h ⊢
        exact lco_fuel f g _ u (by omega) h
      simp only [if_neg k1] at h ⊢
      by_cases k2 : c = 47 ∧ r.head? = some 42
      · simp only [if_pos k2] at h ⊢
        cases hc : lclo (r.drop 1) with
        | none => rw [hc] at h; simp at h
        | some q => rw [hc] at h; exact lco_fuel f g q u (by omega) h
      simp only [if_neg k2] at h ⊢
      by_cases k3 : lletter c = true
      · simp only [if_pos k3] at h ⊢
        by_cases k4 : lnumb c = true
        · simp only [if_pos k4] at h ⊢
          by_cases k5 : (qnum ((c :: r).takeWhile lletter)).2 = true
          · simp only [if_pos k5] at h ⊢
            obtain ⟨v, hv, rfl⟩ := map_some h
            rw [lco_fuel f g _ v (by omega) hv]; rfl
          · simp [if_neg k5] at h
        · simp only [if_neg k4] at h ⊢
          obtain ⟨v, hv, rfl⟩ := map_some h
          rw [lco_fuel f g _ v (by omega) hv]; rfl
      simp only [if_neg k3] at h ⊢
      by_cases k6 : c = 34 ∨ c = 39
      · simp only [if_pos k6] at h ⊢
        by_cases k7 : (qtake (c :: r)).2.2 = 0
        · simp only [if_pos k7] at h ⊢
          obtain ⟨v, hv, rfl⟩ := map_some h
          rw [lco_fuel f g _ v (by omega) hv]; rfl
        · simp [if_neg k7] at h
      simp only [if_neg k6] at h ⊢
      by_cases k8 : lsign c = true
      · simp only [if_pos k8] at h ⊢
        obtain ⟨v, hv, rfl⟩ := map_some h
        rw [lco_fuel f g _ v (by omega) hv]; rfl
      · simp [if_neg k8] at h

/-- Two sources, a new line between. -/
theorem lco_join (g : Nat) (b : List Int) (v : List Co) (hb : lco g b = some v) : ∀ (f : Nat) (x : List Int) (u : List Co), lco f x = some u → lco (f + g) (x ++ 10 :: b) = some (u ++ v)
  | 0, x, u, h => by simp [lco] at h
  | f + 1, x, u, h => by
    rw [lco] at h
    have hfg : f + 1 + g = (f + g) + 1 := by omega
    cases hd : x.dropWhile lblank with
    | nil =>
      rw [hd] at h
      simp only [Option.some.injEq] at h
      subst h
      rw [lco_dw _ (x ++ 10 :: b) b (by rw [dropWhile_all _ _ _ hd, List.dropWhile_cons_of_pos (by decide)])]
      exact lco_fuel g _ b v (by omega) hb
    | cons c r =>
      have hd2 : (x ++ 10 :: b).dropWhile lblank = c :: (r ++ 10 :: b) := by rw [dropWhile_app _ _ _ (by rw [hd]; simp), hd]; rfl
      rw [hd] at h
      rw [hfg, lco, hd2]
      simp only at h ⊢
      by_cases k1 : c = 47 ∧ r.head? = some 47
      · have k1' : c = 47 ∧ (r ++ 10 :: b).head? = some 47 := by cases r with | nil => simp at k1 | cons d q => simpa using k1
        simp only [if_pos k1] at h
        rw [if_pos k1', dropWhile_stop _ _ _ _ (by decide)]
        exact lco_join g b v hb f _ u h
      have k1' : ¬ (c = 47 ∧ (r ++ 10 :: b).head? = some 47) := by cases r with | nil => simp | cons d q => simpa using k1
      simp only [if_neg k1] at h
      rw [if_neg k1']
      by_cases k2 : c = 47 ∧ r.head? = some 42
      · have k2' : c = 47 ∧ (r ++ 10 :: b).head? = some 42 := by cases r with | nil => simp at k2 | cons d q => simpa using k2
        simp only [if_pos k2] at h
        rw [if_pos k2']
        cases hc : lclo (r.drop 1) with
        | none => rw [hc] at h; simp at h
        | some q =>
          rw [hc] at h
          have e : (r ++ 10 :: b).drop 1 = r.drop 1 ++ 10 :: b := by cases r with | nil => simp at k2 | cons d q => rfl
          rw [e, lclo_app _ _ _ hc]
          exact lco_join g b v hb f q u h
      have k2' : ¬ (c = 47 ∧ (r ++ 10 :: b).head? = some 42) := by cases r with | nil => simp | cons d q => simpa using k2
      simp only [if_neg k2] at h
      rw [if_neg k2']
      have hl10 : lletter 10 = false := by decide
      have et : (c :: (r ++ 10 :: b)).takeWhile lletter = (c :: r).takeWhile lletter := takeWhile_stop lletter (c :: r) b 10 hl10
      have ed : (c :: (r ++ 10 :: b)).dropWhile lletter = (c :: r).dropWhile lletter ++ 10 :: b := dropWhile_stop lletter (c :: r) b 10 hl10
      rw [et, ed]
      by_cases k3 : lletter c = true
      · simp only [if_pos k3] at h ⊢
        by_cases k4 : lnumb c = true
        · simp only [if_pos k4] at h ⊢
          by_cases k5 : (qnum ((c :: r).takeWhile lletter)).2 = true
          · simp only [if_pos k5] at h ⊢
            obtain ⟨v', hv, rfl⟩ := map_some h
            rw [lco_join g b v hb f _ v' hv]; rfl
          · simp [if_neg k5] at h
        · simp only [if_neg k4] at h ⊢
          obtain ⟨v', hv, rfl⟩ := map_some h
          rw [lco_join g b v hb f _ v' hv]; rfl
      simp only [if_neg k3] at h ⊢
      by_cases k6 : c = 34 ∨ c = 39
      · simp only [if_pos k6] at h ⊢
        by_cases k7 : (qtake (c :: r)).2.2 = 0
        · have ha := qtake_app (c :: r) (10 :: b) k7
          have e1 : qtake (c :: (r ++ 10 :: b)) = qtake (c :: r) := ha.1
          simp only [if_pos k7] at h
          rw [e1, if_pos k7]
          obtain ⟨v', hv, rfl⟩ := map_some h
          have e2 : (c :: (r ++ 10 :: b)).drop (qtake (c :: r)).2.1.toNat = (c :: r).drop (qtake (c :: r)).2.1.toNat ++ 10 :: b := by
            rw [← List.cons_append, List.drop_append_of_le_length (by omega)]
          rw [e2, lco_join g b v hb f _ v' hv]; rfl
        · simp [if_neg k7] at h
      simp only [if_neg k6] at h ⊢
      by_cases k8 : lsign c = true
      · simp only [if_pos k8] at h ⊢
        obtain ⟨v', hv, rfl⟩ := map_some h
        rw [lco_join g b v hb f _ v' hv]; rfl
      · simp [if_neg k8] at h

end Go.Proofs.YtjkcmcefmciinaaDoor
