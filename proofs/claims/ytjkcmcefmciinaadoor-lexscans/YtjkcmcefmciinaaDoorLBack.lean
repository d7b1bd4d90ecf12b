/- Comments ahead of a name are its own: the plain half. -/
import Derived.Test.YtjkcmcefmciinaaDoorLKind
namespace Go.Proofs.YtjkcmcefmciinaaDoor
set_option linter.unusedSimpArgs false

def lfl (ls : List (List Int)) : List Int := ls.flatMap (fun l => 47 :: 47 :: (l ++ [10]))

def ltx (ls : List (List Int)) : List Int := ls.flatMap (fun l => l ++ [10])

/-- A text that is nothing, or ends with a new line, is lines. -/
theorem lines_of : ∀ (t l : List Int), (∀ c ∈ l, c ≠ 10) → (t = [] ∧ l = [] ∨ t.getLast? = some 10) → ∃ ls : List (List Int), (∀ x ∈ ls, ∀ c ∈ x, c ≠ (10 : Int)) ∧ l ++ t = ltx ls ∧ ldcs l t = lfl ls
  | [], l, hl, h => by
    rcases h with ⟨_, rfl⟩ | h
    · exact ⟨[], by simp, rfl, rfl⟩
    · simp at h
  | c :: r, l, hl, h => by
    have h' : (c :: r).getLast? = some 10 := by
      rcases h with ⟨h, _⟩ | h
      · simp at h
      · exact h
    rw [ldcs]
    by_cases hc : c = 10
    · subst hc
      rw [if_pos rfl]
      have hr : r = [] ∧ ([] : List Int) = [] ∨ r.getLast? = some 10 := by
        cases r with
        | nil => exact .inl ⟨rfl, rfl⟩
        | cons d q => right; rw [List.getLast?_cons_cons] at h'; exact h'
      obtain ⟨ls, h1, h2, h3⟩ := lines_of r [] (by simp) hr
      refine ⟨l :: ls, ?_, ?_, ?_⟩
      · intro x hx
        rcases List.mem_cons.1 hx with rfl | hx
        · exact hl
        · exact h1 x hx
      · rw [ltx, List.flatMap_cons, ← ltx, ← h2]; simp
      · rw [lfl, List.flatMap_cons, ← lfl, ← h3]; simp
    · rw [if_neg hc]
      have hr : r.getLast? = some 10 := by
        cases r with
        | nil => simp at h'; exact absurd h' hc
        | cons d q => rw [List.getLast?_cons_cons] at h'; exact h'
      obtain ⟨ls, h1, h2, h3⟩ := lines_of r (l ++ [c]) (by intro x hx; rcases List.mem_append.1 hx with hx | hx; exact hl x hx; simp at hx; subst hx; exact hc) (.inr hr)
      exact ⟨ls, h1, by rw [← h2]; simp, h3⟩

theorem getD_app (x y : List Int) (k : Nat) : (x ++ y).getD (x.length + k) 0 = y.getD k 0 := by
  simp [List.getD, List.getElem?_append_right]

theorem getD_app0 (x y : List Int) : (x ++ y).getD x.length 0 = y.getD 0 0 := by
  simpa using getD_app x y 0

/-- No new line stands between: where the line begins. -/
theorem lnAt_line (p l r : List Int) (hp : p = [] ∨ p.getLast? = some 10) (hl : ∀ c ∈ l, c ≠ (10 : Int)) : ∀ k, k ≤ l.length → lnAt (p ++ l ++ r) (p.length + k) = p.length
  | 0, _ => by
    rcases hp with rfl | hp
    · rfl
    · obtain ⟨q, rfl⟩ : ∃ q, p = q ++ [10] := by
        rw [List.getLast?_eq_some_iff] at hp
        exact hp
      rw [Nat.add_zero, List.length_append, List.length_cons, List.length_nil]
      rw [lnAt, if_pos]
      rw [List.append_assoc, List.append_assoc, getD_app0]; rfl
  | k + 1, h => by
    rw [← Nat.add_assoc, lnAt, if_neg]
    · exact lnAt_line p l r hp hl k (by omega)
    · rw [List.append_assoc, getD_app]
      have hk : k < l.length := by omega
      rw [List.getD, List.getElem?_append_left hk, List.getElem?_eq_getElem hk]
      exact hl _ (List.getElem_mem hk)

theorem lrun_stay (p : Int → Bool) (s : List Int) (to f i : Nat) (h : p (s.getD i 0) = false) : lrun p s to f i = i := by
  cases f with
  | zero => rfl
  | succ f => rw [lrun, if_neg (fun hh => by rw [h] at hh; exact absurd hh.2 (by decide))]

theorem lfl_last (ls : List (List Int)) : lfl ls = [] ∨ (lfl ls).getLast? = some 10 := by
  rcases List.eq_nil_or_concat ls with rfl | ⟨q, l, rfl⟩
  · exact .inl rfl
  · right
    rw [List.concat_eq_append, lfl, List.flatMap_append]
    simp only [List.flatMap_cons, List.flatMap_nil, List.append_nil]
    rw [show q.flatMap (fun l => 47 :: 47 :: (l ++ [10])) ++ 47 :: 47 :: (l ++ [10]) = (q.flatMap (fun l => 47 :: 47 :: (l ++ [10])) ++ 47 :: 47 :: l) ++ [10] by simp]
    exact List.getLast?_concat ..

theorem lfl_snoc (q : List (List Int)) (l : List Int) : lfl (q ++ [l]) = lfl q ++ 47 :: 47 :: (l ++ [10]) := by simp [lfl, List.flatMap_append]

/-- The comments ahead of a line, read upwards. -/
theorem ldl_lines (r : List Int) : ∀ (n : Nat) (ls : List (List Int)) (f : Nat) (out : List Int), ls.length = n → n ≤ f → (∀ x ∈ ls, ∀ c ∈ x, c ≠ (10 : Int)) → ldl (lfl ls ++ r) [] f (lfl ls).length out = ltx ls ++ out
  | 0, ls, f, out, hn, hf, _ => by
    obtain rfl : ls = [] := List.eq_nil_of_length_eq_zero hn
    cases f with
    | zero => rfl
    | succ f => rw [ldl]; simp [lfl, ltx]
  | n + 1, ls, f, out, hn, hf, hl => by
    rcases List.eq_nil_or_concat ls with rfl | ⟨q, l, rfl⟩
    · simp at hn
    rw [List.concat_eq_append] at hn hl ⊢
    obtain ⟨f, rfl⟩ : ∃ g, f = g + 1 := ⟨f - 1, by omega⟩
    have hlen : (lfl (q ++ [l])).length = (lfl q).length + (l.length + 3) := by rw [lfl_snoc]; simp
    have hll : ∀ c ∈ l, c ≠ (10 : Int) := hl l (by simp)
    have es : lfl (q ++ [l]) ++ r = lfl q ++ (47 :: 47 :: l) ++ (10 :: r) := by rw [lfl_snoc]; simp
    have hln : lnAt (lfl (q ++ [l]) ++ r) ((lfl (q ++ [l])).length - 1) = (lfl q).length := by
      rw [es, hlen, show (lfl q).length + (l.length + 3) - 1 = (lfl q).length + (l.length + 2) by omega]
      refine lnAt_line (lfl q) (47 :: 47 :: l) (10 :: r) (lfl_last q) ?_ (l.length + 2) (by simp)
      intro c hc
      simp only [List.mem_cons] at hc
      rcases hc with rfl | rfl | hc
      · decide
      · decide
      · exact hll c hc
    have hown : lown (lfl (q ++ [l]) ++ r) (lfl q).length ((lfl (q ++ [l])).length - 1) = some l := by
      have h0 : (lfl (q ++ [l]) ++ r).getD (lfl q).length 0 = 47 := by rw [es, List.append_assoc, getD_app0]; rfl
      have h1 : (lfl (q ++ [l]) ++ r).getD ((lfl q).length + 1) 0 = 47 := by rw [es, List.append_assoc, getD_app]; rfl
      unfold lown
      rw [lrun_stay lblank _ _ _ _ (by rw [h0]; decide)]
      simp only [h0, h1, and_self, and_true]
      rw [if_pos (by omega)]
      congr 1
      rw [es, hlen, show (lfl q).length + (l.length + 3) - 1 = (lfl q).length + (l.length + 2) by omega]
      rw [List.append_assoc, List.take_append, List.take_of_length_le (by omega), show (lfl q).length + (l.length + 2) - (lfl q).length = l.length + 2 by omega]
      rw [List.drop_append, List.drop_eq_nil_of_le (by omega), show (lfl q).length + 2 - (lfl q).length = 2 by omega]
      simp
    rw [ldl, if_neg (by omega), hln, hown]
    simp only [linside, Bool.or_self, Bool.false_eq_true, if_false]
    have ih := ldl_lines (47 :: 47 :: (l ++ [10]) ++ r) n q f (l ++ [10] ++ out) (by simp at hn; omega) (by omega) (fun x hx => hl x (by simp [hx]))
    rw [show lfl (q ++ [l]) ++ r = lfl q ++ (47 :: 47 :: (l ++ [10]) ++ r) by rw [lfl_snoc]; simp, ih]
    simp [ltx, List.flatMap_append]

theorem lfl_len (ls : List (List Int)) : ls.length ≤ (lfl ls).length := by
  induction ls with
  | nil => simp
  | cons l q ih => rw [lfl, List.flatMap_cons, ← lfl]; simp; omega

/-- The comment of what stands behind lines of comments. -/
theorem ldoc_lines (ls : List (List Int)) (r : List Int) (hl : ∀ x ∈ ls, ∀ c ∈ x, c ≠ (10 : Int)) : ldoc (lfl ls ++ r) (lfl ls).length [] = ltx ls := by
  have h := lnAt_line (lfl ls) [] r (lfl_last ls) (by simp) 0 (by simp)
  simp only [List.append_nil, Nat.add_zero] at h
  unfold ldoc
  rw [h, Nat.sub_self]
  simp only [lrun, if_true]
  rw [ldl_lines r ls.length ls _ [] rfl (lfl_len ls) hl, List.append_nil]

def lname : List Int := [110, 97, 109, 101]

theorem lrun_at (p : Int → Bool) (a l b : List Int) (to : Nat) (hto : a.length + l.length ≤ to) (hl : ∀ c ∈ l, p c = true) (hb : p (b.getD 0 0) = false) : ∀ (k f : Nat), k ≤ l.length → l.length ≤ k + f → lrun p (a ++ l ++ b) to f (a.length + k) = a.length + l.length := by
  intro k f
  induction f generalizing k with
  | zero =>
    intro h1 h2
    obtain rfl : k = l.length := by omega
    rfl
  | succ f ih =>
    intro h1 h2
    by_cases hk : k < l.length
    · rw [lrun, if_pos]
      · rw [show a.length + k + 1 = a.length + (k + 1) by omega]
        exact ih (k + 1) (by omega) (by omega)
      · refine ⟨by omega, ?_⟩
        rw [List.append_assoc, getD_app, List.getD, List.getElem?_append_left hk, List.getElem?_eq_getElem hk]
        exact hl _ (List.getElem_mem hk)
    · obtain rfl : k = l.length := by omega
      apply lrun_stay
      rw [← List.length_append, getD_app0]
      exact hb

/-- Lines of comments are passed by, whatever stands behind; a blank run leads to each. -/
theorem lsc_lines (r : List Int) (out : List Tk) : ∀ (ls : List (List Int)) (p : List Int) (i0 f : Nat), (∀ x ∈ ls, ∀ c ∈ x, c ≠ (10 : Int)) → lblank (r.getD 0 0) = false →
    lrun lblank (p ++ lfl ls ++ r) (p ++ lfl ls ++ r).length ((p ++ lfl ls ++ r).length - i0) i0 = p.length →
    ∃ i1, lsc (p ++ lfl ls ++ r) (f + ls.length) i0 out [] = lsc (p ++ lfl ls ++ r) f i1 out [] ∧ lrun lblank (p ++ lfl ls ++ r) (p ++ lfl ls ++ r).length ((p ++ lfl ls ++ r).length - i1) i1 = (p ++ lfl ls).length
  | [], p, i0, f, hl, hr, h => ⟨i0, rfl, by rw [h]; simp [lfl]⟩
  | l :: q, p, i0, f, hl, hr, h => by
    have es : p ++ lfl (l :: q) ++ r = (p ++ (47 :: 47 :: (l ++ [10]))) ++ lfl q ++ r := by rw [lfl, List.flatMap_cons, ← lfl]; simp
    have es2 : p ++ lfl (l :: q) ++ r = p ++ (47 :: 47 :: l) ++ (10 :: (lfl q ++ r)) := by rw [lfl, List.flatMap_cons, ← lfl]; simp
    have hlen : (p ++ lfl (l :: q) ++ r).length = p.length + (l.length + 3) + (lfl q ++ r).length := by rw [es]; simp; omega
    have h0 : (p ++ lfl (l :: q) ++ r).getD p.length 0 = 47 := by rw [es2, List.append_assoc, getD_app0]; rfl
    have h1 : (p ++ lfl (l :: q) ++ r).getD (p.length + 1) 0 = 47 := by rw [es2, List.append_assoc, getD_app]; rfl
    have hll : ∀ c ∈ l, c ≠ (10 : Int) := hl l (by simp)
    have he : lrun leol (p ++ lfl (l :: q) ++ r) (p ++ lfl (l :: q) ++ r).length ((p ++ lfl (l :: q) ++ r).length - p.length) p.length = p.length + (l.length + 2) := by
      have := lrun_at leol p (47 :: 47 :: l) (10 :: (lfl q ++ r)) (p ++ lfl (l :: q) ++ r).length (by simp only [List.length_cons]; omega) (by
        intro c hc
        simp only [List.mem_cons] at hc
        rcases hc with rfl | rfl | hc
        · decide
        · decide
        · simpa [leol] using hll c hc) (show leol 10 = false by decide) 0 ((p ++ lfl (l :: q) ++ r).length - p.length) (by omega) (by simp only [List.length_cons]; omega)
      rw [← es2, Nat.add_zero] at this
      rw [this]
      simp only [List.length_cons]
    have hstep : lsc (p ++ lfl (l :: q) ++ r) (f + (q.length + 1)) i0 out [] = lsc (p ++ lfl (l :: q) ++ r) (f + q.length) (p.length + (l.length + 2)) out [] := by
      rw [← Nat.add_assoc, lsc, h]
      simp only
      rw [if_neg (by omega), if_pos ⟨by omega, h0, h1⟩, he]
    have hblank : lrun lblank (p ++ lfl (l :: q) ++ r) (p ++ lfl (l :: q) ++ r).length ((p ++ lfl (l :: q) ++ r).length - (p.length + (l.length + 2))) (p.length + (l.length + 2)) = (p ++ (47 :: 47 :: (l ++ [10]))).length := by
      have hb0 : lblank ((lfl q ++ r).getD 0 0) = false := by
        cases q with
        | nil => exact hr
        | cons x y => rfl
      have e3 : p ++ lfl (l :: q) ++ r = (p ++ (47 :: 47 :: l)) ++ [10] ++ (lfl q ++ r) := by rw [es2]; simp
      have := lrun_at lblank (p ++ (47 :: 47 :: l)) [10] (lfl q ++ r) (p ++ lfl (l :: q) ++ r).length (by simp only [List.length_append, List.length_cons, List.length_nil] at hlen ⊢; omega) (by simp; decide) hb0 0 ((p ++ lfl (l :: q) ++ r).length - (p.length + (l.length + 2))) (by simp) (by simp only [List.length_cons, List.length_nil]; omega)
      rw [← e3, show (p ++ (47 :: 47 :: l)).length = p.length + (l.length + 2) by simp] at this
      simp only [Nat.add_zero] at this
      rw [this]
      simp
      omega
    rw [List.length_cons, hstep]
    obtain ⟨i1, g1, g2⟩ := lsc_lines r out q (p ++ (47 :: 47 :: (l ++ [10]))) (p.length + (l.length + 2)) f (fun x hx => hl x (by simp [hx])) hr (by rw [← es]; exact hblank)
    rw [← es] at g1 g2
    refine ⟨i1, g1, ?_⟩
    rw [g2, lfl, lfl, List.flatMap_cons]
    simp

/-- The promise: a name behind a text's comments is that name, its comment the text. -/
theorem lscan_back (t : List Int) (h : t = [] ∨ t.getLast? = some 10) (hd : (ldocs t ++ lname).length ≤ 100000) :
    lscan (ldocs t ++ lname) = ([⟨1, lname, 0, (ldocs t).length, t⟩, ⟨0, [], 0, (ldocs t ++ lname).length, []⟩], 0, 0) := by
  obtain ⟨ls, h1, h2, h3⟩ := lines_of t [] (by simp) (by rcases h with h | h; exact .inl ⟨h, rfl⟩; exact .inr h)
  rw [List.nil_append] at h2
  rw [ldocs, h3] at hd ⊢
  unfold lscan
  rw [if_neg (by omega)]
  have hlen : (lfl ls ++ lname).length = (lfl ls).length + 4 := by simp [lname]
  have hll := lfl_len ls
  obtain ⟨i1, g1, g2⟩ := lsc_lines lname [] ls [] 0 ((lfl ls ++ lname).length + 1 - ls.length) h1 (by decide) (by
    rw [List.nil_append]
    apply lrun_stay
    cases ls with
    | nil => rfl
    | cons x y => rfl)
  rw [List.nil_append] at g1 g2
  rw [show (lfl ls ++ lname).length + 1 - ls.length + ls.length = (lfl ls ++ lname).length + 1 by omega] at g1
  rw [g1]
  obtain ⟨f, hf⟩ : ∃ f, (lfl ls ++ lname).length + 1 - ls.length = f + 2 := ⟨(lfl ls ++ lname).length - 1 - ls.length, by omega⟩
  rw [hf]
  have c0 : (lfl ls ++ lname).getD (lfl ls).length 0 = 110 := by rw [getD_app0]; rfl
  have hk : lrun lletter (lfl ls ++ lname) (lfl ls ++ lname).length ((lfl ls ++ lname).length - ((lfl ls).length + 1)) ((lfl ls).length + 1) = (lfl ls).length + 4 := by
    have := lrun_at lletter (lfl ls) lname [] (lfl ls ++ lname).length (by simp) (by decide) (by decide) 1 ((lfl ls ++ lname).length - ((lfl ls).length + 1)) (by decide) (by rw [show lname.length = 4 from rfl]; omega)
    rw [List.append_nil] at this
    rw [this]; rfl
  have hp : lpc (lfl ls ++ lname) (lfl ls).length ((lfl ls).length + 4) = lname := by
    unfold lpc
    rw [List.take_of_length_le (by omega), List.drop_append, List.drop_eq_nil_of_le (by omega), Nat.sub_self]; rfl
  have hdoc := ldoc_lines ls lname h1
  rw [lsc, g2]
  simp only
  rw [if_neg (by omega), if_neg (by rw [c0]; simp), if_neg (by rw [c0]; simp)]
  have htok : ltok (lfl ls ++ lname) (lfl ls).length (ldoc (lfl ls ++ lname) (lfl ls).length []) = .inl (⟨1, lname, 0, (lfl ls).length, t⟩, (lfl ls).length + 4) := by
    unfold ltok
    rw [c0, if_pos (by decide), hk]
    simp only
    rw [hp, if_neg (by decide), hdoc, h2]
  rw [htok]
  simp only [List.nil_append]
  have hend : lrun lblank (lfl ls ++ lname) (lfl ls ++ lname).length ((lfl ls ++ lname).length - ((lfl ls).length + 4)) ((lfl ls).length + 4) = (lfl ls ++ lname).length := by
    rw [show (lfl ls ++ lname).length - ((lfl ls).length + 4) = 0 by omega, lrun, hlen]
  have hde : ldoc (lfl ls ++ lname) (lfl ls ++ lname).length [] = [] := by
    have hn := lnAt_line (lfl ls) lname [] (lfl_last ls) (by decide) 4 (by decide)
    rw [List.append_nil] at hn
    unfold ldoc
    rw [hlen, hn, if_neg]
    rw [lrun_stay _ _ _ _ _ (by rw [c0]; decide)]
    omega
  rw [lsc, hend]
  simp only
  rw [if_pos trivial, hde]
  rfl

end Go.Proofs.YtjkcmcefmciinaaDoor
