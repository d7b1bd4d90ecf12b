/- Names as plain functions over lists of numbers. -/
import Derived.Test.YtfkhocmbhnigeaaGreatLMath
namespace Go.Proofs.YtfkhocmbhnigeaaGreat
set_option linter.unusedSimpArgs false
set_option linter.unusedVariables false

/-- Letters, digits, '_'. -/
def nident (s : List Int) : Bool := s.all lletter && decide (1 ≤ s.length ∧ s.length ≤ 200) && !lnumb (s.getD 0 0)

/-- What stands between points, 'cur' read already. -/
def nsp : List Int → List Int → List (List Int)
  | cur, [] => [cur]
  | cur, c :: r => if c = 46 then cur :: nsp [] r else nsp (cur ++ [c]) r

def nparts (s : List Int) : List (List Int) := nsp [] s

def nfull (s : List Int) : Bool := decide (s.length ≤ 1000) && (nparts s).all nident

def njoin (a b : List Int) : List Int := if a = [] then b else a ++ [46] ++ b

/-- Where the last point ahead of place k stands, and one more; 0: none. -/
def nlast (s : List Int) : Nat → Nat
  | 0 => 0
  | k + 1 => if s.getD k 0 = 46 then k + 1 else nlast s k

theorem nlast_le (s : List Int) : ∀ k, nlast s k ≤ k
  | 0 => Nat.le_refl _
  | k + 1 => by
    unfold nlast
    split
    · exact Nat.le_refl _
    · have := nlast_le s k; omega

def nparent (s : List Int) : List Int × List Int :=
  if nlast s s.length = 0 then ([], s) else (s.take (nlast s s.length - 1), s.drop (nlast s s.length))

theorem nparent_lt (s : List Int) (h : s ≠ []) : (nparent s).1.length < s.length := by
  unfold nparent
  have hl : 0 < s.length := List.length_pos_iff.2 h
  split
  · simpa using hl
  · have := nlast_le s s.length
    simp only [List.length_take]
    omega

/-- Where a name is looked for, from a scope on. -/
def nplc (name : List Int) : Nat → List Int → List (List Int)
  | 0, _ => [name]
  | f + 1, scope => if scope = [] then [name] else njoin scope name :: nplc name f (nparent scope).1

def nplaces (scope name : List Int) : List (List Int) :=
  if name.getD 0 0 = 46 then [name.drop 1] else nplc name scope.length scope

theorem nplc_fuel (name : List Int) : ∀ (f g : Nat) (s : List Int), s.length ≤ f → s.length ≤ g → nplc name f s = nplc name g s
  | 0, 0, s, _, _ => rfl
  | 0, g + 1, s, h, _ => by
    have : s = [] := List.eq_nil_of_length_eq_zero (by omega)
    rw [nplc, nplc, if_pos this]
  | f + 1, 0, s, _, h => by
    have : s = [] := List.eq_nil_of_length_eq_zero (by omega)
    rw [nplc, nplc, if_pos this]
  | f + 1, g + 1, s, h1, h2 => by
    rw [nplc, nplc]
    by_cases k : s = []
    · rw [if_pos k, if_pos k]
    · rw [if_neg k, if_neg k]
      have := nparent_lt s k
      rw [nplc_fuel name f g _ (by omega) (by omega)]

/-- Without '_', letters behind one made great. -/
def ncam : Bool → List Int → List Int
  | _, [] => []
  | g, c :: r => if c = 95 then ncam true r else (if g = true ∧ 97 ≤ c ∧ c ≤ 122 then c - 32 else c) :: ncam false r

def nentry : List Int := [69, 110, 116, 114, 121]

theorem ncam_len : ∀ (s : List Int) (g : Bool), (ncam g s).length ≤ s.length
  | [], g => by simp [ncam]
  | c :: r, g => by
    rw [ncam]
    split
    · have := ncam_len r true; simp only [List.length_cons]; omega
    · have := ncam_len r false; simp only [List.length_cons]; omega

theorem ncam_bd : ∀ (s : List Int) (g : Bool), (∀ c ∈ s, 0 ≤ c ∧ c ≤ 255) → ∀ c ∈ ncam g s, 0 ≤ c ∧ c ≤ 255
  | [], g, h => by simp [ncam]
  | c :: r, g, h => by
    rw [ncam]
    have hr : ∀ x ∈ r, 0 ≤ x ∧ x ≤ 255 := fun x hx => h x (by simp [hx])
    have hc := h c (by simp)
    split
    · exact ncam_bd r true hr
    · intro x hx
      rcases List.mem_cons.1 hx with hx | hx
      · subst hx
        split <;> omega
      · exact ncam_bd r false hr x hx

/-- '_' and name; X ahead as long as it is taken, at most so often. -/
def nsyn (taken : List (List Int)) : Nat → List Int → List Int
  | 0, s => s
  | f + 1, s => nsyn taken f (if s ∈ taken then 88 :: s else s)

/- A name that is not taken: of one more than there are, one is not among them. -/
theorem nsyn_stay (taken : List (List Int)) : ∀ (f : Nat) (s : List Int), s ∉ taken → nsyn taken f s = s
  | 0, s, _ => rfl
  | f + 1, s, h => by rw [nsyn, if_neg h, nsyn_stay taken f s h]

def nxs : Nat → List Int → List Int
  | 0, s => s
  | k + 1, s => 88 :: nxs k s

theorem nxs_len (s : List Int) : ∀ k, (nxs k s).length = k + s.length
  | 0 => by simp [nxs]
  | k + 1 => by rw [nxs, List.length_cons, nxs_len s k]; omega

theorem nxs_out (s : List Int) : ∀ k, nxs k (88 :: s) = 88 :: nxs k s
  | 0 => rfl
  | k + 1 => by rw [nxs, nxs_out s k, nxs]

theorem nsyn_walk (taken : List (List Int)) : ∀ (f : Nat) (s : List Int), nsyn taken f s ∉ taken ∨ (nsyn taken f s = nxs f s ∧ ∀ k, k ≤ f → nxs k s ∈ taken)
  | 0, s => by
    by_cases h : s ∈ taken
    · exact .inr ⟨rfl, fun k hk => by rw [show k = 0 by omega]; exact h⟩
    · exact .inl h
  | f + 1, s => by
    rw [nsyn]
    by_cases h : s ∈ taken
    · rw [if_pos h]
      rcases nsyn_walk taken f (88 :: s) with g | ⟨g1, g2⟩
      · exact .inl g
      · right
        rw [g1, nxs_out]
        refine ⟨rfl, fun k hk => ?_⟩
        match k with
        | 0 => exact h
        | k + 1 =>
          have := g2 k (by omega)
          rw [nxs_out] at this
          exact this
    · rw [if_neg h, nsyn_stay taken f s h]
      exact .inl h

/-- More texts of different lengths than a list has do not all lie in it. -/
theorem too_many (s : List Int) : ∀ (n : Nat) (l : List (List Int)), (∀ k, k ≤ n → nxs k s ∈ l) → n < l.length
  | 0, l, h => by
    have := h 0 (Nat.le_refl _)
    cases l with
    | nil => simp at this
    | cons a b => simp
  | n + 1, l, h => by
    have hm := h (n + 1) (Nat.le_refl _)
    have ih := too_many s n (l.erase (nxs (n + 1) s)) (fun k hk => by
      refine (List.mem_erase_of_ne ?_).2 (h k (by omega))
      intro e
      have := congrArg List.length e
      rw [nxs_len, nxs_len] at this
      omega)
    rw [List.length_erase_of_mem hm] at ih
    omega

theorem nsyn_free (taken : List (List Int)) (s : List Int) : nsyn taken taken.length s ∉ taken := by
  rcases nsyn_walk taken taken.length s with h | ⟨_, h⟩
  · exact h
  · have := too_many s taken.length taken h
    omega

/- A full name and a name behind it come apart again. -/
theorem nlast_none (s : List Int) : ∀ k, (∀ p, p < k → s.getD p 0 ≠ 46) → nlast s k = 0
  | 0, _ => rfl
  | k + 1, h => by rw [nlast, if_neg (h k (by omega)), nlast_none s k (fun p hp => h p (by omega))]

theorem nlast_at (s : List Int) (j : Nat) (hj : s.getD j 0 = 46) : ∀ k, j < k → (∀ p, j < p → p < k → s.getD p 0 ≠ 46) → nlast s k = j + 1
  | 0, h, _ => by omega
  | k + 1, h, hn => by
    rw [nlast]
    by_cases e : j = k
    · subst e; rw [if_pos hj]
    · rw [if_neg (hn k (by omega) (by omega)), nlast_at s j hj k (by omega) (fun p h1 h2 => hn p h1 (by omega))]

theorem nparent_join (a b : List Int) (ha : a ≠ []) (hb : ∀ c ∈ b, c ≠ 46) : nparent (njoin a b) = (a, b) := by
  unfold njoin
  rw [if_neg ha]
  have hl : nlast (a ++ [46] ++ b) (a ++ [46] ++ b).length = a.length + 1 := by
    refine nlast_at _ a.length ?_ _ ?_ ?_
    · simp [List.getD]
    · simp
    · intro p h1 h2
      have hp : p - (a.length + 1) < b.length := by simp only [List.length_append, List.length_cons, List.length_nil] at h2; omega
      have e : (a ++ [46] ++ b).getD p 0 = b[p - (a.length + 1)] := by
        rw [List.getD, List.getElem?_append_right (by simp; omega)]
        simp only [List.length_append, List.length_cons, List.length_nil, Nat.zero_add]
        rw [List.getElem?_eq_getElem hp]
        rfl
      rw [e]
      exact hb _ (List.getElem_mem hp)
  unfold nparent
  rw [hl, if_neg (by omega)]
  simp

theorem nsp_join : ∀ (a b cur : List Int), nsp cur (a ++ 46 :: b) = nsp cur a ++ nsp [] b
  | [], b, cur => by simp [nsp]
  | c :: r, b, cur => by
    rw [List.cons_append, nsp, nsp]
    by_cases k : c = 46
    · rw [if_pos k, if_pos k, nsp_join r b []]; rfl
    · rw [if_neg k, if_neg k, nsp_join r b (cur ++ [c])]

theorem nsp_one : ∀ (b cur : List Int), (∀ c ∈ b, c ≠ 46) → nsp cur b = [cur ++ b]
  | [], cur, _ => by simp [nsp]
  | c :: r, cur, h => by
    rw [nsp, if_neg (h c (by simp)), nsp_one r (cur ++ [c]) (fun x hx => h x (by simp [hx]))]
    simp

theorem nident_no (b : List Int) (h : nident b = true) : ∀ c ∈ b, c ≠ 46 := by
  unfold nident at h
  simp only [Bool.and_eq_true, List.all_eq_true] at h
  intro c hc e
  have := h.1.1 c hc
  rw [e] at this
  exact absurd this (by decide)

theorem nident_len (b : List Int) (h : nident b = true) : 1 ≤ b.length ∧ b.length ≤ 200 := by
  unfold nident at h
  simp only [Bool.and_eq_true, decide_eq_true_eq] at h
  exact h.1.2

theorem nfull_nil : nfull [] = false := by decide

theorem nfull_join (a b : List Int) (ha : nfull a = true) (hl : a.length ≤ 100) (hb : nident b = true) : nfull (njoin a b) = true := by
  have hne : a ≠ [] := fun h => by rw [h, nfull_nil] at ha; exact absurd ha (by decide)
  have h1 := nident_len b hb
  unfold nfull njoin nparts at *
  rw [if_neg hne, show a ++ [46] ++ b = a ++ 46 :: b by simp, nsp_join, nsp_one b [] (nident_no b hb)]
  simp only [Bool.and_eq_true, decide_eq_true_eq, List.all_append, List.all_cons, List.all_nil, Bool.and_true, List.nil_append] at ha ⊢
  exact ⟨by simp only [List.length_append, List.length_cons]; omega, ha.2, hb⟩

end Go.Proofs.YtfkhocmbhnigeaaGreat
