/- Tokens stand in order, each where it begins; the last one is the end. -/
import Derived.Test.YtjkcmcefmciinaaDoorLCore
namespace Go.Proofs.YtjkcmcefmciinaaDoor
set_option linter.unusedSimpArgs false

/-- Tokens, none of them the end, in order, ahead of place i. -/
def KOk (s : List Int) (out : List Tk) (i : Nat) : Prop :=
  (∀ t ∈ out, t.kind ≠ 0 ∧ t.pos < i ∧ (t.kind = 1 → t.pos + t.text.length ≤ s.length ∧ lpc s t.pos (t.pos + t.text.length) = t.text)) ∧ out.Pairwise (fun a b => a.pos < b.pos)

theorem KOk.mono {s : List Int} {out : List Tk} {i k : Nat} (h : KOk s out i) (hk : i ≤ k) : KOk s out k :=
  ⟨fun t ht => ⟨(h.1 t ht).1, Nat.lt_of_lt_of_le (h.1 t ht).2.1 hk, (h.1 t ht).2.2⟩, h.2⟩

theorem KOk.snoc {s : List Int} {out : List Tk} {i k : Nat} {t : Tk} (h : KOk s out i) (h1 : t.kind ≠ 0) (h2 : t.pos = i) (h3 : i < k) (h4 : t.kind = 1 → t.pos + t.text.length ≤ s.length ∧ lpc s t.pos (t.pos + t.text.length) = t.text) : KOk s (out ++ [t]) k := by
  refine ⟨fun u hu => ?_, ?_⟩
  · rcases List.mem_append.1 hu with hu | hu
    · exact (h.mono (Nat.le_of_lt h3)).1 u hu
    · simp at hu; subst hu; exact ⟨h1, by omega, h4⟩
  · rw [List.pairwise_append]
    refine ⟨h.2, by simp, fun a ha b hb => ?_⟩
    simp at hb; subst hb
    have := (h.1 a ha).2.1
    omega

theorem lpc_len (s : List Int) (i k : Nat) (h : i ≤ k) (hk : k ≤ s.length) : (lpc s i k).length = k - i := by unfold lpc; simp; omega

theorem lsc_kinds (s : List Int) : ∀ (f i0 : Nat) (out : List Tk) (marks : List Nat), i0 ≤ s.length → s.length < i0 + f → KOk s out i0 → (lsc s f i0 out marks).2.2 = 0 →
    ∃ out' d, (lsc s f i0 out marks).1 = out' ++ [⟨0, [], 0, s.length, d⟩] ∧ KOk s out' s.length
  | 0, i0, out, marks, h1, h2, hK, h => by omega
  | f + 1, i0, out, marks, h1, h2, hK, h => by
    have hge := lrun_ge lblank s s.length (s.length - i0) i0
    have hle := lrun_le lblank s s.length (s.length - i0) i0 h1
    rw [lsc] at h ⊢
    generalize lrun lblank s s.length (s.length - i0) i0 = i at hge hle h ⊢
    have hK := hK.mono hge
    simp only at h ⊢
    by_cases k0 : i = s.length
    · simp only [if_pos k0]
      subst k0
      exact ⟨out, _, rfl, hK⟩
    simp only [if_neg k0] at h ⊢
    have hi : i < s.length := by omega
    by_cases k1 : i + 1 < s.length ∧ s.getD i 0 = 47 ∧ s.getD (i + 1) 0 = 47
    · simp only [if_pos k1] at h ⊢
      have g1 := lrun_ge leol s s.length (s.length - i) i
      have g2 := lrun_le leol s s.length (s.length - i) i (by omega)
      have g3 : i + 1 ≤ lrun leol s s.length (s.length - i) i := by
        obtain ⟨m, hm⟩ : ∃ m, s.length - i = m + 1 := ⟨s.length - i - 1, by omega⟩
        rw [hm, lrun, if_pos ⟨hi, by rw [k1.2.1]; decide⟩]
        exact lrun_ge _ _ _ _ _
      exact lsc_kinds s f _ out marks g2 (by omega) (hK.mono g1) h
    simp only [if_neg k1] at h ⊢
    by_cases k2 : i + 1 < s.length ∧ s.getD i 0 = 47 ∧ s.getD (i + 1) 0 = 42
    · simp only [if_pos k2] at h ⊢
      have g := lcl_ge s (s.length - (i + 2)) (i + 2)
      generalize lcl s (s.length - (i + 2)) (i + 2) = k at g h ⊢
      by_cases k3 : k + 1 < s.length
      · simp only [if_pos k3] at h ⊢
        exact lsc_kinds s f (k + 2) out _ (by omega) (by omega) (hK.mono (by omega)) h
      · simp only [if_neg k3] at h
        exact absurd h (by decide)
    simp only [if_neg k2] at h ⊢
    unfold ltok at h ⊢
    by_cases k3 : lletter (s.getD i 0) = true
    · have g1 := lrun_ge lletter s s.length (s.length - (i + 1)) (i + 1)
      have g2 := lrun_le lletter s s.length (s.length - (i + 1)) (i + 1) (by omega)
      simp only [if_pos k3] at h ⊢
      generalize lrun lletter s s.length (s.length - (i + 1)) (i + 1) = k at g1 g2 h ⊢
      by_cases k4 : lnumb (s.getD i 0) = true
      · simp only [if_pos k4] at h ⊢
        by_cases k5 : (qnum (lpc s i k)).2 = true
        · simp only [if_pos k5] at h ⊢
          exact lsc_kinds s f k _ marks g2 (by omega) (hK.snoc (by simp) rfl (by omega) (by simp)) h
        · simp only [if_neg k5] at h
          exact absurd h (by decide)
      · simp only [if_neg k4] at h ⊢
        have hl := lpc_len s i k (by omega) g2
        refine lsc_kinds s f k _ marks g2 (by omega) (hK.snoc (by simp) rfl (by omega) (fun _ => ?_)) h
        simp only [hl]
        exact ⟨by omega, by rw [show i + (k - i) = k by omega]⟩
    simp only [if_neg k3] at h ⊢
    by_cases k6 : s.getD i 0 = 34 ∨ s.getD i 0 = 39
    · simp only [if_pos k6] at h ⊢
      by_cases k7 : (qtake (s.drop i)).2.2 = 0
      · simp only [if_pos k7] at h ⊢
        have ha := (qtake_app (s.drop i) [] k7).2
        rw [List.length_drop] at ha
        exact lsc_kinds s f _ _ marks (by omega) (by omega) (hK.snoc (by simp) rfl (by omega) (by simp)) h
      · simp only [if_neg k7] at h
        exact absurd h k7
    simp only [if_neg k6] at h ⊢
    by_cases k8 : lsign (s.getD i 0) = true
    · simp only [if_pos k8] at h ⊢
      exact lsc_kinds s f (i + 1) _ marks (by omega) (by omega) (hK.snoc (by simp) rfl (by omega) (by simp)) h
    · simp only [if_neg k8] at h
      exact absurd h (by decide)

/-- What the promise says of the tokens of a source. -/
theorem lscan_kinds (s : List Int) (h0 : (lscan s).2.2 = 0) :
    ∃ out d, (lscan s).1 = out ++ [⟨0, [], 0, s.length, d⟩] ∧ KOk s out s.length := by
  unfold lscan at h0 ⊢
  by_cases h : 100000 < s.length
  · rw [if_pos h] at h0; exact absurd h0 (by decide)
  · rw [if_neg h] at h0 ⊢
    exact lsc_kinds s _ 0 [] [] (by omega) (by omega) ⟨by simp, by simp⟩ h0

theorem lscan_bad (s : List Int) (h0 : (lscan s).2.2 ≠ 0) : (lscan s).1 = [] := by
  unfold lscan at h0 ⊢
  by_cases h : 100000 < s.length
  · rw [if_pos h]
  · rw [if_neg h] at h0 ⊢
    exact ((lsc_core s _ 0 [] [] (by omega) (by omega)).2 h0).2

theorem pair_len : ∀ (l : List Tk) (lo hi : Nat), (∀ t ∈ l, lo ≤ t.pos ∧ t.pos < hi) → l.Pairwise (fun a b => a.pos < b.pos) → l.length + lo ≤ hi ∨ l = []
  | [], lo, hi, _, _ => .inr rfl
  | t :: r, lo, hi, h, hp => by
    left
    obtain ⟨h1, h2⟩ := List.pairwise_cons.1 hp
    have ht := h t (by simp)
    rcases pair_len r (t.pos + 1) hi (fun u hu => ⟨h1 u hu, (h u (by simp [hu])).2⟩) h2 with hr | hr
    · simp only [List.length_cons]; omega
    · subst hr; simp only [List.length_cons, List.length_nil]; omega

/-- No more tokens than bytes, and one. -/
theorem lscan_len (s : List Int) : (lscan s).1.length ≤ s.length + 1 := by
  by_cases h0 : (lscan s).2.2 = 0
  · obtain ⟨out, d, h1, h2⟩ := lscan_kinds s h0
    rw [h1]
    rcases pair_len out 0 s.length (fun t ht => ⟨Nat.zero_le _, (h2.1 t ht).2.1⟩) h2.2 with h | h
    · simp; omega
    · subst h; simp
  · rw [lscan_bad s h0]; simp

end Go.Proofs.YtjkcmcefmciinaaDoor
