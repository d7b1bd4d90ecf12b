/- The scan by places answers what the scan by what is left answers; two sources with a new line between. -/
import Derived.Test.YtjkcmcefmciinaaDoorLJoin
namespace Go.Proofs.YtjkcmcefmciinaaDoor
set_option linter.unusedSimpArgs false

theorem drop_cons {l : List Int} {k : Nat} (h : k < l.length) : l.drop k = l.getD k 0 :: l.drop (k + 1) := by
  rw [List.drop_eq_getElem_cons h]
  simp [List.getD, List.getElem?_eq_getElem h]

theorem lrun_drop (p : Int → Bool) (s : List Int) : ∀ (f i : Nat), i ≤ s.length → s.length ≤ i + f → s.drop (lrun p s s.length f i) = (s.drop i).dropWhile p
  | 0, i, h1, h2 => by
    unfold lrun
    rw [List.drop_eq_nil_of_le (by omega)]; rfl
  | f + 1, i, h1, h2 => by
    unfold lrun
    by_cases hi : i < s.length
    · rw [drop_cons hi]
      by_cases hp : p (s.getD i 0) = true
      · rw [if_pos ⟨hi, hp⟩, lrun_drop p s f (i + 1) (by omega) (by omega), List.dropWhile_cons_of_pos hp]
      · rw [if_neg (fun h => hp h.2), List.dropWhile_cons_of_neg hp, drop_cons hi]
    · rw [if_neg (fun h => hi h.1), List.drop_eq_nil_of_le (by omega)]; rfl

theorem lrun_take (p : Int → Bool) (s : List Int) : ∀ (f i : Nat), i ≤ s.length → s.length ≤ i + f → lpc s i (lrun p s s.length f i) = (s.drop i).takeWhile p
  | 0, i, h1, h2 => by
    unfold lrun lpc
    rw [List.drop_eq_nil_of_le (by simp; omega), List.drop_eq_nil_of_le (by omega)]; rfl
  | f + 1, i, h1, h2 => by
    unfold lrun
    by_cases hi : i < s.length
    · rw [drop_cons hi]
      by_cases hp : p (s.getD i 0) = true
      · rw [if_pos ⟨hi, hp⟩, List.takeWhile_cons_of_pos hp, ← lrun_take p s f (i + 1) (by omega) (by omega)]
        have hg := lrun_ge p s s.length f (i + 1)
        have hl := lrun_le p s s.length f (i + 1) (by omega)
        unfold lpc
        rw [drop_cons (by simp; omega)]
        congr 1
        simp [List.getD, show i < lrun p s s.length f (i + 1) by omega]
      · rw [if_neg (fun h => hp h.2), List.takeWhile_cons_of_neg hp]
        unfold lpc
        rw [List.drop_eq_nil_of_le (by simp; omega)]
    · rw [if_neg (fun h => hi h.1)]
      unfold lpc
      rw [List.drop_eq_nil_of_le (by simp; omega), List.drop_eq_nil_of_le (by omega)]; rfl

theorem lcl_drop (s : List Int) : ∀ (f k : Nat), s.length ≤ k + f → lclo (s.drop k) = if lcl s f k + 1 < s.length then some (s.drop (lcl s f k + 2)) else none
  | 0, k, h => by
    unfold lcl
    rw [if_neg (by omega), List.drop_eq_nil_of_le (by omega)]; rfl
  | f + 1, k, h => by
    by_cases h1 : k + 1 < s.length
    · rw [drop_cons (by omega), drop_cons h1]
      by_cases h2 : s.getD k 0 = 42 ∧ s.getD (k + 1) 0 = 47
      · have e : lcl s (f + 1) k = k := by rw [lcl, if_neg (fun h => h.2 h2)]
        rw [e, if_pos h1, lclo]
        simp only [if_pos h2]
      · have e : lcl s (f + 1) k = lcl s f (k + 1) := by rw [lcl, if_pos ⟨h1, h2⟩]
        rw [e, lclo]
        simp only [if_neg h2]
        rw [← drop_cons h1, lcl_drop s f (k + 1) (by omega)]
    · have e : lcl s (f + 1) k = k := by rw [lcl, if_neg (fun h => h1 h.1)]
      rw [e, if_neg h1]
      by_cases h3 : k < s.length
      · rw [drop_cons h3, List.drop_eq_nil_of_le (by omega)]; rfl
      · rw [List.drop_eq_nil_of_le (by omega)]; rfl

def Tk.co (t : Tk) : Co := (t.kind, t.text, t.n)

theorem head_drop (s : List Int) (i : Nat) (c : Int) : (s.drop (i + 1)).head? = some c ↔ i + 1 < s.length ∧ s.getD (i + 1) 0 = c := by
  rw [List.head?_drop]
  by_cases h : i + 1 < s.length
  · simp [List.getD, h]
  · simp [List.getD, h, List.getElem?_eq_none (show s.length ≤ i + 1 by omega)]

theorem lsc_core (s : List Int) : ∀ (f i0 : Nat) (out : List Tk) (marks : List Nat), i0 ≤ s.length → s.length < i0 + f →
    ((lsc s f i0 out marks).2.2 = 0 → ∃ u, lco f (s.drop i0) = some u ∧ (lsc s f i0 out marks).1.map Tk.co = out.map Tk.co ++ u ++ [(0, [], 0)]) ∧
    ((lsc s f i0 out marks).2.2 ≠ 0 → lco f (s.drop i0) = none ∧ (lsc s f i0 out marks).1 = [])
  | 0, i0, out, marks, h1, h2 => by omega
  | f + 1, i0, out, marks, h1, h2 => by
    have hd := lrun_drop lblank s (s.length - i0) i0 h1 (by omega)
    have hge := lrun_ge lblank s s.length (s.length - i0) i0
    have hle := lrun_le lblank s s.length (s.length - i0) i0 h1
    rw [lsc, lco, ← hd]
    generalize lrun lblank s s.length (s.length - i0) i0 = i at hge hle
    clear hd
    simp only
    by_cases k0 : i = s.length
    · simp only [if_pos k0]
      refine ⟨fun _ => ?_, fun h => absurd rfl h⟩
      rw [k0, List.drop_eq_nil_of_le (Nat.le_refl _)]
      exact ⟨[], rfl, by simp [Tk.co]⟩
    simp only [if_neg k0]
    have hi : i < s.length := by omega
    rw [drop_cons hi]
    simp only
    have c1 : (s.getD i 0 = 47 ∧ (s.drop (i + 1)).head? = some 47) ↔ (i + 1 < s.length ∧ s.getD i 0 = 47 ∧ s.getD (i + 1) 0 = 47) := by rw [head_drop]; exact ⟨fun h => ⟨h.2.1, h.1, h.2.2⟩, fun h => ⟨h.2.1, h.1, h.2.2⟩⟩
    have c2 : (s.getD i 0 = 47 ∧ (s.drop (i + 1)).head? = some 42) ↔ (i + 1 < s.length ∧ s.getD i 0 = 47 ∧ s.getD (i + 1) 0 = 42) := by rw [head_drop]; exact ⟨fun h => ⟨h.2.1, h.1, h.2.2⟩, fun h => ⟨h.2.1, h.1, h.2.2⟩⟩
    simp only [c1, c2]
    by_cases k1 : i + 1 < s.length ∧ s.getD i 0 = 47 ∧ s.getD (i + 1) 0 = 47
    · simp only [if_pos k1]
      have e := lrun_drop leol s (s.length - i) i (by omega) (by omega)
      rw [drop_cons hi, List.dropWhile_cons_of_pos (by rw [k1.2.1]; decide)] at e
      have g1 := lrun_ge leol s s.length (s.length - i) i
      have g2 := lrun_le leol s s.length (s.length - i) i (by omega)
      have g3 : i + 1 ≤ lrun leol s s.length (s.length - i) i := by
        obtain ⟨m, hm⟩ : ∃ m, s.length - i = m + 1 := ⟨s.length - i - 1, by omega⟩
        rw [hm, lrun, if_pos ⟨hi, by rw [k1.2.1]; decide⟩]
        exact lrun_ge _ _ _ _ _
      rw [← e]
      exact lsc_core s f _ out marks g2 (by omega)
    simp only [if_neg k1]
    by_cases k2 : i + 1 < s.length ∧ s.getD i 0 = 47 ∧ s.getD (i + 1) 0 = 42
    · simp only [if_pos k2, List.drop_drop]
      rw [show i + 1 + 1 = i + 2 by omega, lcl_drop s (s.length - (i + 2)) (i + 2) (by omega)]
      have g := lcl_ge s (s.length - (i + 2)) (i + 2)
      generalize lcl s (s.length - (i + 2)) (i + 2) = k at g
      by_cases k3 : k + 1 < s.length
      · simp only [if_pos k3]
        exact lsc_core s f (k + 2) out _ (by omega) (by omega)
      · simp only [if_neg k3]
        exact ⟨fun h => absurd h (by decide), fun _ => by simp⟩
    simp only [if_neg k2]
    rw [← drop_cons hi]
    unfold ltok
    have et := lrun_take lletter s (s.length - i) i (by omega) (by omega)
    have ed := lrun_drop lletter s (s.length - i) i (by omega) (by omega)
    by_cases k3 : lletter (s.getD i 0) = true
    · obtain ⟨m, hm⟩ : ∃ m, s.length - i = m + 1 := ⟨s.length - i - 1, by omega⟩
      rw [hm, lrun, if_pos ⟨hi, k3⟩, show m = s.length - (i + 1) by omega] at et ed
      have g1 := lrun_ge lletter s s.length (s.length - (i + 1)) (i + 1)
      have g2 := lrun_le lletter s s.length (s.length - (i + 1)) (i + 1) (by omega)
      generalize lrun lletter s s.length (s.length - (i + 1)) (i + 1) = k at et ed g1 g2
      simp only [if_pos k3]
      rw [← et, ← ed]
      by_cases k4 : lnumb (s.getD i 0) = true
      · simp only [if_pos k4]
        by_cases k5 : (qnum (lpc s i k)).2 = true
        · simp only [if_pos k5]
          have ih := lsc_core s f k (out ++ [⟨2, [], (qnum (lpc s i k)).1, i, ldoc s i marks⟩]) marks g2 (by omega)
          refine ⟨fun h => ?_, fun h => ?_⟩
          · obtain ⟨u, hu, hx⟩ := ih.1 h
            exact ⟨_, by rw [hu]; rfl, by rw [hx]; simp [Tk.co]⟩
          · rw [(ih.2 h).1]; exact ⟨rfl, (ih.2 h).2⟩
        · simp only [if_neg k5]
          exact ⟨fun h => absurd h (by decide), fun _ => by simp⟩
      · simp only [if_neg k4]
        have ih := lsc_core s f k (out ++ [⟨1, lpc s i k, 0, i, ldoc s i marks⟩]) marks g2 (by omega)
        refine ⟨fun h => ?_, fun h => ?_⟩
        · obtain ⟨u, hu, hx⟩ := ih.1 h
          exact ⟨_, by rw [hu]; rfl, by rw [hx]; simp [Tk.co]⟩
        · rw [(ih.2 h).1]; exact ⟨rfl, (ih.2 h).2⟩
    simp only [if_neg k3]
    by_cases k6 : s.getD i 0 = 34 ∨ s.getD i 0 = 39
    · simp only [if_pos k6]
      by_cases k7 : (qtake (s.drop i)).2.2 = 0
      · simp only [if_pos k7]
        have ha := (qtake_app (s.drop i) [] k7).2
        rw [List.length_drop] at ha
        generalize hn : (qtake (s.drop i)).2.1.toNat = n
        have ih := lsc_core s f (i + n) (out ++ [⟨3, (qtake (s.drop i)).1, 0, i, ldoc s i marks⟩]) marks (by omega) (by omega)
        rw [List.drop_drop]
        refine ⟨fun h => ?_, fun h => ?_⟩
        · obtain ⟨u, hu, hx⟩ := ih.1 h
          exact ⟨_, by rw [hu]; rfl, by rw [hx]; simp [Tk.co]⟩
        · rw [(ih.2 h).1]; exact ⟨rfl, (ih.2 h).2⟩
      · simp only [if_neg k7]
        exact ⟨fun h => absurd h k7, fun _ => by simp⟩
    simp only [if_neg k6]
    by_cases k8 : lsign (s.getD i 0) = true
    · simp only [if_pos k8]
      have ep : lpc s i (i + 1) = [s.getD i 0] := by
        unfold lpc
        rw [drop_cons (by simp; omega), List.drop_eq_nil_of_le (by simp; omega)]
        simp [List.getD, hi]
      rw [ep]
      have ih := lsc_core s f (i + 1) (out ++ [⟨4, [s.getD i 0], 0, i, ldoc s i marks⟩]) marks (by omega) (by omega)
      refine ⟨fun h => ?_, fun h => ?_⟩
      · obtain ⟨u, hu, hx⟩ := ih.1 h
        exact ⟨_, by rw [hu]; rfl, by rw [hx]; simp [Tk.co]⟩
      · rw [(ih.2 h).1]; exact ⟨rfl, (ih.2 h).2⟩
    · simp only [if_neg k8]
      exact ⟨fun h => absurd h (by decide), fun _ => by simp⟩

/-- The tokens of two sources, a new line between, but for places and comments. -/
theorem lscan_join (a b : List Int) (ha : a.length ≤ 300) (hb : b.length ≤ 300) (ea : (lscan a).2.2 = 0) (eb : (lscan b).2.2 = 0) :
    (lscan (a ++ 10 :: b)).2.2 = 0 ∧ (lscan (a ++ 10 :: b)).1.map Tk.co = ((lscan a).1.map Tk.co).dropLast ++ (lscan b).1.map Tk.co := by
  have hl : (a ++ 10 :: b).length = a.length + b.length + 1 := by simp; omega
  unfold lscan at ea eb ⊢
  rw [if_neg (by omega)] at ea eb
  rw [if_neg (by omega), if_neg (by omega), if_neg (by omega)]
  obtain ⟨u, hu, xu⟩ := (lsc_core a (a.length + 1) 0 [] [] (by omega) (by omega)).1 ea
  obtain ⟨v, hv, xv⟩ := (lsc_core b (b.length + 1) 0 [] [] (by omega) (by omega)).1 eb
  have hj := lco_join (b.length + 1) b v hv (a.length + 1) a u hu
  rw [show a.length + 1 + (b.length + 1) = (a ++ 10 :: b).length + 1 by omega] at hj
  have hc := lsc_core (a ++ 10 :: b) ((a ++ 10 :: b).length + 1) 0 [] [] (by omega) (by omega)
  rw [List.drop_zero] at hc
  by_cases h0 : (lsc (a ++ 10 :: b) ((a ++ 10 :: b).length + 1) 0 [] []).2.2 = 0
  · refine ⟨h0, ?_⟩
    obtain ⟨z, hz, xz⟩ := hc.1 h0
    rw [hj] at hz
    obtain rfl := Option.some.inj hz
    rw [xz, xu, xv]
    simp
  · rw [(hc.2 h0).1] at hj
    simp at hj

end Go.Proofs.YtjkcmcefmciinaaDoor
