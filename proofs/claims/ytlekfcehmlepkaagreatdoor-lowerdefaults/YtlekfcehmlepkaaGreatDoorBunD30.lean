/- Put together by a program out of these texts of mine: LCore, LKind, LRef4, LTok, LScnD, LSt, LQ0. -/
import Derived.Lib.MinMax
import Derived.Laws.StructEq
import Derived.Deep.QuietTactic
import Derived.BigQuiet
import Derived.Test.YtlekfcehmlepkaaGreatDoorBunD29

namespace Go.Proofs.YtlekfcehmlepkaaGreatDoor
set_option linter.unusedSimpArgs false

theorem drop_cons {l : List Int} {k : Nat} (h : k < l.length) : l.drop k = l.getD k 0 :: l.drop (k + 1) := by
 rw [List.drop_eq_getElem_cons h]
 simp [List.getD,List.getElem?_eq_getElem h]

theorem lrun_drop (p : Int → Bool) (s : List Int) : ∀ (f i : Nat),i ≤ s.length → s.length ≤ i + f → s.drop (lrun p s s.length f i) = (s.drop i).dropWhile p
 | 0,i,h1,h2 => by
  unfold lrun
  rw [List.drop_eq_nil_of_le (by omega)]; rfl
 | f + 1,i,h1,h2 => by
  unfold lrun
  by_cases hi : i < s.length
  ·rw [drop_cons hi]
   by_cases hp : p (s.getD i 0) = true
   ·rw [if_pos ⟨hi,hp⟩,lrun_drop p s f (i + 1) (by omega) (by omega),List.dropWhile_cons_of_pos hp]
   ·rw [if_neg (fun h => hp h.2),List.dropWhile_cons_of_neg hp,drop_cons hi]
  ·rw [if_neg (fun h => hi h.1),List.drop_eq_nil_of_le (by omega)]; rfl

theorem lrun_take (p : Int → Bool) (s : List Int) : ∀ (f i : Nat),i ≤ s.length → s.length ≤ i + f → lpc s i (lrun p s s.length f i) = (s.drop i).takeWhile p
 | 0,i,h1,h2 => by
  unfold lrun lpc
  rw [List.drop_eq_nil_of_le (by simp; omega),List.drop_eq_nil_of_le (by omega)]; rfl
 | f + 1,i,h1,h2 => by
  unfold lrun
  by_cases hi : i < s.length
  ·rw [drop_cons hi]
   by_cases hp : p (s.getD i 0) = true
   ·rw [if_pos ⟨hi,hp⟩,List.takeWhile_cons_of_pos hp,← lrun_take p s f (i + 1) (by omega) (by omega)]
    have hg := lrun_ge p s s.length f (i + 1)
    have hl := lrun_le p s s.length f (i + 1) (by omega)
    unfold lpc
    rw [drop_cons (by simp; omega)]
    congr 1
    simp [List.getD,show i < lrun p s s.length f (i + 1) by omega]
   ·rw [if_neg (fun h => hp h.2),List.takeWhile_cons_of_neg hp]
    unfold lpc
    rw [List.drop_eq_nil_of_le (by simp; omega)]
  ·rw [if_neg (fun h => hi h.1)]
   unfold lpc
   rw [List.drop_eq_nil_of_le (by simp; omega),List.drop_eq_nil_of_le (by omega)]; rfl

theorem lcl_drop (s : List Int) : ∀ (f k : Nat),s.length ≤ k + f → lclo (s.drop k) = if lcl s f k + 1 < s.length then some (s.drop (lcl s f k + 2)) else none
 | 0,k,h => by
  unfold lcl
  rw [if_neg (by omega),List.drop_eq_nil_of_le (by omega)]; rfl
 | f + 1,k,h => by
  by_cases h1 : k + 1 < s.length
  ·rw [drop_cons (by omega),drop_cons h1]
   by_cases h2 : s.getD k 0 = 42 ∧ s.getD (k + 1) 0 = 47
   ·have e : lcl s (f + 1) k = k := by rw [lcl,if_neg (fun h => h.2 h2)]
    rw [e,if_pos h1,lclo]
    simp only [if_pos h2]
   ·have e : lcl s (f + 1) k = lcl s f (k + 1) := by rw [lcl,if_pos ⟨h1,h2⟩]
    rw [e,lclo]
    simp only [if_neg h2]
    rw [← drop_cons h1,lcl_drop s f (k + 1) (by omega)]
  ·have e : lcl s (f + 1) k = k := by rw [lcl,if_neg (fun h => h1 h.1)]
   rw [e,if_neg h1]
   by_cases h3 : k < s.length
   ·rw [drop_cons h3,List.drop_eq_nil_of_le (by omega)]; rfl
   ·rw [List.drop_eq_nil_of_le (by omega)]; rfl

def Tk.co (t : Tk) : Co := (t.kind,t.text,t.n)

theorem head_drop (s : List Int) (i : Nat) (c : Int) : (s.drop (i + 1)).head? = some c ↔ i + 1 < s.length ∧ s.getD (i + 1) 0 = c := by
 rw [List.head?_drop]
 by_cases h : i + 1 < s.length
 ·simp [List.getD,h]
 ·simp [List.getD,h,List.getElem?_eq_none (show s.length ≤ i + 1 by omega)]

theorem lsc_core (s : List Int) : ∀ (f i0 : Nat) (out : List Tk) (marks : List Nat),i0 ≤ s.length → s.length < i0 + f →
  ((lsc s f i0 out marks).2.2 = 0 → ∃ u,lco f (s.drop i0) = some u ∧ (lsc s f i0 out marks).1.map Tk.co = out.map Tk.co ++ u ++ [(0,[],0)]) ∧
  ((lsc s f i0 out marks).2.2 ≠ 0 → lco f (s.drop i0) = none ∧ (lsc s f i0 out marks).1 = [])
 | 0,i0,out,marks,h1,h2 => by omega
 | f + 1,i0,out,marks,h1,h2 => by
  have hd := lrun_drop lblank s (s.length - i0) i0 h1 (by omega)
  have hge := lrun_ge lblank s s.length (s.length - i0) i0
  have hle := lrun_le lblank s s.length (s.length - i0) i0 h1
  rw [lsc,lco,← hd]
  generalize lrun lblank s s.length (s.length - i0) i0 = i at hge hle
  clear hd
  simp only
  by_cases k0 : i = s.length
  ·simp only [if_pos k0]
   refine ⟨fun _ => ?_,fun h => absurd rfl h⟩
   rw [k0,List.drop_eq_nil_of_le (Nat.le_refl _)]
   exact ⟨[],rfl,by simp [Tk.co]⟩
  simp only [if_neg k0]
  have hi : i < s.length := by omega
  rw [drop_cons hi]
  simp only
  have c1 : (s.getD i 0 = 47 ∧ (s.drop (i + 1)).head? = some 47) ↔ (i + 1 < s.length ∧ s.getD i 0 = 47 ∧ s.getD (i + 1) 0 = 47) := by rw [head_drop]; exact ⟨fun h => ⟨h.2.1,h.1,h.2.2⟩,fun h => ⟨h.2.1,h.1,h.2.2⟩⟩
  have c2 : (s.getD i 0 = 47 ∧ (s.drop (i + 1)).head? = some 42) ↔ (i + 1 < s.length ∧ s.getD i 0 = 47 ∧ s.getD (i + 1) 0 = 42) := by rw [head_drop]; exact ⟨fun h => ⟨h.2.1,h.1,h.2.2⟩,fun h => ⟨h.2.1,h.1,h.2.2⟩⟩
  simp only [c1,c2]
  by_cases k1 : i + 1 < s.length ∧ s.getD i 0 = 47 ∧ s.getD (i + 1) 0 = 47
  ·simp only [if_pos k1]
   have e := lrun_drop leol s (s.length - i) i (by omega) (by omega)
   rw [drop_cons hi,List.dropWhile_cons_of_pos (by rw [k1.2.1]; decide)] at e
   have g1 := lrun_ge leol s s.length (s.length - i) i
   have g2 := lrun_le leol s s.length (s.length - i) i (by omega)
   have g3 : i + 1 ≤ lrun leol s s.length (s.length - i) i := by
    obtain ⟨m,hm⟩ : ∃ m,s.length - i = m + 1 := ⟨s.length - i - 1,by omega⟩
    rw [hm,lrun,if_pos ⟨hi,by rw [k1.2.1]; decide⟩]
    exact lrun_ge _ _ _ _ _
   rw [← e]
   exact lsc_core s f _ out marks g2 (by omega)
  simp only [if_neg k1]
  by_cases k2 : i + 1 < s.length ∧ s.getD i 0 = 47 ∧ s.getD (i + 1) 0 = 42
  ·simp only [if_pos k2,List.drop_drop]
   rw [show i + 1 + 1 = i + 2 by omega,lcl_drop s (s.length - (i + 2)) (i + 2) (by omega)]
   have g := lcl_ge s (s.length - (i + 2)) (i + 2)
   generalize lcl s (s.length - (i + 2)) (i + 2) = k at g
   by_cases k3 : k + 1 < s.length
   ·simp only [if_pos k3]
    exact lsc_core s f (k + 2) out _ (by omega) (by omega)
   ·simp only [if_neg k3]
    exact ⟨fun h => absurd h (by decide),fun _ => by simp⟩
  simp only [if_neg k2]
  rw [← drop_cons hi]
  unfold ltok
  have et := lrun_take lletter s (s.length - i) i (by omega) (by omega)
  have ed := lrun_drop lletter s (s.length - i) i (by omega) (by omega)
  by_cases k3 : lletter (s.getD i 0) = true
  ·obtain ⟨m,hm⟩ : ∃ m,s.length - i = m + 1 := ⟨s.length - i - 1,by omega⟩
   rw [hm,lrun,if_pos ⟨hi,k3⟩,show m = s.length - (i + 1) by omega] at et ed
   have g1 := lrun_ge lletter s s.length (s.length - (i + 1)) (i + 1)
   have g2 := lrun_le lletter s s.length (s.length - (i + 1)) (i + 1) (by omega)
   generalize lrun lletter s s.length (s.length - (i + 1)) (i + 1) = k at et ed g1 g2
   simp only [if_pos k3]
   rw [← et,← ed]
   by_cases k4 : lnumb (s.getD i 0) = true
   ·simp only [if_pos k4]
    by_cases k5 : (qnum (lpc s i k)).2 = true
    ·simp only [if_pos k5]
     have ih := lsc_core s f k (out ++ [⟨2,[],(qnum (lpc s i k)).1,i,ldoc s i marks⟩]) marks g2 (by omega)
     refine ⟨fun h => ?_,fun h => ?_⟩
     ·obtain ⟨u,hu,hx⟩ := ih.1 h
      exact ⟨_,by rw [hu]; rfl,by rw [hx]; simp [Tk.co]⟩
     ·rw [(ih.2 h).1]; exact ⟨rfl,(ih.2 h).2⟩
    ·simp only [if_neg k5]
     exact ⟨fun h => absurd h (by decide),fun _ => by simp⟩
   ·simp only [if_neg k4]
    have ih := lsc_core s f k (out ++ [⟨1,lpc s i k,0,i,ldoc s i marks⟩]) marks g2 (by omega)
    refine ⟨fun h => ?_,fun h => ?_⟩
    ·obtain ⟨u,hu,hx⟩ := ih.1 h
     exact ⟨_,by rw [hu]; rfl,by rw [hx]; simp [Tk.co]⟩
    ·rw [(ih.2 h).1]; exact ⟨rfl,(ih.2 h).2⟩
  simp only [if_neg k3]
  by_cases k6 : s.getD i 0 = 34 ∨ s.getD i 0 = 39
  ·simp only [if_pos k6]
   by_cases k7 : (qtake (s.drop i)).2.2 = 0
   ·simp only [if_pos k7]
    have ha := (qtake_app (s.drop i) [] k7).2
    rw [List.length_drop] at ha
    generalize hn : (qtake (s.drop i)).2.1.toNat = n
    have ih := lsc_core s f (i + n) (out ++ [⟨3,(qtake (s.drop i)).1,0,i,ldoc s i marks⟩]) marks (by omega) (by omega)
    rw [List.drop_drop]
    refine ⟨fun h => ?_,fun h => ?_⟩
    ·obtain ⟨u,hu,hx⟩ := ih.1 h
     exact ⟨_,by rw [hu]; rfl,by rw [hx]; simp [Tk.co]⟩
    ·rw [(ih.2 h).1]; exact ⟨rfl,(ih.2 h).2⟩
   ·simp only [if_neg k7]
    exact ⟨fun h => absurd h k7,fun _ => by simp⟩
  simp only [if_neg k6]
  by_cases k8 : lsign (s.getD i 0) = true
  ·simp only [if_pos k8]
   have ep : lpc s i (i + 1) = [s.getD i 0] := by
    unfold lpc
    rw [drop_cons (by simp; omega),List.drop_eq_nil_of_le (by simp; omega)]
    simp [List.getD,hi]
   rw [ep]
   have ih := lsc_core s f (i + 1) (out ++ [⟨4,[s.getD i 0],0,i,ldoc s i marks⟩]) marks (by omega) (by omega)
   refine ⟨fun h => ?_,fun h => ?_⟩
   ·obtain ⟨u,hu,hx⟩ := ih.1 h
    exact ⟨_,by rw [hu]; rfl,by rw [hx]; simp [Tk.co]⟩
   ·rw [(ih.2 h).1]; exact ⟨rfl,(ih.2 h).2⟩
  ·simp only [if_neg k8]
   exact ⟨fun h => absurd h (by decide),fun _ => by simp⟩

end Go.Proofs.YtlekfcehmlepkaaGreatDoor

namespace Go.Proofs.YtlekfcehmlepkaaGreatDoor
set_option linter.unusedSimpArgs false

def KOk (s : List Int) (out : List Tk) (i : Nat) : Prop :=
 (∀ t ∈ out,t.kind ≠ 0 ∧ t.pos < i ∧ (t.kind = 1 → t.pos + t.text.length ≤ s.length ∧ lpc s t.pos (t.pos + t.text.length) = t.text)) ∧ out.Pairwise (fun a b => a.pos < b.pos)

theorem KOk.mono {s : List Int} {out : List Tk} {i k : Nat} (h : KOk s out i) (hk : i ≤ k) : KOk s out k :=
 ⟨fun t ht => ⟨(h.1 t ht).1,Nat.lt_of_lt_of_le (h.1 t ht).2.1 hk,(h.1 t ht).2.2⟩,h.2⟩

theorem KOk.snoc {s : List Int} {out : List Tk} {i k : Nat} {t : Tk} (h : KOk s out i) (h1 : t.kind ≠ 0) (h2 : t.pos = i) (h3 : i < k) (h4 : t.kind = 1 → t.pos + t.text.length ≤ s.length ∧ lpc s t.pos (t.pos + t.text.length) = t.text) : KOk s (out ++ [t]) k := by
 refine ⟨fun u hu => ?_,?_⟩
 ·rcases List.mem_append.1 hu with hu | hu
  ·exact (h.mono (Nat.le_of_lt h3)).1 u hu
  ·simp at hu; subst hu; exact ⟨h1,by omega,h4⟩
 ·rw [List.pairwise_append]
  refine ⟨h.2,by simp,fun a ha b hb => ?_⟩
  simp at hb; subst hb
  have := (h.1 a ha).2.1
  omega

theorem lpc_len (s : List Int) (i k : Nat) (h : i ≤ k) (hk : k ≤ s.length) : (lpc s i k).length = k - i := by unfold lpc; simp; omega

theorem lsc_kinds (s : List Int) : ∀ (f i0 : Nat) (out : List Tk) (marks : List Nat),i0 ≤ s.length → s.length < i0 + f → KOk s out i0 → (lsc s f i0 out marks).2.2 = 0 →
  ∃ out' d,(lsc s f i0 out marks).1 = out' ++ [⟨0,[],0,s.length,d⟩] ∧ KOk s out' s.length
 | 0,i0,out,marks,h1,h2,hK,h => by omega
 | f + 1,i0,out,marks,h1,h2,hK,h => by
  have hge := lrun_ge lblank s s.length (s.length - i0) i0
  have hle := lrun_le lblank s s.length (s.length - i0) i0 h1
  rw [lsc] at h ⊢
  generalize lrun lblank s s.length (s.length - i0) i0 = i at hge hle h ⊢
  have hK := hK.mono hge
  simp only at h ⊢
  by_cases k0 : i = s.length
  ·simp only [if_pos k0]
   subst k0
   exact ⟨out,_,rfl,hK⟩
  simp only [if_neg k0] at h ⊢
  have hi : i < s.length := by omega
  by_cases k1 : i + 1 < s.length ∧ s.getD i 0 = 47 ∧ s.getD (i + 1) 0 = 47
  ·simp only [if_pos k1] at h ⊢
   have g1 := lrun_ge leol s s.length (s.length - i) i
   have g2 := lrun_le leol s s.length (s.length - i) i (by omega)
   have g3 : i + 1 ≤ lrun leol s s.length (s.length - i) i := by
    obtain ⟨m,hm⟩ : ∃ m,s.length - i = m + 1 := ⟨s.length - i - 1,by omega⟩
    rw [hm,lrun,if_pos ⟨hi,by rw [k1.2.1]; decide⟩]
    exact lrun_ge _ _ _ _ _
   exact lsc_kinds s f _ out marks g2 (by omega) (hK.mono g1) h
  simp only [if_neg k1] at h ⊢
  by_cases k2 : i + 1 < s.length ∧ s.getD i 0 = 47 ∧ s.getD (i + 1) 0 = 42
  ·simp only [if_pos k2] at h ⊢
   have g := lcl_ge s (s.length - (i + 2)) (i + 2)
   generalize lcl s (s.length - (i + 2)) (i + 2) = k at g h ⊢
   by_cases k3 : k + 1 < s.length
   ·simp only [if_pos k3] at h ⊢
    exact lsc_kinds s f (k + 2) out _ (by omega) (by omega) (hK.mono (by omega)) h
   ·simp only [if_neg k3] at h
    exact absurd h (by decide)
  simp only [if_neg k2] at h ⊢
  unfold ltok at h ⊢
  by_cases k3 : lletter (s.getD i 0) = true
  ·have g1 := lrun_ge lletter s s.length (s.length - (i + 1)) (i + 1)
   have g2 := lrun_le lletter s s.length (s.length - (i + 1)) (i + 1) (by omega)
   simp only [if_pos k3] at h ⊢
   generalize lrun lletter s s.length (s.length - (i + 1)) (i + 1) = k at g1 g2 h ⊢
   by_cases k4 : lnumb (s.getD i 0) = true
   ·simp only [if_pos k4] at h ⊢
    by_cases k5 : (qnum (lpc s i k)).2 = true
    ·simp only [if_pos k5] at h ⊢
     exact lsc_kinds s f k _ marks g2 (by omega) (hK.snoc (by simp) rfl (by omega) (by simp)) h
    ·simp only [if_neg k5] at h
     exact absurd h (by decide)
   ·simp only [if_neg k4] at h ⊢
    have hl := lpc_len s i k (by omega) g2
    refine lsc_kinds s f k _ marks g2 (by omega) (hK.snoc (by simp) rfl (by omega) (fun _ => ?_)) h
    simp only [hl]
    exact ⟨by omega,by rw [show i + (k - i) = k by omega]⟩
  simp only [if_neg k3] at h ⊢
  by_cases k6 : s.getD i 0 = 34 ∨ s.getD i 0 = 39
  ·simp only [if_pos k6] at h ⊢
   by_cases k7 : (qtake (s.drop i)).2.2 = 0
   ·simp only [if_pos k7] at h ⊢
    have ha := (qtake_app (s.drop i) [] k7).2
    rw [List.length_drop] at ha
    exact lsc_kinds s f _ _ marks (by omega) (by omega) (hK.snoc (by simp) rfl (by omega) (by simp)) h
   ·simp only [if_neg k7] at h
    exact absurd h k7
  simp only [if_neg k6] at h ⊢
  by_cases k8 : lsign (s.getD i 0) = true
  ·simp only [if_pos k8] at h ⊢
   exact lsc_kinds s f (i + 1) _ marks (by omega) (by omega) (hK.snoc (by simp) rfl (by omega) (by simp)) h
  ·simp only [if_neg k8] at h
   exact absurd h (by decide)

theorem lscan_kinds (s : List Int) (h0 : (lscan s).2.2 = 0) :
  ∃ out d,(lscan s).1 = out ++ [⟨0,[],0,s.length,d⟩] ∧ KOk s out s.length := by
 unfold lscan at h0 ⊢
 by_cases h : 100000 < s.length
 ·rw [if_pos h] at h0; exact absurd h0 (by decide)
 ·rw [if_neg h] at h0 ⊢
  exact lsc_kinds s _ 0 [] [] (by omega) (by omega) ⟨by simp,by simp⟩ h0

theorem lscan_bad (s : List Int) (h0 : (lscan s).2.2 ≠ 0) : (lscan s).1 = [] := by
 unfold lscan at h0 ⊢
 by_cases h : 100000 < s.length
 ·rw [if_pos h]
 ·rw [if_neg h] at h0 ⊢
  exact ((lsc_core s _ 0 [] [] (by omega) (by omega)).2 h0).2

theorem pair_len : ∀ (l : List Tk) (lo hi : Nat),(∀ t ∈ l,lo ≤ t.pos ∧ t.pos < hi) → l.Pairwise (fun a b => a.pos < b.pos) → l.length + lo ≤ hi ∨ l = []
 | [],lo,hi,_,_ => .inr rfl
 | t :: r,lo,hi,h,hp => by
  left
  obtain ⟨h1,h2⟩ := List.pairwise_cons.1 hp
  have ht := h t (by simp)
  rcases pair_len r (t.pos + 1) hi (fun u hu => ⟨h1 u hu,(h u (by simp [hu])).2⟩) h2 with hr | hr
  ·simp only [List.length_cons]; omega
  ·subst hr; simp only [List.length_cons,List.length_nil]; omega

theorem lscan_len (s : List Int) : (lscan s).1.length ≤ s.length + 1 := by
 by_cases h0 : (lscan s).2.2 = 0
 ·obtain ⟨out,d,h1,h2⟩ := lscan_kinds s h0
  rw [h1]
  rcases pair_len out 0 s.length (fun t ht => ⟨Nat.zero_le _,(h2.1 t ht).2.1⟩) h2.2 with h | h
  ·simp; omega
  ·subst h; simp
 ·rw [lscan_bad s h0]; simp

end Go.Proofs.YtlekfcehmlepkaaGreatDoor

namespace Go.Proofs.YtlekfcehmlepkaaGreatDoor
open Go.RowKit
set_option linter.unusedVariables false
set_option linter.unusedSimpArgs false

theorem str_pc (s : List Int) (i k : Nat) : (strOfNums s).extract i k = strOfNums (lpc s i k) := by
 rw [str_cut]; unfold lpc; rw [List.drop_take]

def Tk.cells (t : Tk) : List Value := [.int .i64 t.kind,.string (strOfNums t.text),.int .u64 t.n,.int .i64 (t.pos : Int),.string (strOfNums t.doc)]

def Tk.ok (t : Tk) : Prop := (∀ c ∈ t.text,0 ≤ c ∧ c ≤ 255) ∧ (∀ c ∈ t.doc,0 ≤ c ∧ c ≤ 255)

def Ts (w : World) (a : Option Addr) (len cap : Nat) (ts : List Tk) : Prop :=
 ts.length = len ∧ len ≤ cap ∧ (a = none → cap = 0) ∧ (∀ t ∈ ts,t.ok) ∧
  (0 < len → ∃ b off,a = some ⟨b,off,none⟩ ∧ b < w.heap.size ∧ ∀ i t,ts[i]? = some t →
   w.cell? ⟨b,off + i * 5,none⟩ = some (.int .i64 t.kind) ∧ w.cell? ⟨b,off + i * 5 + 1,none⟩ = some (.string (strOfNums t.text)) ∧ w.cell? ⟨b,off + i * 5 + 2,none⟩ = some (.int .u64 t.n) ∧ w.cell? ⟨b,off + i * 5 + 3,none⟩ = some (.int .i64 (t.pos : Int)) ∧ w.cell? ⟨b,off + i * 5 + 4,none⟩ = some (.string (strOfNums t.doc)))

theorem flat5 : ∀ (ts : List Tk) (i : Nat) (t : Tk),ts[i]? = some t → ∀ j,j < 5 → (ts.flatMap Tk.cells)[i * 5 + j]? = t.cells[j]?
 | [],i,t,h,_,_ => by simp at h
 | q :: ts,0,t,h,j,hj => by
  simp at h
  subst h
  simp only [List.flatMap_cons]
  rw [List.getElem?_append_left (by simp [Tk.cells]; omega)]
  simp
 | q :: ts,i + 1,t,h,j,hj => by
  simp only [List.getElem?_cons_succ] at h
  simp only [List.flatMap_cons]
  rw [List.getElem?_append_right (by simp [Tk.cells]; omega),show (i + 1) * 5 + j - q.cells.length = i * 5 + j by simp [Tk.cells]; omega]
  exact flat5 ts i t h j hj

def To (w : World) (base : Nat) (v : Value) (ts : List Tk) : Prop := w.ownsRow base 81 5 v ts.length (ts.flatMap Tk.cells) ∧ ∀ t ∈ ts,t.ok

theorem To.nil (w : World) (base : Nat) : To w base (.slice none 0 0) [] := ⟨World.ownsRow_nil _ _ _ _,by simp⟩

theorem To.below {w w' : World} {base : Nat} {v : Value} {ts : List Tk} (h : To w base v ts) (hb : Below w.heap.size w w') : To w' base v ts := ⟨own_below h.1 hb,h.2⟩

theorem To.slice {w : World} {base : Nat} {v : Value} {ts : List Tk} (h : To w base v ts) : ∃ a c,v = .slice a ts.length c := own_slice h.1

theorem Ts.of_own {w : World} {base : Nat} {a : Option Addr} {len cap : Nat} {ts : List Tk} (h : To w base (.slice a len cap) ts) : Ts w a len cap ts := by
 obtain ⟨ho,hr⟩ := h
 rcases ho.2 with ⟨he,hn⟩ | ⟨g,c,cur,he,hg,hh,h1,h2,h3,h4⟩
 ·simp at he
  obtain ⟨rfl,rfl,rfl⟩ := he
  exact ⟨hn,Nat.le_refl _,fun _ => rfl,hr,fun h => absurd h (by omega)⟩
 ·simp at he
  obtain ⟨rfl,rfl,rfl⟩ := he
  refine ⟨rfl,h1,fun h => by simp at h,hr,fun _ => ⟨g,0,rfl,(ho.lt g rfl).2,fun i t hi => ?_⟩⟩
  have hil : i < ts.length := (List.getElem?_eq_some_iff.1 hi).1
  have c := fun j (hj : j < 5) => (ho.cellAt (i * 5 + j) (by omega)).trans (flat5 ts i t hi j hj)
  simp only [Nat.zero_add]
  exact ⟨c 0 (by omega),c 1 (by omega),c 2 (by omega),c 3 (by omega),c 4 (by omega)⟩

theorem Tryz.infoTok : (Tryz.prog.info? 81).map (fun i => (i.zero,i.size,i.bytes)) = some (some (.agg #[.int .i64 0,.string { data := #[] },.int .u64 0,.int .i64 0,.string { data := #[] }]),5,56) := by kernel_rfl

theorem wp_append_tok {w : World} {o : Oper} {f : Act} {K : Act → World → Prop} {Q : Exit → Act → World → Prop} (s x : Operand)
  (ho : o.op = .call { callee := .builtin .append,args := #[s,x],argTypes := #[64,64] }) (base : Nat) (v : Value) (ts : List Tk) (t : Tk) (b cap : Nat)
  (hs : f.eval s = v) (hx : f.eval x = .slice (some ⟨b,0,none⟩) 1 cap) (hown : To w base v ts) (hok : t.ok)
  (hc : ∀ j u,t.cells[j]? = some u → w.cell? ⟨b,j,none⟩ = some u) (hn : ts.length + 1 ≤ 1000000) (hbase : base ≤ w.heap.size)
  (h : ∀ v' w',To w' base v' (ts ++ [t]) → w.grownBy w' v.ownBlock → K (f.put o.dst v') w') : o.wp Tryz.prog f w K Q := by
 obtain ⟨i0,hi,hz0,hz1,hz2⟩ := info_parts Tryz.infoTok
 obtain ⟨v',w',hrun,h1,h2,_⟩ := run_append_own (P := Tryz.prog) w base 64 o.type 81 i0 _ 5 56 Tryz.underlying64 hi hz0 hz1 hz2 rfl (by decide) v ts.length _ hown.1 ⟨b,0,none⟩ 1 cap t.cells rfl
  (fun j u hj => by
   have hp : (⟨b,0,none⟩ : Addr).add j = ⟨b,j,none⟩ := by unfold Addr.add; split <;> simp_all
   rw [hp]; exact hc j u hj)
  (fun u hu => by simp [Tk.cells] at hu; rcases hu with rfl | rfl | rfl | rfl | rfl <;> rfl) (by unfold maxLen; omega) (by omega) hbase
 unfold Oper.wp
 simp [execOp,ho,resolve,invoke,builtin,hs,hx,hrun,Result.andThen]
 refine h v' w' ⟨by simpa using h1,fun u hu => ?_⟩ h2
 rcases List.mem_append.1 hu with hu | hu
 ·exact hown.2 u hu
 ·simp at hu; subst hu; exact hok

theorem wpList_append_tok {w : World} {ops : Array Oper} {rest : List Oper} {o : Oper} {f : Act} {Q : Exit → Act → World → Prop} (hgd : o.guard = none) (s x : Operand)
  (ho : o.op = .call { callee := .builtin .append,args := #[s,x],argTypes := #[64,64] }) (base : Nat) (v : Value) (ts : List Tk) (t : Tk) (b cap : Nat)
  (hs : f.eval s = v) (hx : f.eval x = .slice (some ⟨b,0,none⟩) 1 cap) (hown : To w base v ts) (hok : t.ok)
  (hc : ∀ j u,t.cells[j]? = some u → w.cell? ⟨b,j,none⟩ = some u) (hn : ts.length + 1 ≤ 1000000) (hbase : base ≤ w.heap.size)
  (h : ∀ v' w',To w' base v' (ts ++ [t]) → w.grownBy w' v.ownBlock → wpList Tryz.prog ops Q rest (f.put o.dst v') w') : wpList Tryz.prog ops Q (o :: rest) f w := by
 refine wpList_plain hgd fun K hK => ?_
 exact wp_append_tok s x ho base v ts t b cap hs hx hown hok hc hn hbase (fun v' w' h1 h2 => hK _ _ (h v' w' h1 h2))

theorem ldl_bd (s : List Int) (ms : List Nat) (hs : ∀ c ∈ s,0 ≤ c ∧ c ≤ 255) : ∀ (f n : Nat) (out : List Int),(∀ c ∈ out,0 ≤ c ∧ c ≤ 255) → ∀ c ∈ ldl s ms f n out,0 ≤ c ∧ c ≤ 255
 | 0,n,out,h => h
 | f + 1,n,out,h => by
  rw [ldl]
  by_cases k0 : n = 0
  ·rw [if_pos k0]; exact h
  rw [if_neg k0]
  cases ho : lown s (lnAt s (n - 1)) (n - 1) with
  | none => exact h
  | some t =>
   simp only
   by_cases k1 : (linside ms (lnAt s (n - 1)) || linside ms (n - 1)) = true
   ·rw [if_pos k1]; exact h
   ·rw [if_neg k1]
    apply ldl_bd s ms hs
    have ht : ∀ c ∈ t,0 ≤ c ∧ c ≤ 255 := by
     unfold lown at ho
     simp only at ho
     by_cases k2 : lrun lblank s (n - 1) (n - 1 - lnAt s (n - 1)) (lnAt s (n - 1)) + 2 ≤ n - 1 ∧ s.getD (lrun lblank s (n - 1) (n - 1 - lnAt s (n - 1)) (lnAt s (n - 1))) 0 = 47 ∧ s.getD (lrun lblank s (n - 1) (n - 1 - lnAt s (n - 1)) (lnAt s (n - 1)) + 1) 0 = 47
     ·rw [if_pos k2] at ho
      simp only [Option.some.injEq] at ho
      intro c hc
      rw [← ho] at hc
      exact hs c (List.mem_of_mem_take (List.mem_of_mem_drop hc))
     ·rw [if_neg k2] at ho; simp at ho
    intro c hc
    simp only [List.mem_append,List.mem_cons,List.not_mem_nil,or_false] at hc
    rcases hc with (hc | rfl) | hc
    ·exact ht c hc
    ·omega
    ·exact h c hc

theorem ldoc_bd (s : List Int) (k : Nat) (ms : List Nat) (hs : ∀ c ∈ s,0 ≤ c ∧ c ≤ 255) : ∀ c ∈ ldoc s k ms,0 ≤ c ∧ c ≤ 255 := by
 unfold ldoc
 split
 ·exact ldl_bd s ms hs _ _ [] (by simp)
 ·simp

theorem own_apart {w : World} {base : Nat} {e1 e2 : TypeId} {z1 z2 n1 n2 : Nat} {v1 v2 : Value} {x1 x2 : List Value} (h1 : w.ownsRow base e1 z1 v1 n1 x1) (h2 : w.ownsRow base e2 z2 v2 n2 x2) (he : e1 ≠ e2) : ∀ g,v1.ownBlock = some g → v2.ownBlock ≠ some g := by
 intro g hg hg2
 rcases h1.2 with ⟨rfl,_⟩ | ⟨a,c,cur,rfl,ha,hh,_⟩
 ·simp [Value.ownBlock] at hg
 rcases h2.2 with ⟨rfl,_⟩ | ⟨a2,c2,cur2,rfl,ha2,hh2,_⟩
 ·simp [Value.ownBlock] at hg2
 simp only [Value.ownBlock,Option.some.injEq] at hg hg2
 subst hg
 subst hg2
 rw [hh] at hh2
 simp only [Option.some.injEq,Obj.cells.injEq] at hh2
 exact he hh2.2.1

theorem own_other {w w' : World} {base : Nat} {e1 e2 : TypeId} {z1 z2 n1 n2 : Nat} {v1 v2 : Value} {x1 x2 : List Value} (h1 : w.ownsRow base e1 z1 v1 n1 x1) (h2 : w.ownsRow base e2 z2 v2 n2 x2) (he : e1 ≠ e2) (hg : w.grownBy w' v2.ownBlock) : w'.ownsRow base e1 z1 v1 n1 x1 := by
 refine h1.kept hg ?_
 cases hb : v1.ownBlock with
 | none => exact .inl rfl
 | some g => exact .inr (fun h => own_apart h1 h2 he g hb h.symm)

theorem Tryz.infoInt : (Tryz.prog.info? 3).map (fun i => (i.zero,i.size,i.bytes)) = some (some (.int .i64 0),1,8) := by kernel_rfl

def mcells (ms : List Nat) : List Value := ms.map fun m => Value.int .i64 ((m : Nat) : Int)

theorem wpList_append_marks {w : World} {ops : Array Oper} {rest : List Oper} {o : Oper} {f : Act} {Q : Exit → Act → World → Prop} (hgd : o.guard = none) (s x : Operand)
  (ho : o.op = .call { callee := .builtin .append,args := #[s,x],argTypes := #[36,36] }) (base : Nat) (v : Value) (ms : List Nat) (m1 m2 : Nat) (b cap : Nat)
  (hs : f.eval s = v) (hx : f.eval x = .slice (some ⟨b,0,none⟩) 2 cap) (hown : w.ownsRow base 3 1 v ms.length (mcells ms))
  (h0 : w.cell? ⟨b,0,none⟩ = some (.int .i64 (m1 : Int))) (h1 : w.cell? ⟨b,1,none⟩ = some (.int .i64 (m2 : Int))) (hn : ms.length + 2 ≤ 1000000) (hbase : base ≤ w.heap.size)
  (h : ∀ v' w',w'.ownsRow base 3 1 v' (ms ++ [m1,m2]).length (mcells (ms ++ [m1,m2])) → w.grownBy w' v.ownBlock → wpList Tryz.prog ops Q rest (f.put o.dst v') w') : wpList Tryz.prog ops Q (o :: rest) f w := by
 refine wpList_plain hgd fun K hK => ?_
 obtain ⟨i0,hi,hz0,hz1,hz2⟩ := info_parts Tryz.infoInt
 obtain ⟨v',w',hrun,g1,g2,_⟩ := run_append_own (P := Tryz.prog) w base 36 o.type 3 i0 _ 1 8 Tryz.underlying36 hi hz0 hz1 hz2 rfl (by decide) v ms.length _ hown ⟨b,0,none⟩ 2 cap (mcells [m1,m2]) rfl
  (fun j u hj => by
   have hp : (⟨b,0,none⟩ : Addr).add j = ⟨b,j,none⟩ := by unfold Addr.add; split <;> simp_all
   rw [hp]
   match j,hj with
   | 0,hj => simp [mcells] at hj; subst hj; exact h0
   | 1,hj => simp [mcells] at hj; subst hj; exact h1)
  (fun u hu => by simp [mcells] at hu; rcases hu with rfl | rfl <;> rfl) (by unfold maxLen; omega) (by omega) hbase
 unfold Oper.wp
 simp [execOp,ho,resolve,invoke,builtin,hs,hx,hrun,Result.andThen]
 exact hK _ _ (h v' w' (by simpa [mcells] using g1) g2)

theorem tok_cells (W : World) (t : Tk) (C : Array Value) (hC : C.toList = t.cells) : ∀ j u,t.cells[j]? = some u → (W.alloc (.cells C 81)).cell? ⟨W.heap.size,j,none⟩ = some u := by
 intro j u hj
 rw [World.cell?_alloc_new,← Array.getElem?_toList,hC,hj]

theorem own_allc {W : World} {base e sz n : Nat} {v : Value} {xs : List Value} (h : W.ownsRow base e sz v n xs) (o : Obj) : (W.alloc o).ownsRow base e sz v n xs :=
 own_below h ((Below.refl _ _).alloc (Nat.le_refl _) _)

structure Src (S : ByteArray) (s : List Int) : Prop where
 sz : S.size = s.length
 bd : ∀ i,0 ≤ s.getD i 0 ∧ s.getD i 0 ≤ 255
 eq : S = strOfNums s

theorem Src.at {S : ByteArray} {s : List Int} (h : Src S s) (k : Nat) (hk : k < s.length) : ((S[k]'(by rw [h.sz]; exact hk)).toNat : Int) = s.getD k 0 := by
 obtain ⟨h1,h2,rfl⟩ := h
 exact str_at s h2 k _

theorem Src.two {S : ByteArray} {s : List Int} (h : Src S s) (i : Nat) (hi : i + 1 < s.length) (a b : Int) (ha : 0 ≤ a ∧ a ≤ 255) (hb : 0 ≤ b ∧ b ≤ 255) :
  ((S.extract i (i + 2)).toList == [UInt8.ofNat a.toNat,UInt8.ofNat b.toNat]) = decide (s.getD i 0 = a ∧ s.getD (i + 1) 0 = b) := by
 obtain ⟨h1,h2,rfl⟩ := h
 exact str_two s h2 i hi a b ha hb

theorem Src.cut {S : ByteArray} {s : List Int} (h : Src S s) (i k : Nat) : S.extract i k = strOfNums (lpc s i k) := by
 obtain ⟨h1,h2,rfl⟩ := h
 exact str_pc s i k

def SJ (w : World) (s : List Int) (R : List Tk × Int × Int) (o m iv : Value) (wr : World) : Prop :=
 ∃ (i f : Nat) (out : List Tk) (ms : List Nat),iv = .int .i64 (i : Int) ∧ i ≤ s.length ∧ s.length < i + f ∧ out.length ≤ i ∧ ms.length ≤ i ∧ Hid (∀ j,ms.getD j 0 ≤ 1000000) ∧ Hid (R = lsc s f i out ms) ∧
  To wr w.heap.size o out ∧ wr.ownsRow w.heap.size 3 1 m ms.length (mcells ms) ∧ Below w.heap.size w wr

def ScanEnd (w : World) (R : List Tk × Int × Int) (e : Ending) (w' : World) : Prop :=
 ∃ v,e = .returned (.tuple #[v,.int .i64 R.2.1,.int .i64 R.2.2]) ∧ To w' w.heap.size v R.1 ∧ Below w.heap.size w w'

theorem after_call {W w1 : World} {v0 v1 v2 v3 v4 : Value} (hb1 : Below (W.alloc (.cells #[v0,v1,v2,v3,v4] 81)).drew.heap.size (W.alloc (.cells #[v0,v1,v2,v3,v4] 81)).drew w1) :
  Below W.heap.size W w1 ∧ W.heap.size < w1.heap.size ∧ w1.cell? ⟨W.heap.size,0,none⟩ = some v0 ∧ w1.cell? ⟨W.heap.size,1,none⟩ = some v1 ∧ w1.cell? ⟨W.heap.size,2,none⟩ = some v2 ∧ w1.cell? ⟨W.heap.size,3,none⟩ = some v3 ∧ w1.cell? ⟨W.heap.size,4,none⟩ = some v4 ∧
   w1.frozen? ⟨W.heap.size,0,none⟩ = false ∧ w1.frozen? ⟨W.heap.size,1,none⟩ = false ∧ w1.frozen? ⟨W.heap.size,2,none⟩ = false := by
 have hlt : W.heap.size < (W.alloc (.cells #[v0,v1,v2,v3,v4] 81)).drew.heap.size := by show W.heap.size < (W.alloc _).heap.size; simp
 have hc : ∀ j,w1.cell? ⟨W.heap.size,j,none⟩ = #[v0,v1,v2,v3,v4][j]? := fun j => (hb1.cell (p := ⟨W.heap.size,j,none⟩) hlt).trans (World.cell?_alloc_new _ _ _ _)
 have hf : ∀ j,w1.frozen? ⟨W.heap.size,j,none⟩ = false := fun j => (hb1.frozen (p := ⟨W.heap.size,j,none⟩) hlt).trans (World.frozen?_alloc_new _ _ _ _)
 exact ⟨((Below.refl W.heap.size W).alloc (Nat.le_refl _) _).drew.trans (hb1.mono (Nat.le_of_lt hlt)),Nat.lt_of_lt_of_le hlt hb1.size,hc 0,hc 1,hc 2,hc 3,hc 4,hf 0,hf 1,hf 2⟩

theorem after_call0 {W w1 : World} {v0 v1 v2 v3 v4 : Value} (hb1 : Below (W.alloc (.cells #[v0,v1,v2,v3,v4] 81)).heap.size (W.alloc (.cells #[v0,v1,v2,v3,v4] 81)) w1) :
  Below W.heap.size W w1 ∧ W.heap.size < w1.heap.size ∧ w1.cell? ⟨W.heap.size,0,none⟩ = some v0 ∧ w1.cell? ⟨W.heap.size,1,none⟩ = some v1 ∧ w1.cell? ⟨W.heap.size,2,none⟩ = some v2 ∧ w1.cell? ⟨W.heap.size,3,none⟩ = some v3 ∧ w1.cell? ⟨W.heap.size,4,none⟩ = some v4 ∧
   w1.frozen? ⟨W.heap.size,0,none⟩ = false ∧ w1.frozen? ⟨W.heap.size,1,none⟩ = false ∧ w1.frozen? ⟨W.heap.size,2,none⟩ = false := by
 have hlt : W.heap.size < (W.alloc (.cells #[v0,v1,v2,v3,v4] 81)).heap.size := by simp
 have hc : ∀ j,w1.cell? ⟨W.heap.size,j,none⟩ = #[v0,v1,v2,v3,v4][j]? := fun j => (hb1.cell (p := ⟨W.heap.size,j,none⟩) hlt).trans (World.cell?_alloc_new _ _ _ _)
 have hf : ∀ j,w1.frozen? ⟨W.heap.size,j,none⟩ = false := fun j => (hb1.frozen (p := ⟨W.heap.size,j,none⟩) hlt).trans (World.frozen?_alloc_new _ _ _ _)
 exact ⟨((Below.refl W.heap.size W).alloc (Nat.le_refl _) _).trans (hb1.mono (Nat.le_of_lt hlt)),Nat.lt_of_lt_of_le hlt hb1.size,hc 0,hc 1,hc 2,hc 3,hc 4,hf 0,hf 1,hf 2⟩

theorem Bs.setc {w : World} {a : Option Addr} {len cap : Nat} {zs : List Int} (h : Bs w a len cap zs) (p : Addr) (hne : ∀ x,a = some x → x.block ≠ p.block) (v : Value) : Bs (w.setCell p v) a len cap zs := by
 obtain ⟨h1,h2,h3,h4,h5,h6⟩ := h
 refine ⟨h1,h2,h3,h4,h5,fun hp => ?_⟩
 obtain ⟨b,off,rfl,hlt,hc⟩ := h6 hp
 refine ⟨b,off,rfl,by simpa [World.setCell] using hlt,fun i hi => ?_⟩
 rw [← hc i hi]
 have hb := hne _ rfl
 exact World.cell?_of_block (w := w) (Below.heap_setCell w p v b hb)

theorem own_far {W w1 : World} {o : Obj} {e z n : Nat} {a : Option Addr} {len cap : Nat} {xs : List Value} (h : w1.ownsRow (W.alloc o).heap.size e z (.slice a len cap) n xs) : ∀ x,a = some x → x.block ≠ W.heap.size := by
 intro x hx
 subst hx
 have := (h.lt x.block rfl).1
 simp at this
 omega

theorem qtk_place (q : Int) : ∀ (f : Nat) (s : List Int) (i : Int) (o : List Int),s.length ≤ f → i ≤ (qtk q f s i o).2.1 ∧ (qtk q f s i o).2.1 ≤ i + s.length
 | 0,s,i,o,h => by simp only [qtk]; omega
 | f + 1,[],i,o,h => by simp [qtk]
 | f + 1,c :: r,i,o,h => by
  simp only [List.length_cons] at h ⊢
  rw [qtk]
  by_cases k1 : c = q
  ·simp only [if_pos k1]; omega
  simp only [if_neg k1]
  by_cases k2 : c = 0 ∨ c = 10
  ·simp only [if_pos k2]; omega
  simp only [if_neg k2]
  by_cases k3 : c = 92
  ·simp only [if_pos k3]
   by_cases k4 : (qesc r).2 = 0
   ·simp only [if_pos k4]; omega
   ·simp only [if_neg k4]
    have hle := (qesc_le r).1
    have := qtk_place q f (r.drop (qesc r).2) (i + 1 + (qesc r).2) (o ++ (qesc r).1) (by simp only [List.length_drop]; omega)
    simp only [List.length_drop] at this
    omega
  ·simp only [if_neg k3]
   have := qtk_place q f r (i + 1) (o ++ [c]) (by omega)
   omega

theorem qtake_place (s : List Int) : 0 ≤ (qtake s).2.1 ∧ (qtake s).2.1 ≤ s.length := by
 cases s with
 | nil => simp [qtake]
 | cons c r =>
  rw [qtake]
  by_cases k : c = 34 ∨ c = 39
  ·simp only [if_pos k]
   have := qtk_place c r.length r 1 [] (Nat.le_refl _)
   simp only [List.length_cons]
   omega
  ·simp only [if_neg k,List.length_cons]
   omega

end Go.Proofs.YtlekfcehmlepkaaGreatDoor

namespace Go.Proofs.YtlekfcehmlepkaaGreatDoor
set_option linter.unusedSimpArgs false
set_option linter.unusedVariables false

theorem lrun_holds (p : Int → Bool) (s : List Int) (to : Nat) : ∀ f i q,i ≤ q → q < lrun p s to f i → p (s.getD q 0) = true ∧ q < to
 | 0,i,q,h1,h2 => by rw [lrun] at h2; omega
 | f + 1,i,q,h1,h2 => by
  rw [lrun] at h2
  by_cases k : i < to ∧ p (s.getD i 0) = true
  ·rw [if_pos k] at h2
   by_cases e : q = i
   ·subst e; exact ⟨k.2,k.1⟩
   ·exact lrun_holds p s to f (i + 1) q (by omega) h2
  ·rw [if_neg k] at h2; omega

/- A quoted text has no line's end within. -/
theorem qrn_no10 (base : Int) (hb : base ≤ 16) : ∀ (f : Nat) (s : List Int) (n : Int),∀ x ∈ s.take (qrn base f s n).2,x ≠ 10
 | 0,s,n => by simp [qrn]
 | f + 1,[],n => by simp [qrn]
 | f + 1,c :: r,n => by
  rw [qrn]
  by_cases k : dgt c < base
  ·rw [if_pos k]
   intro x hx
   simp only [List.take_succ_cons,List.mem_cons] at hx
   rcases hx with rfl | hx
   ·rintro rfl
    have : dgt 10 = 99 := by decide
    omega
   ·exact qrn_no10 base hb f r _ x hx
  ·rw [if_neg k]; simp

theorem qesc_no10 (s : List Int) : ∀ x ∈ s.take (qesc s).2,x ≠ 10 := by
 cases s with
 | nil => simp [qesc]
 | cons c r =>
  have h1 := qrn_no10 16 (by omega) 2 r 0
  have h2 := qrn_no10 16 (by omega) 4 r 0
  have h3 := qrn_no10 16 (by omega) 8 r 0
  have h4 := qrn_no10 8 (by omega) 3 (c :: r) 0
  rw [qesc]
  by_cases k0 : c = 97
  ·rw [if_pos k0]; simp [k0]
  rw [if_neg k0]
  by_cases k1 : c = 98
  ·rw [if_pos k1]; simp [k1]
  rw [if_neg k1]
  by_cases k2 : c = 102
  ·rw [if_pos k2]; simp [k2]
  rw [if_neg k2]
  by_cases k3 : c = 110
  ·rw [if_pos k3]; simp [k3]
  rw [if_neg k3]
  by_cases k4 : c = 114
  ·rw [if_pos k4]; simp [k4]
  rw [if_neg k4]
  by_cases k5 : c = 116
  ·rw [if_pos k5]; simp [k5]
  rw [if_neg k5]
  by_cases k6 : c = 118
  ·rw [if_pos k6]; simp [k6]
  rw [if_neg k6]
  by_cases k7 : c = 92 ∨ c = 39 ∨ c = 34 ∨ c = 63
  ·rw [if_pos k7]; simp; omega
  rw [if_neg k7]
  by_cases m0 : c = 120 ∨ c = 88
  ·rw [if_pos m0]
   by_cases j : 0 < (qrn 16 2 r 0).2
   ·rw [if_pos j]
    simp only [Nat.add_comm 1,List.take_succ_cons,List.mem_cons]
    rintro x (rfl | hx)
    ·omega
    ·exact h1 x hx
   ·rw [if_neg j]; simp
  rw [if_neg m0]
  by_cases m1 : c = 117
  ·rw [if_pos m1]
   by_cases j : (qrn 16 4 r 0).2 = 4 ∧ isCh (qrn 16 4 r 0).1 = true
   ·rw [if_pos j]
    rw [j.1] at h2
    simp only [List.take_succ_cons,List.mem_cons]
    rintro x (rfl | hx)
    ·omega
    ·exact h2 x hx
   ·rw [if_neg j]; simp
  rw [if_neg m1]
  by_cases m2 : c = 85
  ·rw [if_pos m2]
   by_cases j : (qrn 16 8 r 0).2 = 8 ∧ isCh (qrn 16 8 r 0).1 = true
   ·rw [if_pos j]
    rw [j.1] at h3
    simp only [List.take_succ_cons,List.mem_cons]
    rintro x (rfl | hx)
    ·omega
    ·exact h3 x hx
   ·rw [if_neg j]; simp
  rw [if_neg m2]
  by_cases j : 0 < (qrn 8 3 (c :: r) 0).2 ∧ (qrn 8 3 (c :: r) 0).1 < 256
  ·rw [if_pos j]; exact h4
  ·rw [if_neg j]; simp

theorem qtk_no10 (q : Int) (hq : q ≠ 10) : ∀ (f : Nat) (s : List Int) (i : Int) (o : List Int),(qtk q f s i o).2.2 = 0 → ∃ n : Nat,(qtk q f s i o).2.1 = i + n ∧ n ≤ s.length ∧ ∀ x ∈ s.take n,x ≠ 10
 | 0,s,i,o,h => by simp [qtk] at h
 | f + 1,[],i,o,h => by simp [qtk] at h
 | f + 1,c :: r,i,o,h => by
  rw [qtk] at h ⊢
  by_cases k1 : c = q
  ·simp only [if_pos k1] at h ⊢
   exact ⟨1,by omega,by simp,by simp; omega⟩
  simp only [if_neg k1] at h ⊢
  by_cases k2 : c = 0 ∨ c = 10
  ·simp only [if_pos k2] at h; exact absurd h (by decide)
  simp only [if_neg k2] at h ⊢
  by_cases k3 : c = 92
  ·simp only [if_pos k3] at h ⊢
   by_cases k4 : (qesc r).2 = 0
   ·simp only [if_pos k4] at h; exact absurd h (by decide)
   ·simp only [if_neg k4] at h ⊢
    obtain ⟨n,h1,h2,h3⟩ := qtk_no10 q hq f (r.drop (qesc r).2) _ _ h
    have hle := (qesc_le r).1
    simp only [List.length_drop] at h2
    refine ⟨1 + (qesc r).2 + n,by rw [h1]; push_cast; omega,by simp only [List.length_cons]; omega,?_⟩
    rw [show 1 + (qesc r).2 + n = ((qesc r).2 + n) + 1 by omega,List.take_succ_cons,List.take_add]
    simp only [List.mem_cons,List.mem_append]
    rintro x (rfl | hx | hx)
    ·omega
    ·exact qesc_no10 r x hx
    ·exact h3 x hx
  ·simp only [if_neg k3] at h ⊢
   obtain ⟨n,h1,h2,h3⟩ := qtk_no10 q hq f r _ _ h
   refine ⟨n + 1,by rw [h1]; push_cast; omega,by simp only [List.length_cons]; omega,?_⟩
   rw [List.take_succ_cons]
   simp only [List.mem_cons]
   rintro x (rfl | hx)
   ·omega
   ·exact h3 x hx

theorem qtake_no10 (s : List Int) (h : (qtake s).2.2 = 0) : ∃ n : Nat,(qtake s).2.1 = n ∧ n ≤ s.length ∧ 0 < n ∧ ∀ p,p < n → s.getD p 0 ≠ 10 := by
 cases s with
 | nil => simp [qtake] at h
 | cons c r =>
  rw [qtake] at h ⊢
  by_cases k : c = 34 ∨ c = 39
  ·simp only [if_pos k] at h ⊢
   obtain ⟨n,h1,h2,h3⟩ := qtk_no10 c (by omega) r.length r 1 [] h
   refine ⟨n + 1,by rw [h1]; push_cast; omega,by simp only [List.length_cons]; omega,by omega,?_⟩
   intro p hp
   match p with
   | 0 => simp; omega
   | p + 1 =>
    have hpr : p < r.length := by omega
    simp only [List.getD,List.getElem?_cons_succ,List.getElem?_eq_getElem hpr,Option.getD_some]
    refine h3 _ ?_
    rw [List.mem_take_iff_getElem]
    exact ⟨p,by omega,rfl⟩
  ·simp only [if_neg k] at h; exact absurd h (by decide)

end Go.Proofs.YtlekfcehmlepkaaGreatDoor

namespace Go.Proofs.YtlekfcehmlepkaaGreatDoor
open Go.RowKit
set_option linter.unusedVariables false
set_option linter.unusedSimpArgs false

def goR : Code → Code
 | .seq _ b => b
 | c => c

def goL : Code → Code
 | .seq a _ => a
 | c => c

def goIn : Code → Code
 | .block _ c => c
 | .loop c => c
 | c => c

noncomputable def rbody : Code := Tryz.f22.body.getD .skip

noncomputable def rloop : Code := goIn (goR (goR (goR (goR (goR rbody)))))

noncomputable def rB : Code := goIn (goIn rloop)

noncomputable def rP1 : Code := goL rB

noncomputable def rP2 : Code := goL (goR rB)

noncomputable def rP3 : Code := goL (goR (goR rB))

noncomputable def rP4 : Code := goL (goR (goR (goR rB)))

noncomputable def rT : Code := goR (goR (goR (goR rB)))

noncomputable def rT1 : Code := goL rT

noncomputable def rT2 : Code := goL (goR rT)

noncomputable def rSW : Code := goL (goR (goR rT))

noncomputable def rT3 : Code := goR (goR (goR rT))

set_option maxRecDepth 100000 in
def RF (S : ByteArray) (o m iv t9 k10 : Value) (us : Nat → Value) : Act :=
 { tmps := List.toArray (.string S :: undef :: .slice none 0 0 :: .int .i64 0 :: .int .i64 0 :: o :: m :: iv :: us 8 :: t9 :: k10 :: us 11 :: us 12 :: us 13 :: us 14 :: us 15 :: us 16 :: us 17 :: us 18 :: us 19 :: us 20 :: us 21 :: us 22 :: us 23 :: us 24 :: us 25 :: us 26 :: us 27 :: us 28 :: us 29 :: us 30 :: us 31 :: us 32 :: us 33 :: us 34 :: us 35 :: us 36 :: us 37 :: us 38 :: us 39 :: us 40 :: us 41 :: us 42 :: us 43 :: us 44 :: us 45 :: us 46 :: us 47 :: us 48 :: us 49 :: us 50 :: us 51 :: us 52 :: us 53 :: us 54 :: us 55 :: us 56 :: us 57 :: us 58 :: us 59 :: us 60 :: us 61 :: us 62 :: us 63 :: us 64 :: us 65 :: us 66 :: us 67 :: us 68 :: us 69 :: us 70 :: us 71 :: us 72 :: us 73 :: us 74 :: us 75 :: us 76 :: us 77 :: us 78 :: us 79 :: us 80 :: us 81 :: us 82 :: us 83 :: us 84 :: us 85 :: us 86 :: us 87 :: us 88 :: us 89 :: us 90 :: us 91 :: us 92 :: us 93 :: us 94 :: us 95 :: us 96 :: us 97 :: us 98 :: us 99 :: us 100 :: us 101 :: us 102 :: us 103 :: us 104 :: us 105 :: us 106 :: us 107 :: us 108 :: us 109 :: us 110 :: us 111 :: us 112 :: us 113 :: us 114 :: us 115 :: us 116 :: us 117 :: us 118 :: us 119 :: us 120 :: us 121 :: us 122 :: us 123 :: us 124 :: us 125 :: us 126 :: us 127 :: us 128 :: us 129 :: us 130 :: us 131 :: us 132 :: us 133 :: us 134 :: us 135 :: us 136 :: us 137 :: us 138 :: us 139 :: us 140 :: us 141 :: us 142 :: us 143 :: us 144 :: us 145 :: us 146 :: us 147 :: us 148 :: us 149 :: us 150 :: us 151 :: us 152 :: us 153 :: us 154 :: us 155 :: us 156 :: us 157 :: us 158 :: us 159 :: us 160 :: us 161 :: us 162 :: us 163 :: us 164 :: us 165 :: us 166 :: us 167 :: us 168 :: us 169 :: us 170 :: us 171 :: us 172 :: us 173 :: us 174 :: us 175 :: us 176 :: us 177 :: us 178 :: us 179 :: us 180 :: us 181 :: us 182 :: us 183 :: us 184 :: us 185 :: us 186 :: us 187 :: us 188 :: us 189 :: us 190 :: us 191 :: us 192 :: us 193 :: us 194 :: us 195 :: us 196 :: us 197 :: us 198 :: us 199 :: us 200 :: us 201 :: us 202 :: us 203 :: us 204 :: us 205 :: us 206 :: us 207 :: us 208 :: us 209 :: us 210 :: us 211 :: []),defers := [] }

theorem RF.mk {S : ByteArray} {o m iv t9 k10 : Value} {a' : Act} (us : Nat → Value) (_hu : us = fun k => a'.tmps.getD k undef) (h : a' = RF S o m iv t9 k10 us) : ∃ us,a' = RF S o m iv t9 k10 us := ⟨us,h⟩

def Goes (c : Code) (a : Act) (w : World) (N X Rt : Act → World → Prop) : Prop :=
 ∀ Q : Exit → Act → World → Prop,(∀ a w,N a w → Q .normal a w) → (∀ a w,X a w → Q (.exit 1) a w) → (∀ a w,Rt a w → Q .ret a w) → c.wp Tryz.prog Q a w

theorem Goes.seq {x y : Code} {a : Act} {w : World} {M N X Rt : Act → World → Prop} (h1 : Goes x a w M X Rt) (h2 : ∀ a w,M a w → Goes y a w N X Rt) : Goes (.seq x y) a w N X Rt :=
 fun Q hN hX hR => wp_seq (h1 _ (fun a w h => h2 a w h Q hN hX hR) hX hR)

theorem Goes.mono {x : Code} {a : Act} {w : World} {N X Rt N' X' Rt' : Act → World → Prop} (h : Goes x a w N X Rt) (h1 : ∀ a w,N a w → N' a w) (h2 : ∀ a w,X a w → X' a w) (h3 : ∀ a w,Rt a w → Rt' a w) : Goes x a w N' X' Rt' :=
 fun Q hN hX hR => h Q (fun a w k => hN a w (h1 a w k)) (fun a w k => hX a w (h2 a w k)) (fun a w k => hR a w (h3 a w k))

def Nev (_ : Act) (_ : World) : Prop := False

theorem Nev.any {P : Act → World → Prop} : ∀ a w,Nev a w → P a w := fun _ _ h => h.elim

def Rtn (w : World) (R : List Tk × Int × Int) (a : Act) (w' : World) : Prop :=
 ∃ v,a.tmps.getD 2 undef = v ∧ a.tmps.getD 3 undef = .int .i64 R.2.1 ∧ a.tmps.getD 4 undef = .int .i64 R.2.2 ∧ a.defers = [] ∧ To w' w.heap.size v R.1 ∧ Below w.heap.size w w'

end Go.Proofs.YtlekfcehmlepkaaGreatDoor
