/- Put together by a program out of these texts of mine: VLk. -/
import Derived.Test.YtafmoceinamcdaaGreatBunS41

namespace Go.Proofs.YtafmoceinamcdaaGreat
open Go.RowKit
set_option linter.unusedVariables false
set_option linter.unusedSimpArgs false

theorem nlast_no (s : List Int) : ∀ k, (∀ i, i < k → s.getD i 0 ≠ 46) → nlast s k = 0
  | 0, _ => rfl
  | k + 1, h => by
    unfold nlast
    rw [if_neg (h k (by omega))]
    exact nlast_no s k (fun i hi => h i (by omega))

theorem nlast_at9 (s : List Int) (q : Nat) (hq : s.getD q 0 = 46) : ∀ k, q < k → (∀ i, q < i → i < k → s.getD i 0 ≠ 46) → nlast s k = q + 1
  | 0, h, _ => absurd h (by omega)
  | k + 1, h, hn => by
    unfold nlast
    by_cases e : k = q
    · subst e
      rw [if_pos hq]
    · rw [if_neg (hn k (by omega) (by omega))]
      exact nlast_at9 s q hq k (by omega) (fun i h1 h2 => hn i h1 (by omega))

def nodot (p : List Int) : Prop := ∀ c ∈ p, c ≠ 46

theorem nodot_get {p : List Int} (h : nodot p) (i : Nat) : p.getD i 0 ≠ 46 := by
  rw [List.getD_eq_getElem?_getD]
  cases hq : p[i]? with
  | none => simp
  | some z => simpa using h z (List.mem_of_getElem? hq)

theorem nlast_one {p : List Int} (h : nodot p) : nlast p p.length = 0 := nlast_no p _ (fun i _ => nodot_get h i)

theorem nlast_two {a p : List Int} (h : nodot p) : nlast (a ++ 46 :: p) (a ++ 46 :: p).length = a.length + 1 := by
  refine nlast_at9 _ a.length ?_ _ (by simp) (fun i h1 h2 => ?_)
  · rw [List.getD_eq_getElem?_getD, List.getElem?_append_right (Nat.le_refl _)]
    simp
  · rw [List.getD_eq_getElem?_getD, List.getElem?_append_right (by omega)]
    obtain ⟨d, hd⟩ : ∃ d, i - a.length = d + 1 := ⟨i - a.length - 1, by omega⟩
    rw [hd, List.getElem?_cons_succ]
    have := nodot_get h d
    rwa [List.getD_eq_getElem?_getD] at this

theorem ahead_one {p : List Int} (h : nodot p) : ahead p = p := by
  unfold ahead
  induction p with
  | nil => rfl
  | cons c r ih =>
    rw [List.takeWhile_cons, if_pos (by simpa using h c (List.mem_cons_self ..)), ih (fun x hx => h x (List.mem_cons_of_mem _ hx))]

theorem ahead_two {p t : List Int} (h : nodot p) : ahead (p ++ 46 :: t) = p := by
  unfold ahead
  induction p with
  | nil => simp
  | cons c r ih =>
    rw [List.cons_append, List.takeWhile_cons, if_pos (by simpa using h c (List.mem_cons_self ..)), ih (fun x hx => h x (List.mem_cons_of_mem _ hx))]

def Jn : List (List Int) → List Int
  | [] => []
  | [p] => p
  | p :: q :: r => p ++ 46 :: Jn (q :: r)

theorem Jn_append : ∀ (l : List (List Int)) (p : List Int), l ≠ [] → Jn (l ++ [p]) = Jn l ++ 46 :: p
  | [], _, h => absurd rfl h
  | [a], p, _ => by simp [Jn]
  | a :: b :: r, p, _ => by
    have ih := Jn_append (b :: r) p (by simp)
    have e1 : Jn (a :: b :: r ++ [p]) = a ++ 46 :: Jn (b :: r ++ [p]) := by simp only [List.cons_append, Jn]
    have e2 : Jn (a :: b :: r) = a ++ 46 :: Jn (b :: r) := by rw [Jn]
    rw [e1, ih, e2]
    simp

def shortR (P : List Int → Bool) (fl : List Int) : List (List Int) → Option (List Int) → List Int
  | [], _ => 46 :: fl
  | p :: r, none => if (!nkey p && P p) = true then p else shortR P fl r (some p)
  | p :: r, some t => if (!nkey p && P (p ++ 46 :: t)) = true then p ++ 46 :: t else shortR P fl r (some (p ++ 46 :: t))

def tailO : Option (List Int) → List Int
  | none => []
  | some t => 46 :: t

theorem shortR_cons (P : List Int → Bool) (fl p : List Int) (r : List (List Int)) (o : Option (List Int)) : shortR P fl (p :: r) o = if (!nkey p && P (p ++ tailO o)) = true then p ++ tailO o else shortR P fl r (some (p ++ tailO o)) := by
  cases o with
  | none => simp [shortR, tailO]
  | some t => simp [shortR, tailO]

theorem shortR_eq (P : List Int → Bool) (fl : List Int) : ∀ (r : List (List Int)) (o : Option (List Int)), r ≠ [] → (∀ p ∈ r, nodot p) → fl = Jn r.reverse ++ tailO o → shortR P fl r o = shortF P fl (Jn r.reverse).length
  | [], _, h, _, _ => absurd rfl h
  | p :: r, o, _, hd, hf => by
    have hp := hd p (List.mem_cons_self ..)
    have htk : fl.take (Jn (p :: r).reverse).length = Jn (p :: r).reverse := by rw [hf]; simp
    have hah : ahead (p ++ tailO o) = p := by
      cases o with
      | none => simp only [tailO, List.append_nil]; exact ahead_one hp
      | some t => exact ahead_two hp
    rw [shortF_eq, htk, shortR_cons]
    by_cases hr : r = []
    · subst hr
      have e : Jn [p].reverse = p := by simp [Jn]
      rw [e] at hf ⊢
      rw [nlast_one hp]
      unfold shortG
      rw [List.drop_zero, if_pos (rfl : (0 : Nat) = 0), hf, hah]
      rfl
    · have hrr : r.reverse ≠ [] := by simpa using hr
      have e : Jn (p :: r).reverse = Jn r.reverse ++ 46 :: p := by rw [List.reverse_cons]; exact Jn_append _ _ hrr
      rw [e] at hf ⊢
      rw [nlast_two hp]
      have hdr : fl.drop ((Jn r.reverse).length + 1) = p ++ tailO o := by
        rw [hf, List.append_assoc, List.drop_append]
        simp
      have ih := shortR_eq P fl r (some (p ++ tailO o)) hr (fun q hq => hd q (List.mem_cons_of_mem _ hq)) (by rw [hf]; simp [tailO])
      unfold shortG
      rw [hdr, hah, if_neg (by omega : ¬ (Jn r.reverse).length + 1 = 0), Nat.add_sub_cancel, ← ih]

theorem nsp_nodot : ∀ (s cur : List Int), nodot cur → ∀ p ∈ nsp cur s, nodot p
  | [], cur, h, p, hp => by
    simp only [nsp, List.mem_singleton] at hp
    rw [hp]
    exact h
  | c :: r, cur, h, p, hp => by
    unfold nsp at hp
    split at hp
    · rcases List.mem_cons.1 hp with rfl | hp
      · exact h
      · exact nsp_nodot r [] (fun x hx => by cases hx) p hp
    · rename_i hc
      refine nsp_nodot r (cur ++ [c]) (fun x hx => ?_) p hp
      rcases List.mem_append.1 hx with hx | hx
      · exact h x hx
      · rw [List.mem_singleton.1 hx]; exact hc

theorem nsp_ne : ∀ (s cur : List Int), nsp cur s ≠ []
  | [], cur => by simp [nsp]
  | c :: r, cur => by
    unfold nsp
    split
    · simp
    · exact nsp_ne r _

theorem nsp_join9 : ∀ (s cur : List Int), Jn (nsp cur s) = cur ++ s
  | [], cur => by simp [nsp, Jn]
  | c :: r, cur => by
    unfold nsp
    split
    · rename_i hc
      have ih := nsp_join9 r []
      cases hq : nsp [] r with
      | nil => exact absurd hq (nsp_ne r [])
      | cons a b =>
        rw [hq] at ih
        rw [Jn, ih, hc]
        simp
    · rw [nsp_join9 r (cur ++ [c])]
      simp

theorem short_same (P : List Int → Bool) (fl : List Int) : shortR P fl (nparts fl).reverse none = shortF P fl fl.length := by
  have e0 : nparts fl = nsp [] fl := rfl
  have h := shortR_eq P fl (nsp [] fl).reverse none (by simpa using nsp_ne fl []) (fun p hp => nsp_nodot fl [] (fun x hx => by cases hx) p (by simpa using hp)) (by rw [List.reverse_reverse, nsp_join9]; simp [tailO])
  rw [List.reverse_reverse, nsp_join9] at h
  rw [e0, h]
  rfl

end Go.Proofs.YtafmoceinamcdaaGreat
