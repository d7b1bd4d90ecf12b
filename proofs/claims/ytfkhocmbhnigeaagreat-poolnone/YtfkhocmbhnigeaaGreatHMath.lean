/- Imports of files as plain functions: lists that rise, what is come to, orders. -/
import Derived.Test.YtfkhocmbhnigeaaGreatBas
namespace Go.Proofs.YtfkhocmbhnigeaaGreat
set_option linter.unusedVariables false
set_option linter.unusedSimpArgs false

/-- A file's path, what it imports, which of these are public. -/
structure Un where
  path : ByteArray
  deps : List ByteArray
  pub : List Int

/-- The order of texts. -/
def slt (x y : ByteArray) : Bool := Op.bytesLess x.toList y.toList

theorem bytesLess_irrefl : ∀ (l : List UInt8), Op.bytesLess l l = false
  | [] => by simp [Op.bytesLess]
  | a :: l => by simp [Op.bytesLess, bytesLess_irrefl l]

theorem bytesLess_trans : ∀ (a b c : List UInt8), Op.bytesLess a b = true → Op.bytesLess b c = true → Op.bytesLess a c = true
  | [], [], c, h, _ => by simp [Op.bytesLess] at h
  | [], _ :: _, [], _, h => by simp [Op.bytesLess] at h
  | [], _ :: _, _ :: _, _, _ => by simp [Op.bytesLess]
  | _ :: _, [], _, h, _ => by simp [Op.bytesLess] at h
  | _ :: _, _ :: _, [], _, h => by simp [Op.bytesLess] at h
  | x :: a, y :: b, z :: c, h1, h2 => by
    simp only [Op.bytesLess, Bool.or_eq_true, Bool.and_eq_true, decide_eq_true_eq, beq_iff_eq] at h1 h2 ⊢
    rcases h1 with h1 | ⟨rfl, h1⟩
    · rcases h2 with h2 | ⟨rfl, h2⟩
      · exact .inl (UInt8.lt_trans h1 h2)
      · exact .inl h1
    · rcases h2 with h2 | ⟨rfl, h2⟩
      · exact .inl h2
      · exact .inr ⟨rfl, bytesLess_trans a b c h1 h2⟩

theorem bytesLess_tri : ∀ (a b : List UInt8), Op.bytesLess a b = false → Op.bytesLess b a = false → a = b
  | [], [], _, _ => rfl
  | [], _ :: _, h, _ => by simp [Op.bytesLess] at h
  | _ :: _, [], _, h => by simp [Op.bytesLess] at h
  | x :: a, y :: b, h1, h2 => by
    simp only [Op.bytesLess, Bool.or_eq_false_iff, Bool.and_eq_false_iff, decide_eq_false_iff_not, beq_eq_false_iff_ne] at h1 h2
    have hxy : x = y := by
      have a1 := UInt8.not_lt.1 h1.1
      have a2 := UInt8.not_lt.1 h2.1
      exact UInt8.le_antisymm a2 a1
    subst hxy
    have b1 : Op.bytesLess a b = false := by simpa using h1.2
    have b2 : Op.bytesLess b a = false := by simpa using h2.2
    rw [bytesLess_tri a b b1 b2]

theorem toList_inj {x y : ByteArray} (h : x.toList = y.toList) : x = y := by
  rw [ByteArray.toList_eq, ByteArray.toList_eq] at h
  cases x
  cases y
  simpa using h

theorem slt_irrefl (x : ByteArray) : slt x x = false := bytesLess_irrefl _

theorem slt_trans {x y z : ByteArray} (h1 : slt x y = true) (h2 : slt y z = true) : slt x z = true := bytesLess_trans _ _ _ h1 h2

theorem slt_tri {x y : ByteArray} (h1 : slt x y = false) (h2 : slt y x = false) : x = y := toList_inj (bytesLess_tri _ _ h1 h2)

/-- Whether a list has a text. -/
def hin (l : List ByteArray) (x : ByteArray) : Bool := l.any fun y => decide (y = x)

theorem hin_iff (l : List ByteArray) (x : ByteArray) : hin l x = true ↔ x ∈ l := by
  unfold hin
  simp

theorem hin_not (l : List ByteArray) (x : ByteArray) : ¬ hin l x = true ↔ x ∉ l := not_congr (hin_iff l x)

/-- A text into a rising list, once. -/
def hput : List ByteArray → ByteArray → List ByteArray
  | [], s => [s]
  | x :: r, s => if slt x s = true then x :: hput r s else if x = s then x :: r else s :: x :: r

/-- A list that rises. -/
def Ris (l : List ByteArray) : Prop := l.Pairwise fun a b => slt a b = true

theorem hput_mem : ∀ (l : List ByteArray) (s y : ByteArray), y ∈ hput l s ↔ y = s ∨ y ∈ l
  | [], s, y => by simp [hput]
  | x :: r, s, y => by
    rw [hput]
    split
    · rw [List.mem_cons, hput_mem r s y, List.mem_cons]
      constructor
      · rintro (h | h | h)
        · exact .inr (.inl h)
        · exact .inl h
        · exact .inr (.inr h)
      · rintro (h | h | h)
        · exact .inr (.inl h)
        · exact .inl h
        · exact .inr (.inr h)
    · split
      · rename_i h
        subst h
        simp
      · simp

theorem hput_ris : ∀ (l : List ByteArray) (s : ByteArray), Ris l → Ris (hput l s)
  | [], s, _ => by simp [hput, Ris]
  | x :: r, s, h => by
    have h1 := List.pairwise_cons.1 h
    rw [hput]
    split
    · rename_i hx
      refine List.pairwise_cons.2 ⟨fun y hy => ?_, hput_ris r s h1.2⟩
      rcases (hput_mem r s y).1 hy with rfl | hy
      · exact hx
      · exact h1.1 y hy
    · split
      · exact h
      · rename_i hx hne
        have hsx : slt s x = true := by
          cases hq : slt s x with
          | true => rfl
          | false => exact absurd (slt_tri (by simpa using hx) hq) hne
        refine List.pairwise_cons.2 ⟨fun y hy => ?_, h⟩
        rcases List.mem_cons.1 hy with rfl | hy
        · exact hsx
        · exact slt_trans hsx (h1.1 y hy)

/-- Two lists that rise and have the same texts are the same. -/
theorem ris_ext : ∀ (a b : List ByteArray), Ris a → Ris b → (∀ x, x ∈ a ↔ x ∈ b) → a = b
  | [], [], _, _, _ => rfl
  | [], y :: b, _, _, h => by have := (h y).2 (by simp); simp at this
  | x :: a, [], _, _, h => by have := (h x).1 (by simp); simp at this
  | x :: a, y :: b, ha, hb, h => by
    have h1 := List.pairwise_cons.1 ha
    have h2 := List.pairwise_cons.1 hb
    have hxy : x = y := by
      rcases List.mem_cons.1 ((h x).1 (by simp)) with e | e
      · exact e
      · rcases List.mem_cons.1 ((h y).2 (by simp)) with e2 | e2
        · exact e2.symm
        · have := slt_trans (h2.1 x e) (h1.1 y e2)
          rw [slt_irrefl] at this
          cases this
    subst hxy
    rw [ris_ext a b h1.2 h2.2 (fun z => ?_)]
    constructor
    · intro hz
      rcases List.mem_cons.1 ((h z).1 (by simp [hz])) with rfl | e
      · have := h1.1 z hz
        rw [slt_irrefl] at this
        cases this
      · exact e
    · intro hz
      rcases List.mem_cons.1 ((h z).2 (by simp [hz])) with rfl | e
      · have := h2.1 z hz
        rw [slt_irrefl] at this
        cases this
      · exact e

theorem ris_nodup {l : List ByteArray} (h : Ris l) : l.Nodup := by
  refine List.Pairwise.imp ?_ h
  intro a b hab e
  subst e
  rw [slt_irrefl] at hab
  cases hab

/-- What is come to from some texts on. -/
inductive Rch (next : ByteArray → List ByteArray) (S : List ByteArray) : ByteArray → Prop
  | seed {x : ByteArray} (h : x ∈ S) : Rch next S x
  | step {x y : ByteArray} (h : Rch next S x) (hy : y ∈ next x) : Rch next S y

theorem Rch.least {next : ByteArray → List ByteArray} {S : List ByteArray} {P : ByteArray → Prop} (h0 : ∀ x ∈ S, P x) (h1 : ∀ x, P x → ∀ y ∈ next x, P y) {x : ByteArray} (h : Rch next S x) : P x := by
  induction h with
  | seed h => exact h0 _ h
  | step h hy ih => exact h1 _ ih _ hy

/-- The unit of a path: the first one's place. -/
def hfind (l : List Un) (p : ByteArray) : Option Nat := l.findIdx? fun u => decide (u.path = p)

/-- What a path's unit is. -/
def hunit (l : List Un) (p : ByteArray) : Option Un := l.find? fun u => decide (u.path = p)

theorem hunit_find : ∀ (l : List Un) (p : ByteArray), hunit l p = (hfind l p).bind fun i => l[i]?
  | [], p => by simp [hunit, hfind]
  | u :: l, p => by
    have ih := hunit_find l p
    unfold hunit hfind at *
    rw [List.find?_cons, List.findIdx?_cons]
    by_cases h : u.path = p
    · simp [h]
    · simp only [h, decide_false, Bool.false_eq_true, if_false]
      rw [ih]
      cases List.findIdx? (fun u => decide (u.path = p)) l <;> simp

/-- What a file imports. -/
def hdeps (l : List Un) (p : ByteArray) : List ByteArray := match hunit l p with | some u => u.deps | none => []

/-- .. and what of that is public. -/
def upubs (u : Un) : List ByteArray := (u.pub.filter fun n : Int => decide (0 ≤ n ∧ n < (u.deps.length : Int))).map fun n : Int => u.deps.getD n.toNat default

def hpubs (l : List Un) (p : ByteArray) : List ByteArray := match hunit l p with | some u => upubs u | none => []

/-- The files that are come to, one by one: what is still to be looked at, what was, what there is. -/
def hbfs (next : ByteArray → List ByteArray) (upd : List ByteArray → ByteArray → List ByteArray) : Nat → List ByteArray → List ByteArray → List ByteArray → List ByteArray
  | 0, _, _, out => out
  | _ + 1, [], _, out => out
  | f + 1, p :: q, done, out => if hin done p = true then hbfs next upd f q done out else hbfs next upd f (q ++ next p) (upd done p) (hput out p)

/-- What is left to be done, at most. -/
def hpot (next : ByteArray → List ByteArray) (l : List Un) (done : List ByteArray) : Nat := (l.map fun u => if hin done u.path = true then 0 else (next u.path).length).sum

theorem hpot_less (next : ByteArray → List ByteArray) (done done' : List ByteArray) (p : ByteArray) (hd : ∀ x, x ∈ done' ↔ x = p ∨ x ∈ done) (hp : p ∉ done) : ∀ (l : List Un), ((∃ u ∈ l, u.path = p) ∨ next p = []) → hpot next l done' + (next p).length ≤ hpot next l done
  | [], h => by
    rcases h with ⟨u, hu, _⟩ | h
    · cases hu
    · simp [hpot, h]
  | u :: l, h => by
    have hmono : ∀ (l : List Un), hpot next l done' ≤ hpot next l done := by
      intro l
      induction l with
      | nil => simp [hpot]
      | cons u l ih =>
        unfold hpot at *
        simp only [List.map_cons, List.sum_cons]
        have : (if hin done' u.path = true then 0 else (next u.path).length) ≤ (if hin done u.path = true then 0 else (next u.path).length) := by
          by_cases h1 : u.path ∈ done
          · rw [if_pos ((hin_iff _ _).2 h1), if_pos ((hin_iff _ _).2 ((hd _).2 (.inr h1)))]; omega
          · rw [if_neg ((hin_not _ _).2 h1)]; split <;> omega
        omega
    by_cases hu : u.path = p
    · have := hmono l
      unfold hpot at *
      simp only [List.map_cons, List.sum_cons]
      rw [if_pos ((hin_iff _ _).2 ((hd _).2 (.inl hu))), if_neg ((hin_not _ _).2 (by rw [hu]; exact hp)), hu]
      omega
    · have ih := hpot_less next done done' p hd hp l (by
        rcases h with ⟨v, hv, hvp⟩ | h
        · rcases List.mem_cons.1 hv with rfl | hv
          · exact absurd hvp hu
          · exact .inl ⟨v, hv, hvp⟩
        · exact .inr h)
      have := hmono [u]
      unfold hpot at *
      simp only [List.map_cons, List.sum_cons, List.map_nil, List.sum_nil] at *
      omega

/-- What has no unit leads nowhere. -/
def Lead (next : ByteArray → List ByteArray) (l : List Un) : Prop := ∀ p, (∃ u ∈ l, u.path = p) ∨ next p = []

theorem hunit_some {l : List Un} {p : ByteArray} {u : Un} (h : hunit l p = some u) : u ∈ l ∧ u.path = p := by
  have h1 := List.find?_some h
  exact ⟨List.mem_of_find?_eq_some h, by simpa using h1⟩

theorem hunit_none {l : List Un} {p : ByteArray} (h : hunit l p = none) : ∀ u ∈ l, u.path ≠ p := by
  intro u hu
  have := List.find?_eq_none.1 h u hu
  simpa using this

theorem lead_deps (l : List Un) : Lead (hdeps l) l := by
  intro p
  unfold hdeps
  cases h : hunit l p with
  | none => right; rfl
  | some u => left; exact ⟨u, (hunit_some h).1, (hunit_some h).2⟩

theorem lead_pubs (l : List Un) : Lead (hpubs l) l := by
  intro p
  unfold hpubs
  cases h : hunit l p with
  | none => right; rfl
  | some u => left; exact ⟨u, (hunit_some h).1, (hunit_some h).2⟩

/-- All that the search answers: what was there, and what is come to. -/
theorem hbfs_spec {next : ByteArray → List ByteArray} {upd : List ByteArray → ByteArray → List ByteArray} {l : List Un} (hu : ∀ d p x, x ∈ upd d p ↔ x = p ∨ x ∈ d) (hl : Lead next l) (S : List ByteArray) (O : List ByteArray) :
    ∀ (f : Nat) (q done out : List ByteArray), q.length + hpot next l done ≤ f → Ris out → (∀ x, x ∈ out ↔ x ∈ O ∨ x ∈ done) → (∀ x ∈ S, x ∈ done ∨ x ∈ q) → (∀ x ∈ done, ∀ y ∈ next x, y ∈ done ∨ y ∈ q) → (∀ x, x ∈ done ∨ x ∈ q → Rch next S x) →
      Ris (hbfs next upd f q done out) ∧ ∀ x, x ∈ hbfs next upd f q done out ↔ x ∈ O ∨ Rch next S x
  | f, [], done, out, hf, hr, ho, h1, h2, h3 => by
    have e : hbfs next upd f [] done out = out := by cases f <;> rfl
    rw [e]
    refine ⟨hr, fun x => (ho x).trans ⟨fun h => h.imp id (fun h => h3 x (.inl h)), fun h => h.imp id (fun h => ?_)⟩⟩
    exact h.least (P := fun x => x ∈ done) (fun x hx => by simpa using h1 x hx) (fun x hx y hy => by simpa using h2 x hx y hy)
  | 0, p :: q, done, out, hf, _, _, _, _, _ => by simp at hf
  | f + 1, p :: q, done, out, hf, hr, ho, h1, h2, h3 => by
    rw [hbfs]
    by_cases hp : p ∈ done
    · rw [if_pos ((hin_iff _ _).2 hp)]
      have mv : ∀ x, x ∈ done ∨ x ∈ p :: q → x ∈ done ∨ x ∈ q := by
        rintro x (h | h)
        · exact .inl h
        · rcases List.mem_cons.1 h with rfl | h
          · exact .inl hp
          · exact .inr h
      refine hbfs_spec hu hl S O f q done out (by simp at hf; omega) hr ho (fun x hx => mv x (h1 x hx)) (fun x hx y hy => mv y (h2 x hx y hy)) (fun x hx => h3 x (hx.imp id (fun h => by simp [h])))
    · rw [if_neg ((hin_not _ _).2 hp)]
      have hpot := hpot_less next done (upd done p) p (fun x => hu _ _ _) hp l (hl p)
      refine hbfs_spec hu hl S O f (q ++ next p) (upd done p) (hput out p) (by simp at hf ⊢; omega) (hput_ris _ _ hr) ?_ ?_ ?_ ?_
      · intro x
        rw [hput_mem, ho, hu]
        constructor
        · rintro (h | h | h)
          · exact .inr (.inl h)
          · exact .inl h
          · exact .inr (.inr h)
        · rintro (h | h | h)
          · exact .inr (.inl h)
          · exact .inl h
          · exact .inr (.inr h)
      · intro x hx
        rw [hu, List.mem_append]
        rcases h1 x hx with h | h
        · exact .inl (.inr h)
        · rcases List.mem_cons.1 h with rfl | h
          · exact .inl (.inl rfl)
          · exact .inr (.inl h)
      · intro x hx y hy
        rw [hu, List.mem_append]
        rcases (hu _ _ _).1 hx with rfl | hx
        · exact .inr (.inr hy)
        · rcases h2 x hx y hy with h | h
          · exact .inl (.inr h)
          · rcases List.mem_cons.1 h with rfl | h
            · exact .inl (.inl rfl)
            · exact .inr (.inl h)
      · intro x hx
        rw [hu, List.mem_append] at hx
        have hpr : Rch next S p := h3 p (.inr (by simp))
        rcases hx with (rfl | h) | h | h
        · exact hpr
        · exact h3 x (.inl h)
        · exact h3 x (.inr (by simp [h]))
        · exact .step hpr h

/-- What a file sees. -/
def hvis (l : List Un) (p : ByteArray) : List ByteArray :=
  match hunit l p with
  | none => []
  | some u => hbfs (hpubs l) (fun d x => d ++ [x]) (u.deps.length + hpot (hpubs l) l []) u.deps [] [p]

/-- What a file comes to. -/
def hclo (l : List Un) (p : ByteArray) : List ByteArray :=
  match hunit l p with
  | none => []
  | some _ => hbfs (hdeps l) hput (1 + hpot (hdeps l) l []) [p] [] []

theorem hvis_spec {l : List Un} {p : ByteArray} {u : Un} (h : hunit l p = some u) : Ris (hvis l p) ∧ ∀ x, x ∈ hvis l p ↔ x = p ∨ Rch (hpubs l) u.deps x := by
  unfold hvis
  rw [h]
  have := hbfs_spec (next := hpubs l) (upd := fun d x => d ++ [x]) (l := l) (fun d p x => by simp [or_comm]) (lead_pubs l) u.deps [p] _ u.deps [] [p] (Nat.le_refl _) (by simp [Ris]) (fun x => by simp) (fun x hx => .inr hx) (fun x hx => by simp at hx) (fun x hx => .seed (by simpa using hx))
  simpa using this

theorem hclo_spec {l : List Un} {p : ByteArray} {u : Un} (h : hunit l p = some u) : Ris (hclo l p) ∧ ∀ x, x ∈ hclo l p ↔ Rch (hdeps l) [p] x := by
  unfold hclo
  rw [h]
  have := hbfs_spec (next := hdeps l) (upd := hput) (l := l) (fun d p x => hput_mem d p x) (lead_deps l) [p] [] (1 + hpot (hdeps l) l []) [p] [] [] (by simp) (by simp [Ris]) (fun x => by simp) (fun x hx => .inr hx) (fun x hx => by simp at hx) (fun x hx => .seed (by simpa using hx))
  simpa using this

theorem hvis_none {l : List Un} {p : ByteArray} (h : hunit l p = none) : hvis l p = [] := by unfold hvis; rw [h]

theorem hclo_none {l : List Un} {p : ByteArray} (h : hunit l p = none) : hclo l p = [] := by unfold hclo; rw [h]

end Go.Proofs.YtfkhocmbhnigeaaGreat
