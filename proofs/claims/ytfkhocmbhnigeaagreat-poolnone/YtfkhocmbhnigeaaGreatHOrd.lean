/- The order of files that are asked, as a plain function, and what it keeps. -/
import Derived.Test.YtfkhocmbhnigeaaGreatHMath
namespace Go.Proofs.YtfkhocmbhnigeaaGreat
set_option linter.unusedVariables false
set_option linter.unusedSimpArgs false

/-- What is there, what is on the way, the first error. -/
structure Hs where
  out : List ByteArray
  way : List ByteArray
  path : ByteArray
  e : Int

/-- Whether a text stands twice. -/
def hdupA : List ByteArray → List ByteArray → Bool
  | _, [] => false
  | pre, d :: r => hin pre d || hdupA (pre ++ [d]) r

def hdup (l : List ByteArray) : Bool := hdupA [] l

/-- A path and what it imports. -/
def hcome (l : List Un) : Nat → ByteArray → Hs → Hs
  | 0, _, s => s
  | f + 1, p, s =>
    if s.e ≠ 0 ∨ hin s.out p = true then s
    else if hin s.way p = true then { s with path := p, e := 101 }
    else match hunit l p with
      | none => { s with path := p, e := 100 }
      | some u =>
        if hdup u.deps = true then { s with path := p, e := 102 }
        else
          let s2 := u.deps.foldl (fun s d => hcome l f d s) { s with way := s.way ++ [p] }
          if s2.e = 0 then { out := s2.out ++ [p], way := s.way, path := s2.path, e := s2.e } else { s2 with way := s.way }

def hs0 : Hs := ⟨[], [], ⟨#[]⟩, 0⟩

def hrun (l : List Un) (asked : List ByteArray) : Hs := asked.foldl (fun s p => hcome l (l.length + 1) p s) hs0

/-- The order, a path, the error's number. -/
def hord (l : List Un) (asked : List ByteArray) : List ByteArray × ByteArray × Int :=
  if (hrun l asked).e = 0 then ((hrun l asked).out, ⟨#[]⟩, 0) else ([], (hrun l asked).path, (hrun l asked).e)

theorem nodup_le : ∀ (a b : List ByteArray), a.Nodup → (∀ x ∈ a, x ∈ b) → a.length ≤ b.length
  | [], b, _, _ => by simp
  | x :: a, b, hn, hs => by
    have h1 := List.pairwise_cons.1 hn
    have hx : x ∈ b := hs x (by simp)
    obtain ⟨b1, b2, rfl⟩ := List.append_of_mem hx
    have ih := nodup_le a (b1 ++ b2) h1.2 (fun y hy => by
      have h2 := hs y (by simp [hy])
      have hne : y ≠ x := fun e => h1.1 y hy e.symm
      simp only [List.mem_append, List.mem_cons] at h2 ⊢
      rcases h2 with h2 | h2 | h2
      · exact .inl h2
      · exact absurd h2 hne
      · exact .inr h2)
    simp only [List.length_append, List.length_cons] at ih ⊢
    omega

theorem nodup_len {a b : List ByteArray} (ha : a.Nodup) (hb : b.Nodup) (h : ∀ x, x ∈ a ↔ x ∈ b) : a.length = b.length :=
  Nat.le_antisymm (nodup_le a b ha (fun x hx => (h x).1 hx)) (nodup_le b a hb (fun x hx => (h x).2 hx))

/-- What is on the way is of files, each once. -/
def WayOk (l : List Un) (way : List ByteArray) : Prop := way.Nodup ∧ ∀ x ∈ way, ∃ u, hunit l x = some u

theorem WayOk.le {l : List Un} {way : List ByteArray} (h : WayOk l way) : way.length ≤ l.length := by
  have := nodup_le way (l.map Un.path) h.1 (fun x hx => by
    obtain ⟨u, hu⟩ := h.2 x hx
    obtain ⟨h1, h2⟩ := hunit_some hu
    exact List.mem_map.2 ⟨u, h1, h2⟩)
  simpa using this

theorem WayOk.push {l : List Un} {way : List ByteArray} {p : ByteArray} {u : Un} (h : WayOk l way) (hp : p ∉ way) (hu : hunit l p = some u) : WayOk l (way ++ [p]) := by
  refine ⟨?_, fun x hx => ?_⟩
  · rw [List.nodup_append]
    refine ⟨h.1, by simp, fun a ha b hb => ?_⟩
    simp only [List.mem_cons, List.not_mem_nil, or_false] at hb
    subst hb
    exact fun e => hp (e ▸ ha)
  · rcases List.mem_append.1 hx with hx | hx
    · exact h.2 x hx
    · simp only [List.mem_cons, List.not_mem_nil, or_false] at hx
      subst hx
      exact ⟨u, hu⟩

/-- Files that stand in order: each behind all that it imports. -/
inductive Ordd (l : List Un) : List ByteArray → Prop
  | nil : Ordd l []
  | snoc {out : List ByteArray} {p : ByteArray} {u : Un} (h : Ordd l out) (hp : p ∉ out) (hu : hunit l p = some u) (hd : hdup u.deps = false) (hs : ∀ d ∈ u.deps, d ∈ out) : Ordd l (out ++ [p])

/-- What a step keeps. -/
structure Kept (l : List Un) (P : ByteArray → Prop) (s s' : Hs) : Prop where
  way : s'.way = s.way
  more : ∃ r, s'.out = s.out ++ r
  ord : Ordd l s.out → Ordd l s'.out
  reach : ∀ x ∈ s'.out, x ∈ s.out ∨ P x
  err : s'.e = 0 → s.e = 0
  noway : ∀ x ∈ s.way, x ∈ s'.out → x ∈ s.out

theorem Kept.refl (l : List Un) (P : ByteArray → Prop) (s : Hs) : Kept l P s s := ⟨rfl, ⟨[], by simp⟩, id, fun x h => .inl h, id, fun _ _ h => h⟩

theorem Kept.trans {l : List Un} {P : ByteArray → Prop} {s t u : Hs} (h : Kept l P s t) (g : Kept l P t u) : Kept l P s u := by
  refine ⟨g.way.trans h.way, ?_, fun hs => g.ord (h.ord hs), fun x hx => ?_, fun e => h.err (g.err e), fun x hx h2 => h.noway x hx (g.noway x (by rw [h.way]; exact hx) h2)⟩
  · obtain ⟨r1, e1⟩ := h.more
    obtain ⟨r2, e2⟩ := g.more
    exact ⟨r1 ++ r2, by rw [e2, e1, List.append_assoc]⟩
  · rcases g.reach x hx with h1 | h1
    · exact h.reach x h1
    · exact .inr h1

theorem Kept.imp {l : List Un} {P Q : ByteArray → Prop} {s t : Hs} (h : Kept l P s t) (hpq : ∀ x, P x → Q x) : Kept l Q s t :=
  ⟨h.way, h.more, h.ord, fun x hx => (h.reach x hx).imp id (hpq x), h.err, h.noway⟩

theorem hdeps_of {l : List Un} {p : ByteArray} {u : Un} (h : hunit l p = some u) : hdeps l p = u.deps := by unfold hdeps; rw [h]

/-- Paths one by one: what each keeps, all keep. -/
theorem fold_kept {l : List Un} {P : ByteArray → Prop} {g : Hs → ByteArray → Hs} : ∀ (ds : List ByteArray) (s : Hs), (∀ d ∈ ds, ∀ s', s'.way = s.way → Kept l P s' (g s' d) ∧ ((g s' d).e = 0 → d ∈ (g s' d).out)) →
    Kept l P s (ds.foldl g s) ∧ ((ds.foldl g s).e = 0 → ∀ d ∈ ds, d ∈ (ds.foldl g s).out)
  | [], s, _ => ⟨Kept.refl _ _ _, fun _ d h => by simp at h⟩
  | d :: ds, s, h => by
    have h1 := h d (by simp) s rfl
    have h2 := fold_kept ds (g s d) (fun d' hd' s' hs' => h d' (by simp [hd']) s' (hs'.trans h1.1.way))
    rw [List.foldl_cons]
    refine ⟨h1.1.trans h2.1, fun he d' hd' => ?_⟩
    rcases List.mem_cons.1 hd' with rfl | hd'
    · obtain ⟨r, hr⟩ := h2.1.more
      rw [hr]
      exact List.mem_append.2 (.inl (h1.2 (h2.1.err he)))
    · exact h2.2 he d' hd'

theorem rch_up {next : ByteArray → List ByteArray} {p d x : ByteArray} (hd : d ∈ next p) (h : Rch next [d] x) : Rch next [p] x := by
  refine h.least (P := fun x => Rch next [p] x) (fun y hy => ?_) (fun y hy z hz => .step hy hz)
  simp only [List.mem_cons, List.not_mem_nil, or_false] at hy
  subst hy
  exact .step (.seed (by simp)) hd

theorem hcome_kept {l : List Un} : ∀ (f : Nat) (p : ByteArray) (s : Hs), WayOk l s.way → l.length + 1 ≤ f + s.way.length →
    Kept l (Rch (hdeps l) [p]) s (hcome l f p s) ∧ ((hcome l f p s).e = 0 → p ∈ (hcome l f p s).out)
  | 0, p, s, hw, hf => by have := hw.le; omega
  | f + 1, p, s, hw, hf => by
    rw [hcome]
    by_cases h1 : s.e ≠ 0 ∨ hin s.out p = true
    · rw [if_pos h1]
      refine ⟨Kept.refl _ _ _, fun he => ?_⟩
      rcases h1 with h1 | h1
      · exact absurd he h1
      · exact (hin_iff _ _).1 h1
    · rw [if_neg h1]
      have he : s.e = 0 := by
        rcases Classical.em (s.e = 0) with h | h
        · exact h
        · exact absurd (.inl h) h1
      have hno : p ∉ s.out := fun h => h1 (.inr ((hin_iff _ _).2 h))
      by_cases h2 : hin s.way p = true
      · rw [if_pos h2]
        exact ⟨⟨rfl, ⟨[], by simp⟩, id, fun x h => .inl h, (fun h => by cases h), fun _ _ h => h⟩, fun h => by cases h⟩
      · rw [if_neg h2]
        have hpw : p ∉ s.way := (hin_not _ _).1 h2
        cases hu : hunit l p with
        | none => exact ⟨⟨rfl, ⟨[], by simp⟩, id, fun x h => .inl h, (fun h => by cases h), fun _ _ h => h⟩, fun h => by cases h⟩
        | some u =>
          simp only
          by_cases h3 : hdup u.deps = true
          · rw [if_pos h3]
            exact ⟨⟨rfl, ⟨[], by simp⟩, id, fun x h => .inl h, (fun h => by cases h), fun _ _ h => h⟩, fun h => by cases h⟩
          · rw [if_neg h3]
            have hfold := fold_kept (l := l) (P := Rch (hdeps l) [p]) (g := fun s d => hcome l f d s) u.deps { s with way := s.way ++ [p] } (fun d hd s' hs' => by
              have hw' : WayOk l s'.way := by rw [hs']; exact hw.push hpw hu
              have := hcome_kept f d s' hw' (by rw [hs']; simp; omega)
              exact ⟨this.1.imp (fun x hx => rch_up (by rw [hdeps_of hu]; exact hd) hx), this.2⟩)
            generalize hs2 : u.deps.foldl (fun s d => hcome l f d s) { s with way := s.way ++ [p] } = s2 at hfold
            obtain ⟨hk, hm⟩ := hfold
            by_cases h4 : s2.e = 0
            · rw [if_pos h4]
              refine ⟨⟨rfl, ?_, fun ho => ?_, fun x hx => ?_, fun _ => he, fun x hx h2 => ?_⟩, fun _ => by simp⟩
              · obtain ⟨r, hr⟩ := hk.more
                exact ⟨r ++ [p], by simp only; rw [hr, List.append_assoc]⟩
              · by_cases hp2 : p ∈ s2.out
                · exact absurd (hk.noway p (by simp) hp2) hno
                · exact .snoc (hk.ord ho) hp2 hu (by simpa using h3) (hm h4)
              · rcases List.mem_append.1 hx with hx | hx
                · exact hk.reach x hx
                · simp only [List.mem_cons, List.not_mem_nil, or_false] at hx
                  subst hx
                  exact .inr (.seed (by simp))
              · rcases List.mem_append.1 h2 with h2 | h2
                · exact hk.noway x (by simp [hx]) h2
                · simp only [List.mem_cons, List.not_mem_nil, or_false] at h2
                  subst h2
                  exact absurd hx hpw
            · rw [if_neg h4]
              exact ⟨⟨rfl, hk.more, hk.ord, hk.reach, fun h => absurd h h4, fun x hx h2 => hk.noway x (by simp [hx]) h2⟩, fun h => absurd h h4⟩

theorem hrun_kept (l : List Un) (asked : List ByteArray) : (hrun l asked).way = [] ∧ Ordd l (hrun l asked).out ∧ (∀ x ∈ (hrun l asked).out, ∃ p ∈ asked, Rch (hdeps l) [p] x) ∧ ((hrun l asked).e = 0 → ∀ p ∈ asked, p ∈ (hrun l asked).out) := by
  have h := fold_kept (l := l) (P := fun x => ∃ p ∈ asked, Rch (hdeps l) [p] x) (g := fun s p => hcome l (l.length + 1) p s) asked hs0 (fun d hd s' hs' => by
    have := hcome_kept (l := l) (l.length + 1) d s' (by rw [hs']; exact ⟨List.nodup_nil, fun x hx => by simp [hs0] at hx⟩) (by omega)
    exact ⟨this.1.imp (fun x hx => ⟨d, hd, hx⟩), this.2⟩)
  refine ⟨h.1.way, h.1.ord .nil, fun x hx => ?_, h.2⟩
  rcases h.1.reach x hx with h2 | h2
  · simp [hs0] at h2
  · exact h2

theorem Ordd.nodup {l : List Un} {out : List ByteArray} (h : Ordd l out) : out.Nodup := by
  induction h with
  | nil => simp
  | @snoc out p u h hp hu hd hs ih =>
    rw [List.nodup_append]
    refine ⟨ih, by simp, fun a ha b hb => ?_⟩
    simp only [List.mem_cons, List.not_mem_nil, or_false] at hb
    subst hb
    exact fun e => hp (e ▸ ha)

theorem Ordd.closed {l : List Un} {out : List ByteArray} (h : Ordd l out) : ∀ x ∈ out, ∀ y ∈ hdeps l x, y ∈ out := by
  induction h with
  | nil => intro x hx; simp at hx
  | @snoc out p u h hp hu hd hs ih =>
    intro x hx y hy
    rcases List.mem_append.1 hx with hx | hx
    · exact List.mem_append.2 (.inl (ih x hx y hy))
    · simp only [List.mem_cons, List.not_mem_nil, or_false] at hx
      subst hx
      rw [hdeps_of hu] at hy
      exact List.mem_append.2 (.inl (hs y hy))

/-- What stands at a place: its unit, and all that it imports ahead of it. -/
theorem Ordd.at {l : List Un} {out : List ByteArray} (h : Ordd l out) : ∀ (i : Nat) (p : ByteArray), out[i]? = some p → ∃ u, hunit l p = some u ∧ hdup u.deps = false ∧ ∀ d ∈ u.deps, d ∈ out.take i := by
  induction h with
  | nil => intro i p h; simp at h
  | @snoc out p u h hp hu hd hs ih =>
    intro i x hi
    rcases Nat.lt_or_ge i out.length with hlt | hge
    · rw [List.getElem?_append_left hlt] at hi
      obtain ⟨u', h1, h2, h3⟩ := ih i x hi
      refine ⟨u', h1, h2, fun d hd => ?_⟩
      rw [List.take_append_of_le_length (by omega)]
      exact h3 d hd
    · rw [List.getElem?_append_right hge] at hi
      have hi0 : i - out.length = 0 := by
        rcases Nat.eq_zero_or_pos (i - out.length) with h0 | h0
        · exact h0
        · rw [List.getElem?_eq_none (by simp; omega)] at hi; cases hi
      rw [hi0] at hi
      simp at hi
      subst hi
      refine ⟨u, hu, hd, fun d hdd => ?_⟩
      have : i = out.length := by omega
      subst this
      simp [hs d hdd]

/-- With no error: just what the asked ones come to. -/
theorem hord_mem {l : List Un} {asked : List ByteArray} (h : (hrun l asked).e = 0) (x : ByteArray) : x ∈ (hrun l asked).out ↔ ∃ p ∈ asked, Rch (hdeps l) [p] x := by
  obtain ⟨_, h2, h3, h4⟩ := hrun_kept l asked
  refine ⟨h3 x, fun ⟨p, hp, hr⟩ => ?_⟩
  refine hr.least (P := fun x => x ∈ (hrun l asked).out) (fun y hy => ?_) (fun y hy z hz => h2.closed y hy z hz)
  simp only [List.mem_cons, List.not_mem_nil, or_false] at hy
  subst hy
  exact h4 h y hp

/-- The closures of all that is asked, put together. -/
def hwant (l : List Un) (asked : List ByteArray) : List ByteArray := asked.foldl (fun w s => (hclo l s).foldl hput w) []

theorem foldl_put : ∀ (xs w : List ByteArray), Ris w → Ris (xs.foldl hput w) ∧ ∀ x, x ∈ xs.foldl hput w ↔ x ∈ w ∨ x ∈ xs
  | [], w, h => ⟨h, fun x => by simp⟩
  | y :: xs, w, h => by
    have ih := foldl_put xs (hput w y) (hput_ris _ _ h)
    rw [List.foldl_cons]
    refine ⟨ih.1, fun x => ?_⟩
    rw [ih.2, hput_mem, List.mem_cons]
    constructor
    · rintro ((h | h) | h)
      · exact .inr (.inl h)
      · exact .inl h
      · exact .inr (.inr h)
    · rintro (h | h | h)
      · exact .inl (.inr h)
      · exact .inl (.inl h)
      · exact .inr h

theorem hwant_spec (l : List Un) : ∀ (asked w : List ByteArray), Ris w → Ris (asked.foldl (fun w s => (hclo l s).foldl hput w) w) ∧ ∀ x, x ∈ asked.foldl (fun w s => (hclo l s).foldl hput w) w ↔ x ∈ w ∨ ∃ p ∈ asked, x ∈ hclo l p
  | [], w, h => ⟨h, fun x => by simp⟩
  | y :: xs, w, h => by
    have h1 := foldl_put (hclo l y) w h
    have ih := hwant_spec l xs _ h1.1
    rw [List.foldl_cons]
    refine ⟨ih.1, fun x => ?_⟩
    rw [ih.2, h1.2]
    constructor
    · rintro ((h | h) | ⟨p, hp, h⟩)
      · exact .inl h
      · exact .inr ⟨y, by simp, h⟩
      · exact .inr ⟨p, by simp [hp], h⟩
    · rintro (h | ⟨p, hp, h⟩)
      · exact .inl (.inl h)
      · rcases List.mem_cons.1 hp with rfl | hp
        · exact .inl (.inr h)
        · exact .inr ⟨p, hp, h⟩

theorem hwant_mem {l : List Un} {asked : List ByteArray} (h : (hrun l asked).e = 0) : (∀ x, x ∈ (hrun l asked).out ↔ x ∈ hwant l asked) ∧ (hrun l asked).out.length = (hwant l asked).length := by
  have hs := hwant_spec l asked [] (by simp [Ris])
  obtain ⟨_, h2, _, h4⟩ := hrun_kept l asked
  have hm : ∀ x, x ∈ (hrun l asked).out ↔ x ∈ hwant l asked := by
    intro x
    rw [hord_mem h]
    unfold hwant
    rw [hs.2]
    simp only [List.not_mem_nil, false_or]
    refine exists_congr fun p => and_congr_right fun hp => ?_
    obtain ⟨i, hi⟩ := List.getElem?_of_mem (h4 h p hp)
    obtain ⟨u, hu, _⟩ := h2.at i p hi
    exact ((hclo_spec hu).2 x).symm
  exact ⟨hm, nodup_len h2.nodup (ris_nodup hs.1) hm⟩

/-- Files that stand in order are in order already. -/
theorem hcome_again {l : List Un} (out : List ByteArray) (p : ByteArray) (u : Un) (pt : ByteArray) (hp : p ∉ out) (hu : hunit l p = some u) (hd : hdup u.deps = false) (hs : ∀ d ∈ u.deps, d ∈ out) (f : Nat) : hcome l (f + 1) p ⟨out, [], pt, 0⟩ = ⟨out ++ [p], [], pt, 0⟩ := by
  have key : ∀ (ds : List ByteArray), (∀ d ∈ ds, d ∈ out) → ds.foldl (fun s d => hcome l f d s) ⟨out, [p], pt, 0⟩ = ⟨out, [p], pt, 0⟩ := by
    intro ds
    induction ds with
    | nil => intro _; rfl
    | cons d ds ih =>
      intro h
      rw [List.foldl_cons]
      have e : hcome l f d ⟨out, [p], pt, 0⟩ = ⟨out, [p], pt, 0⟩ := by
        cases f with
        | zero => rfl
        | succ f => rw [hcome, if_pos (.inr ((hin_iff _ _).2 (h d (by simp))))]
      rw [e]
      exact ih (fun d hd => h d (by simp [hd]))
  rw [hcome, if_neg (by rintro (h | h); exact h rfl; exact hp ((hin_iff _ _).1 h)), if_neg (by simp [hin]), hu]
  simp only [hd, Bool.false_eq_true, if_false, List.nil_append]
  rw [key u.deps hs]
  simp

theorem hrun_again {l : List Un} {out : List ByteArray} (h : Ordd l out) : hrun l out = ⟨out, [], ⟨#[]⟩, 0⟩ := by
  unfold hrun
  induction h with
  | nil => rfl
  | @snoc out p u h hp hu hd hs ih =>
    rw [List.foldl_append, ih]
    exact hcome_again out p u _ hp hu hd hs l.length

theorem hord_again {l : List Un} {asked : List ByteArray} (h : (hrun l asked).e = 0) : hord l (hrun l asked).out = ((hrun l asked).out, ⟨#[]⟩, 0) := by
  unfold hord
  rw [hrun_again (hrun_kept l asked).2.1]
  simp

/-- A file comes to all that it sees. -/
theorem hvis_clo {l : List Un} {p : ByteArray} : (∀ x ∈ hvis l p, x ∈ hclo l p) ∧ ((hvis l p).length = 0 ↔ (hclo l p).length = 0) ∧ ((hvis l p).length ≠ 0 → p ∈ hvis l p) := by
  cases hu : hunit l p with
  | none =>
    rw [hvis_none hu, hclo_none hu]
    simp
  | some u =>
    have hv := hvis_spec hu
    have hc := hclo_spec hu
    have h1 : p ∈ hvis l p := (hv.2 p).2 (.inl rfl)
    have h2 : p ∈ hclo l p := (hc.2 p).2 (.seed (by simp))
    refine ⟨fun x hx => ?_, ?_, fun _ => h1⟩
    · rw [hc.2]
      rcases (hv.2 x).1 hx with rfl | hx
      · exact .seed (by simp)
      · refine hx.least (P := fun x => Rch (hdeps l) [p] x) (fun y hy => Rch.step (x := p) (.seed (by simp)) (by rw [hdeps_of hu]; exact hy)) (fun y hy z hz => .step hy ?_)
        unfold hpubs at hz
        unfold hdeps
        cases hy2 : hunit l y with
        | none => rw [hy2] at hz; cases hz
        | some v =>
          rw [hy2] at hz
          simp only [upubs, List.mem_map, List.mem_filter, decide_eq_true_eq] at hz ⊢
          obtain ⟨n, ⟨_, hn0, hn1⟩, rfl⟩ := hz
          rw [List.getD_eq_getElem?_getD, List.getElem?_eq_getElem (by omega)]
          simp
    · constructor
      · intro h
        rw [List.eq_nil_of_length_eq_zero h] at h1
        simp at h1
      · intro h
        rw [List.eq_nil_of_length_eq_zero h] at h2
        simp at h2

end Go.Proofs.YtfkhocmbhnigeaaGreat
