/- Put together by a program out of these texts of mine: GTree. -/
import Derived.Maps.AppendAt
import Derived.Test.YtlekfcehmlepkaaGreatDoorBunL5

namespace Go.Proofs.YtlekfcehmlepkaaGreatDoor
open Go.RowKit
set_option linter.unusedVariables false
set_option linter.unusedSimpArgs false

mutual
def Tn.plain : Tn → Pn
  | .mk k t n m a p d _ _ ks => .mk k t n m a p d (plains ks)
def plains : List Tn → List Pn
  | [] => []
  | t :: r => t.plain :: plains r
end

mutual
def Tn.blocks : Tn → List Nat
  | .mk _ _ _ _ _ _ _ ad _ ks => (match ad with | some x => [x.block] | none => []) ++ blocksL ks
def blocksL : List Tn → List Nat
  | [] => []
  | t :: r => t.blocks ++ blocksL r
end

theorem plains_append : ∀ (a b : List Tn), plains (a ++ b) = plains a ++ plains b
  | [], b => by simp [plains]
  | t :: r, b => by simp [plains, plains_append r b]

theorem plains_len : ∀ (a : List Tn), (plains a).length = a.length
  | [] => by simp [plains]
  | t :: r => by simp [plains, plains_len r]

theorem blocksL_mem : ∀ (l : List Tn) (i : Nat) (t : Tn), l[i]? = some t → ∀ b ∈ t.blocks, b ∈ blocksL l
  | [], i, t, h, _, _ => by simp at h
  | x :: l, 0, t, h, b, hb => by
    simp at h
    subst h
    simp [blocksL, hb]
  | x :: l, i + 1, t, h, b, hb => by
    have := blocksL_mem l i t (by simpa using h) b hb
    simp [blocksL, this]

theorem blocksL_all {l : List Tn} {P : Nat → Prop} (h : ∀ t ∈ l, ∀ b ∈ t.blocks, P b) : ∀ b ∈ blocksL l, P b := by
  induction l with
  | nil => intro b hb; simp [blocksL] at hb
  | cons t r ih =>
    intro b hb
    simp only [blocksL, List.mem_append] at hb
    rcases hb with hb | hb
    · exact h t (by simp) b hb
    · exact ih (fun u hu => h u (by simp [hu])) b hb

theorem TnOk.moved {w w' : World} {row : Option Nat} (hg : w.grownBy w' row) {t : Tn} (h : TnOk w t) : (∀ b ∈ t.blocks, row ≠ some b) → TnOk w' t := by
  induction h with
  | @mk kind text n m a pos doc ad cap kids hkind htext htl hn hm ha hpos hdoc hdl hkl hcap hnone hmem hkids ih =>
    intro hb
    refine .mk hkind htext htl hn hm ha hpos hdoc hdl hkl hcap hnone (fun hp => ?_) (fun i t hi => ih i t hi (fun b hbb => hb b ?_))
    · obtain ⟨b, off, h1, h2, h3⟩ := hmem hp
      subst h1
      have hne : row ≠ some b := hb b (by simp [Tn.blocks])
      refine ⟨b, off, rfl, Nat.lt_of_lt_of_le h2 hg.size, fun i t hi j u hj => ?_⟩
      have e : w'.cell? ⟨b, off + i * 8 + j, none⟩ = w.cell? ⟨b, off + i * 8 + j, none⟩ := World.cell?_of_block (hg.block b h2 (fun e => hne e.symm))
      exact e.trans (h3 i t hi j u hj)
    · have := blocksL_mem kids i t hi b hbb
      simp [Tn.blocks, this]

def Ns (w : World) (base : Nat) (v : Value) (ts : List Tn) : Prop :=
  w.ownsRow base 28 8 v ts.length (ts.flatMap Tn.cells) ∧ ∀ t ∈ ts, TnOk w t ∧ ∀ b ∈ t.blocks, base ≤ b ∧ b < w.heap.size ∧ v.ownBlock ≠ some b

theorem Ns.nil (w : World) (base : Nat) : Ns w base (.slice none 0 0) [] := ⟨World.ownsRow_nil _ _ _ _, by simp⟩

theorem Ns.grown {w w' : World} {base : Nat} {v : Value} {ts : List Tn} {row : Option Nat} (h : Ns w base v ts) (hg : w.grownBy w' row) (hr : ∀ r, row = some r → r < base) : Ns w' base v ts := by
  refine ⟨h.1.kept hg ?_, fun t ht => ?_⟩
  · cases hv : v.ownBlock with
    | none => left; rfl
    | some b =>
      right
      intro e
      have := (h.1.lt b hv).1
      have := hr b e.symm
      omega
  · obtain ⟨h1, h2⟩ := h.2 t ht
    refine ⟨h1.moved hg (fun b hb e => ?_), fun b hb => ?_⟩
    · have := (h2 b hb).1
      have := hr b e
      omega
    · obtain ⟨a1, a2, a3⟩ := h2 b hb
      exact ⟨a1, Nat.lt_of_lt_of_le a2 hg.size, a3⟩

theorem cells8 (t : Tn) : t.cells.length = 8 := by obtain ⟨_, _, _, _, _, _, _, _, _, _⟩ := t; rfl

theorem flat8_len : ∀ (ts : List Tn), (ts.flatMap Tn.cells).length = ts.length * 8
  | [] => by simp
  | t :: r => by simp [flat8_len r, cells8 t]; omega

theorem Tryz.infoNode : (Tryz.prog.info? 28).map (fun i => (i.zero, i.size, i.bytes)) = some (some (.agg #[.int .i64 0, .string { data := #[] }, .int .i64 0, .int .i64 0, .int .i64 0, .int .i64 0, .string { data := #[] }, .slice none 0 0]), 8, 96) := by kernel_rfl

theorem Ns.push {w w' : World} {base : Nat} {v v' : Value} {ts : List Tn} {t : Tn} (h : Ns w base v ts) (ht : TnOk w t) (hb : ∀ b ∈ t.blocks, base ≤ b ∧ b < w.heap.size ∧ v.ownBlock ≠ some b)
    (hown : w'.ownsRow base 28 8 v' (ts.length + 1) (ts.flatMap Tn.cells ++ t.cells)) (hg : w.grownBy w' v.ownBlock) (hat : v'.ownBlock = v.ownBlock ∨ v'.ownBlock = some w.heap.size) : Ns w' base v' (ts ++ [t]) := by
  refine ⟨by simpa using hown, ?_⟩
  have one : ∀ u : Tn, TnOk w u → (∀ b ∈ u.blocks, base ≤ b ∧ b < w.heap.size ∧ v.ownBlock ≠ some b) → TnOk w' u ∧ ∀ b ∈ u.blocks, base ≤ b ∧ b < w'.heap.size ∧ v'.ownBlock ≠ some b := by
    intro u hu hub
    refine ⟨hu.moved hg (fun b hbb => (hub b hbb).2.2), fun b hbb => ?_⟩
    obtain ⟨a1, a2, a3⟩ := hub b hbb
    refine ⟨a1, Nat.lt_of_lt_of_le a2 hg.size, ?_⟩
    rcases hat with e | e
    · rw [e]; exact a3
    · rw [e]
      intro e2
      simp only [Option.some.injEq] at e2
      omega
  intro u hu
  rcases List.mem_append.1 hu with hu | hu
  · exact one u (h.2 u hu).1 (h.2 u hu).2
  · simp only [List.mem_cons, List.not_mem_nil, or_false] at hu
    subst hu
    exact one _ ht hb

end Go.Proofs.YtlekfcehmlepkaaGreatDoor
