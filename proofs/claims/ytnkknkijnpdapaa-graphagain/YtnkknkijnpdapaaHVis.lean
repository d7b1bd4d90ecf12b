/- The reference's Visible. -/
import Derived.Test.YtnkknkijnpdapaaHPut
namespace Go.Proofs.Ytnkknkijnpdapaa
open Go.RowKit
set_option linter.unusedVariables false
set_option linter.unusedSimpArgs false

theorem exists_least {P : Nat → Prop} (h : ∃ n, P n) : ∃ n, P n ∧ ∀ m, P m → n ≤ m := by
  obtain ⟨n, hn⟩ := h
  induction n using Nat.strongRecOn with
  | _ n ih =>
    rcases Classical.em (∃ m, m < n ∧ P m) with ⟨m, hm, hp⟩ | h
    · exact ih m hm hp
    · exact ⟨n, hn, fun m hm => by
        rcases Nat.lt_or_ge m n with h' | h'
        · exact absurd ⟨m, h', hm⟩ h
        · exact h'⟩

open Classical in
noncomputable def leastOf (P : Nat → Prop) : Nat := if h : ∃ n, P n then Classical.choose (exists_least h) else 0

theorem leastOf_spec {P : Nat → Prop} (h : ∃ n, P n) : P (leastOf P) := by
  unfold leastOf
  rw [dif_pos h]
  exact (Classical.choose_spec (exists_least h)).1

theorem leastOf_le {P : Nat → Prop} {m : Nat} (h : P m) : leastOf P ≤ m := by
  unfold leastOf
  rw [dif_pos ⟨m, h⟩]
  exact (Classical.choose_spec (exists_least ⟨m, h⟩)).2 m h

theorem hput_len : ∀ (l : List ByteArray) (s : ByteArray), (hput l s).length ≤ l.length + 1
  | [], s => by simp [hput]
  | x :: r, s => by
    have := hput_len r s
    rw [hput]
    split
    · simp; omega
    · split <;> simp

/-- Rows that are not one. -/
def Ap (x y : Value) : Prop := x.ownBlock = none ∨ x.ownBlock ≠ y.ownBlock

theorem Ap.symm {x y : Value} (h : Ap x y) : Ap y x := by
  rcases h with h | h
  · cases hy : y.ownBlock with
    | none => left; exact hy
    | some k => right; rw [h, hy]; simp
  · exact .inr (Ne.symm h)

theorem Ap.fresh {x y : Value} {n : Nat} (hx : ∀ k, x.ownBlock = some k → k < n) (hy : y.ownBlock = some n ∨ ∃ k, n ≤ k ∧ y.ownBlock = some k) : Ap x y := by
  cases h : x.ownBlock with
  | none => exact .inl h
  | some k =>
    right
    have := hx k h
    rw [h]
    rcases hy with hy | ⟨j, hj, hy⟩
    · rw [hy]; intro e; simp at e; omega
    · rw [hy]; intro e; simp at e; omega

/-- Behind a step that may move y. -/
theorem Ap.step {x y y' : Value} {n : Nat} (h : Ap x y) (hx : ∀ k, x.ownBlock = some k → k < n) (hy : y'.ownBlock = y.ownBlock ∨ y'.ownBlock = some n) : Ap x y' := by
  rcases hy with hy | hy
  · unfold Ap; rw [hy]; exact h
  · exact Ap.fresh hx (.inl hy)

/-- The search in memory: what is there, what is to be looked at, what was. -/
structure Vm (W wr : World) (vo vq vd : Value) (out q done : List ByteArray) : Prop where
  out : Sw wr W.heap.size vo out
  que : Sq wr W.heap.size vq q
  don : Sw wr W.heap.size vd done
  a1 : Ap vo vq
  a2 : Ap vo vd
  a3 : Ap vq vd
  below : Below W.heap.size W wr

theorem Vm.under {W wr wr' : World} {vo vq vd : Value} {out q done : List ByteArray} (h : Vm W wr vo vq vd out q done) (hb : Below wr.heap.size wr wr') : Vm W wr' vo vq vd out q done :=
  ⟨h.out.below hb, h.que.below hb, h.don.below hb, h.a1, h.a2, h.a3, h.below.trans (hb.mono h.below.size)⟩

theorem Sw.own_lt {w : World} {base : Nat} {v : Value} {zs : List ByteArray} (h : Sw w base v zs) : ∀ k, v.ownBlock = some k → k < w.heap.size := fun k hk => (h.lt k hk).2

theorem Sw.form {w : World} {base : Nat} {a : Option Addr} {n c : Nat} {zs : List ByteArray} (h : Sw w base (.slice a n c) zs) : ∀ ad, a = some ad → ∃ b off, ad = ⟨b, off, none⟩ := by
  intro ad e
  subst e
  rcases h.2 with ⟨h1, _⟩ | ⟨g, cap, cur, h1, _⟩
  · cases h1
  · simp only [Value.slice.injEq, Option.some.injEq] at h1
    exact ⟨g, 0, h1.1⟩

/-- More to be looked at. -/
theorem Vm.addQ {W wr w3 : World} {vo vq vd vq' : Value} {out q done news : List ByteArray} (h : Vm W wr vo vq vd out q done) (hq : Sq w3 W.heap.size vq' (q ++ news)) (hg : wr.grownBy w3 vq.ownBlock) (hat : vq'.ownBlock = vq.ownBlock ∨ vq'.ownBlock = some wr.heap.size) : Vm W w3 vo vq' vd out (q ++ news) done :=
  ⟨World.ownsRow.kept h.out hg h.a1, hq, World.ownsRow.kept h.don hg h.a3.symm, h.a1.step h.out.own_lt hat, h.a2, (h.a3.symm.step h.don.own_lt hat).symm, h.below.grown hg h.below.size (fun k hk => (h.que.at hk).1)⟩

/-- One more that was looked at. -/
theorem Vm.addD {W wr w3 : World} {vo vq vd vd' : Value} {out q done : List ByteArray} {p : ByteArray} (h : Vm W wr vo vq vd out q done) (hd : Sw w3 W.heap.size vd' (done ++ [p])) (hg : wr.grownBy w3 vd.ownBlock) (hat : vd'.ownBlock = vd.ownBlock ∨ vd'.ownBlock = some wr.heap.size) : Vm W w3 vo vq vd' out q (done ++ [p]) :=
  ⟨World.ownsRow.kept h.out hg h.a2, h.que.kept hg h.a3, hd, h.a1, h.a2.step h.out.own_lt hat, h.a3.step (fun k hk => (h.que.at hk).2) hat, h.below.grown hg h.below.size (fun k hk => (h.don.lt k hk).1)⟩

/-- One more that is there, if it isn't. -/
theorem Vm.addO {W wr w3 : World} {vo vq vd vo' : Value} {out out' q done : List ByteArray} (h : Vm W wr vo vq vd out q done) (hb : Below wr.heap.size wr w3) (ho : (vo' = vo ∧ out' = out) ∨ Sw w3 wr.heap.size vo' out') : Vm W w3 vo' vq vd out' q done := by
  rcases ho with ⟨rfl, rfl⟩ | ho
  · exact h.under hb
  · have hfr : ∀ k, vo'.ownBlock = some k → wr.heap.size ≤ k := fun k hk => (ho.lt k hk).1
    have ap : ∀ x : Value, (∀ k, x.ownBlock = some k → k < wr.heap.size) → Ap vo' x := fun x hx => by
      cases hv : vo'.ownBlock with
      | none => exact .inl hv
      | some k => exact (Ap.fresh hx (.inr ⟨k, hfr k hv, hv⟩)).symm
    exact ⟨Sw.base ho h.below.size, h.que.below hb, h.don.below hb, ap vq (fun k hk => (h.que.at hk).2), ap vd h.don.own_lt, h.a3, h.below.trans (hb.mono h.below.size)⟩

/-- The first one is taken off. -/
theorem Vm.cutQ {W wr : World} {vo vd : Value} {a : Option Addr} {n cap : Nat} {out q done : List ByteArray} {p : ByteArray} (h : Vm W wr vo (.slice a n cap) vd out (p :: q) done) :
    ∃ g o, a = some ⟨g, o, none⟩ ∧ n = q.length + 1 ∧ g < wr.heap.size ∧ wr.cell? ⟨g, o, none⟩ = some (.string p) ∧ n ≤ cap ∧ cap ≤ maxLen ∧ Vm W wr vo (.slice (if cap = 1 then some ⟨g, o, none⟩ else some ⟨g, o + 1, none⟩) (n - 1) (cap - 1)) vd out q done := by
  obtain ⟨g, o, h1, h2, h3, h4, h5, h6, h7, h8⟩ := h.que.head
  subst h1 h2
  refine ⟨g, o, rfl, rfl, h3, h4, h5, h6, h.out, ?_, h.don, ?_, h.a2, ?_, h.below⟩
  · by_cases hc : cap = 1
    · rw [if_pos hc]
      obtain ⟨h9, h10⟩ := h8 hc
      subst h10 hc
      exact h9
    · rw [if_neg hc]
      exact h7
  · have := h.a1
    unfold Ap at *
    split <;> exact this
  · have := h.a3
    unfold Ap at *
    split <;> exact this

end Go.Proofs.Ytnkknkijnpdapaa
