/- What the program's reach has in memory; what is met on and on, as plain lists. -/
import Derived.Test.YtnkknkijnpdapaaJLay0
import Derived.Laws.EntriesVeiled
import Derived.Maps.Range
namespace Go.Proofs.Ytnkknkijnpdapaa
open Go.RowKit
set_option linter.unusedVariables false
set_option linter.unusedSimpArgs false

theorem zeroNo (w : World) : (zeroValue 66).run Try.prog w = .ok (.agg #[]) w := by kernel_rfl

/-- What is met from some texts on, given what was: nothing is lost, what is new leads on to such as are met. -/
structure Dfs (next : ByteArray → List ByteArray) (zs S S' : List ByteArray) : Prop where
  keep : ∀ x ∈ S, x ∈ S'
  met : ∀ z ∈ zs, z ∈ S'
  shut : ∀ x ∈ S', x ∉ S → ∀ y ∈ next x, y ∈ S'
  from_ : ∀ x ∈ S', x ∈ S ∨ Rch next zs x

theorem Dfs.nil (next : ByteArray → List ByteArray) (S : List ByteArray) : Dfs next [] S S := ⟨fun _ h => h, fun _ h => by simp at h, fun x h h2 => absurd h h2, fun x h => .inl h⟩

theorem Rch.mono {next : ByteArray → List ByteArray} {S T : List ByteArray} (h : ∀ x ∈ S, Rch next T x) {x : ByteArray} (hx : Rch next S x) : Rch next T x :=
  hx.least (P := fun x => Rch next T x) h (fun x hx y hy => .step hx hy)

theorem Dfs.old {next : ByteArray → List ByteArray} {zs S S' : List ByteArray} {z : ByteArray} (h : Dfs next zs S S') (hz : z ∈ S') : Dfs next (zs ++ [z]) S S' :=
  ⟨h.keep, fun x hx => by
    rcases List.mem_append.1 hx with hx | hx
    · exact h.met x hx
    · simp at hx; subst hx; exact hz, h.shut, fun x hx => (h.from_ x hx).imp id (fun r => r.mono (fun y hy => .seed (by simp [hy])))⟩

theorem Dfs.new {next : ByteArray → List ByteArray} {zs S S' S2 : List ByteArray} {z : ByteArray} (h : Dfs next zs S S') (hz : z ∉ S') (h2 : Dfs next (next z) (S' ++ [z]) S2) : Dfs next (zs ++ [z]) S S2 := by
  have hz2 : z ∈ S2 := h2.keep z (by simp)
  refine ⟨fun x hx => h2.keep x (by simp [h.keep x hx]), fun x hx => ?_, fun x hx hxs y hy => ?_, fun x hx => ?_⟩
  · rcases List.mem_append.1 hx with hx | hx
    · exact h2.keep x (by simp [h.met x hx])
    · simp at hx; subst hx; exact hz2
  · by_cases h3 : x ∈ S'
    · exact h2.keep y (by simp [h.shut x h3 hxs y hy])
    · by_cases h4 : x = z
      · subst h4; exact h2.met y hy
      · exact h2.shut x hx (by simp [h3, h4]) y hy
  · rcases h2.from_ x hx with h3 | h3
    · rcases List.mem_append.1 h3 with h3 | h3
      · exact (h.from_ x h3).imp id (fun r => r.mono (fun y hy => .seed (by simp [hy])))
      · simp at h3; subst h3; exact .inr (.seed (by simp))
    · exact .inr (h3.mono (fun y hy => .step (.seed (x := z) (by simp)) hy))

/-- How many units are not met yet. -/
def ucnt (l : List Un) (S : List ByteArray) : Nat := (l.filter fun u => !hin S u.path).length

theorem ucnt_less {l : List Un} {S : List ByteArray} {z : ByteArray} (hz : z ∉ S) (h : ∃ u ∈ l, u.path = z) : ucnt l (S ++ [z]) + 1 ≤ ucnt l S := by
  have mono : ∀ l : List Un, ucnt l (S ++ [z]) ≤ ucnt l S := by
    intro l
    unfold ucnt
    induction l with
    | nil => simp
    | cons u l ih =>
      rw [List.filter_cons, List.filter_cons]
      by_cases h1 : u.path ∈ S
      · rw [if_neg (c := (!hin (S ++ [z]) u.path) = true) (by simp [(hin_iff (S ++ [z]) u.path).2 (by simp [h1])]), if_neg (c := (!hin S u.path) = true) (by simp [(hin_iff S u.path).2 h1])]
        exact ih
      · rw [if_pos (c := (!hin S u.path) = true) (by simpa using (hin_not _ _).2 h1)]
        split
        · simp; exact ih
        · simp; omega
  obtain ⟨u, hu, hup⟩ := h
  obtain ⟨a, b, rfl⟩ := List.append_of_mem hu
  have h1 := mono a
  have h2 := mono b
  unfold ucnt at *
  simp only [List.filter_append, List.filter_cons, List.length_append]
  rw [if_pos (c := (!hin S u.path) = true) (by rw [hup]; simpa using (hin_not _ _).2 hz), if_neg (c := (!hin (S ++ [z]) u.path) = true) (by rw [hup]; simp [(hin_iff (S ++ [z]) z).2 (by simp)])]
  simp
  omega

theorem ucnt_le (l : List Un) (S : List ByteArray) : ucnt l S ≤ l.length := by
  unfold ucnt
  exact List.length_filter_le _ _

/-- reach's own memory: the closure handed in, the marks with their box, what waits, the closure's box. -/
structure Rc (W0 W : World) (g : Nat) (fv : Value) (S : List ByteArray) : Prop where
  bl : W.heap[g]? = some (.cells #[fv] 57 (0, 0))
  mm : ∃ n, Mg W (g + 1) n (gset S)
  bm : W.heap[g + 2]? = some (.cells #[.map (some (g + 1))] 64 (0, 0))
  bw : W.heap[g + 3]? = some (.cells #[.slice none 0 0] 23 (0, 0))
  be : W.heap[g + 4]? = some (.cells #[.func (.func 36) #[] #[.pointer (some ⟨g + 3, 0, none⟩), .pointer (some ⟨g + 2, 0, none⟩), .pointer (some ⟨g + 4, 0, none⟩), .pointer (some ⟨g, 0, none⟩)]] 65 (0, 0))
  below : Below g W0 W

theorem Rc.size {W0 W : World} {g : Nat} {fv : Value} {S : List ByteArray} (h : Rc W0 W g fv S) : g + 4 < W.heap.size := (Array.getElem?_eq_some_iff.1 h.be).1

theorem Rc.under {W0 W W' : World} {g : Nat} {fv : Value} {S : List ByteArray} (h : Rc W0 W g fv S) (hb : Below W.heap.size W W') : Rc W0 W' g fv S := by
  have hs := h.size
  obtain ⟨n, hM⟩ := h.mm
  exact ⟨(hb.block _ (by omega)).trans h.bl, ⟨n, hM.below hb (by omega)⟩, (hb.block _ (by omega)).trans h.bm, (hb.block _ (by omega)).trans h.bw, (hb.block _ (by omega)).trans h.be, h.below.trans (hb.mono (by omega))⟩

theorem Rc.mark {W0 W W' : World} {g n : Nat} {fv : Value} {S S' : List ByteArray} (h : Rc W0 W g fv S) (hg : W.grownBy W' (some (g + 1))) (hM : Mg W' (g + 1) n (gset S')) : Rc W0 W' g fv S' := by
  have hs := h.size
  exact ⟨(hg.block _ (by omega) (by simp)).trans h.bl, ⟨n, hM⟩, (hg.block _ (by omega) (by simp)).trans h.bm, (hg.block _ (by omega) (by simp)).trans h.bw, (hg.block _ (by omega) (by simp)).trans h.be, h.below.grown hg (by omega) (fun k hk => by cases hk; omega)⟩

theorem Sb.kept {W W' : World} {a : Option Addr} {n c m : Nat} {zs : List ByteArray} (h : Sb W a n c zs) (hg : W.grownBy W' (some m)) (hm : ∃ n g, Mg W m n g) : Sb W' a n c zs := by
  refine ⟨h.hlen, h.h63, h.hcap, h.hnil, fun hp => ?_⟩
  obtain ⟨b, off, h1, hlt, hc⟩ := h.hmem hp
  have hbm : b ≠ m := by
    rintro rfl
    obtain ⟨_, _, es, clock, hb, _⟩ := hm
    obtain ⟨z, hz⟩ : ∃ z, zs[0]? = some z := ⟨zs[0]'(by rw [h.hlen]; exact hp), List.getElem?_eq_getElem (by rw [h.hlen]; exact hp)⟩
    have := hc 0 z hz
    simp [World.cell?, hb] at this
  have hbk : W'.heap[b]? = W.heap[b]? := hg.block b hlt (by simpa using hbm)
  refine ⟨b, off, h1, ?_, fun i z hi => ?_⟩
  · have h9 : W.heap[b]? = some W.heap[b] := Array.getElem?_eq_getElem hlt
    rw [← hbk] at h9
    exact (Array.getElem?_eq_some_iff.1 h9).1
  · have := hc i z hi
    unfold World.cell? at this ⊢
    simp only at this ⊢
    rw [hbk]
    exact this

theorem grown_trans {A B C : World} {m : Option Nat} (h1 : A.grownBy B m) (h2 : B.grownBy C m) : A.grownBy C m := h1.andThen h2 (fun j hj => .inr hj)

theorem grown_below {A B : World} {m : Option Nat} (h : Below A.heap.size A B) : A.grownBy B m := ⟨h.os, h.tape, h.output, h.size, fun k hk _ => h.block k hk⟩

end Go.Proofs.Ytnkknkijnpdapaa
