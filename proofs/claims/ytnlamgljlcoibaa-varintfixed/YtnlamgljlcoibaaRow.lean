/- A slice of bytes that came in, as the walks want it: where its cells lie, and what they hold. -/
import Derived.WalkKit
import Derived.OpenShut
namespace Go.Proofs.Ytnlamgljlcoibaa
open Go.RowKit

theorem row_open {w : World} {a : Option Addr} {len cap : Nat} {zs : List Int}
    (h : (a = none ∧ len = 0 ∧ cap = 0 ∧ zs = []) ∨ ∃ x, a = some x ∧ len ≤ cap ∧ cap ≤ maxLen ∧ zs.length = cap ∧ (∀ i, i < zs.length → w.cell? (x.add i) = some (.int .u8 (zs.getD i 0))) ∧ ∀ n ∈ zs, (Lit.int .u8 n).wf = true) :
    (len : Int) ≤ 9223372036854775807 ∧ (zs.take len).length = len ∧ (∀ i, 0 ≤ (zs.take len).getD i 0 ∧ (zs.take len).getD i 0 ≤ 255) ∧
      (0 < len → ∃ b off, a = some ⟨b, off, none⟩ ∧ b < w.heap.size ∧ ∀ i, i < len → w.cell? ⟨b, off + i, none⟩ = some (.int .u8 ((zs.take len).getD i 0))) := by
  rcases h with ⟨rfl, rfl, rfl, rfl⟩ | ⟨x, rfl, hl, hm, hz, hcell, hwz⟩
  · exact ⟨by omega, rfl, fun i => by simp, fun h => absurd h (by omega)⟩
  · refine ⟨by unfold maxLen at hm; omega, by simp; omega, ?_, ?_⟩
    · intro i
      rcases Nat.lt_or_ge i (zs.take len).length with h | h
      · have hm := List.getElem_mem h
        have := bounds_u8 (hwz _ (List.mem_of_mem_take hm))
        simp only [List.getD, List.getElem?_eq_getElem h, Option.getD_some]
        omega
      · simp [List.getD, List.getElem?_eq_none h]
    · intro h0
      obtain ⟨b, off, spot⟩ := x
      have hc := hcell 0 (by omega)
      have hspot : spot = none := by simpa [Addr.add] using World.cell?_spot hc
      subst hspot
      refine ⟨b, off, rfl, ?_, ?_⟩
      · rcases Nat.lt_or_ge b w.heap.size with h | h
        · exact h
        · simp [World.cell?, Addr.add, Array.getElem?_eq_none h] at hc
      · intro i hi
        have := hcell i (by omega)
        have hp : (⟨b, off, none⟩ : Addr).add i = ⟨b, off + i, none⟩ := by unfold Addr.add; split <;> simp_all
        rw [hp] at this
        rw [this]
        simp [List.getD, hi]

theorem row_below {w w1 : World} {b off len : Nat} {zs : List Int} (hb : Below w.heap.size w w1) (hlt : b < w.heap.size)
    (h : ∀ i, i < len → w.cell? ⟨b, off + i, none⟩ = some (.int .u8 (zs.getD i 0))) : ∀ i, i < len → w1.cell? ⟨b, off + i, none⟩ = some (.int .u8 (zs.getD i 0)) :=
  fun i hi => (hb.cell hlt).trans (h i hi)

end Go.Proofs.Ytnlamgljlcoibaa
