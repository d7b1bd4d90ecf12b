/- The program's own copied: texts of their own memory. -/
import Derived.Test.YtnkknkijnpdapaaJImp
namespace Go.Proofs.Ytnkknkijnpdapaa
open Go.RowKit
set_option linter.unusedVariables false
set_option linter.unusedSimpArgs false

/-- A text of a list, written over with itself. -/
theorem Sw.again {w : World} {base b c k : Nat} {zs : List ByteArray} {z : ByteArray} (h : Sw w base (.slice (some ⟨b, 0, none⟩) zs.length c) zs) (hz : zs[k]? = some z) :
    Sw (w.setCell ⟨b, k, none⟩ (.string z)) base (.slice (some ⟨b, 0, none⟩) zs.length c) zs ∧ w.cell? ⟨b, k, none⟩ = some (.string z) ∧ w.frozen? ⟨b, k, none⟩ = false ∧ b < w.heap.size ∧ base ≤ b := by
  have hk : k < zs.length := (List.getElem?_eq_some_iff.1 hz).1
  have hc := h.cellAt k (by omega)
  obtain ⟨h0, h⟩ := h
  rcases h with ⟨he, hn⟩ | ⟨g, cap, cur, he, hg, hh, h1, h2, h3, h4⟩
  · simp at he
  · simp only [Value.slice.injEq, Option.some.injEq, Addr.mk.injEq] at he
    obtain ⟨⟨rfl, _, _⟩, _, rfl⟩ := he
    have hcur : (w.setCell ⟨b, k, none⟩ (.string z)).heap[b]? = some (.cells (cur.setIfInBounds k (.string z)) 9 (0, 0)) := by
      rw [setCell_eq_setRow w b k cur 9 (0, 0) (.string z) hh]
      exact setRow_heap w b cur _ 9 _ hh
    refine ⟨⟨h0, .inr ⟨b, c, _, rfl, hg, hcur, h1, h2, by simpa using h3, ?_⟩⟩, ?_, by simp [World.frozen?, hh], (Array.getElem?_eq_some_iff.1 hh).1, hg⟩
    · rw [Array.toList_setIfInBounds, List.take_set, h4]
      apply List.ext_getElem?
      intro j
      rw [List.getElem?_set]
      split
      · rename_i e
        subst e
        simp [hk]
        exact ((List.getElem?_eq_some_iff.1 hz).2).symm
      · rfl
    · rw [hc]
      simp [hz]

set_option maxRecDepth 10000 in
set_option maxHeartbeats 2000000 in
theorem pcopied_any {W : World} {base : Nat} {v : Value} {zs : List ByteArray} (hS : Hid (Sw W base v zs)) (hz : Hid (∀ z ∈ zs, Tsm z)) (hb : Hid (base ≤ W.heap.size)) :
    Calls Try.prog 37 #[v] W fun e W' => e = .returned v ∧ Sw W' base v zs ∧ Below base W W' := by
  obtain ⟨a, c, rfl⟩ := hS.out.slice
  obtain ⟨h1, h2, h3, h4, h6⟩ := Sb.of_own hS.out
  clear h1 h6
  go_enter Try.func37, Try.ntmps37
  go_wp2
  go_loopw [7] (fun v wr => ∃ k : Nat, v = .int .i64 (k : Int) ∧ k ≤ zs.length ∧ Hid (Sw wr base (.slice a zs.length c) zs) ∧ Hid (Below base W wr)) (fun v _ => zs.length - (intOf v).toNat)
  case atStart => exact ⟨0, rfl, by omega, hS, Below.refl _ _⟩
  case round =>
    obtain ⟨k, rfl, hk, HS, HB⟩ := hrel
    clear hS
    by_cases hkl : k < zs.length
    · obtain ⟨b, off, rfl, hlt, hc⟩ := (Sb.of_own HS.out).hmem (by omega)
      obtain rfl : off = 0 := by
        rcases HS.out.2 with ⟨he, _⟩ | ⟨g, cap, cur, he, _⟩
        · simp at he
        · simp only [Value.slice.injEq, Option.some.injEq, Addr.mk.injEq] at he
          exact he.1.2.1
      obtain ⟨z, hzk⟩ : ∃ z, zs[k]? = some z := ⟨zs[k]'hkl, List.getElem?_eq_getElem hkl⟩
      have hcell := hc k z hzk
      have Q : Hid _ := pclone_any z wr (hz.out z (List.mem_of_getElem? hzk))
      have HZ : Hid _ := hzk
      rw [Nat.zero_add] at hcell
      have hcell0 : wr.cell? ⟨b, 0 + k, none⟩ = some (.string z) := by rw [Nat.zero_add]; exact hcell
      clear hc hzk
      go_wp2_with fail
      refine Calls.mono Q.out ?_
      rintro e w1 ⟨rfl, hb1⟩
      obtain ⟨hs2, x1, x2, x3, x4⟩ := Sw.again (HS.out.below hb1) HZ.out
      have HB2 : Hid (Below base W (w1.setCell ⟨b, k, none⟩ (.string z))) := (HB.out.trans (hb1.mono (Nat.le_trans hb.out HB.out.size))).setCell (p := ⟨b, k, none⟩) x4 _
      have HS2 : Hid _ := hs2
      have y1 : w1.cell? ⟨b, 0 + k, none⟩ = some (.string z) := by rw [Nat.zero_add]; exact x1
      have y2 : w1.frozen? ⟨b, 0 + k, none⟩ = false := by rw [Nat.zero_add]; exact x2
      clear hb1 Q HB HS HZ hs2
      go_wp2
      go_roundw
      case rel => first | exact ⟨k + 1, by go_num, by omega, HS2, HB2⟩ | ((repeat apply Exists.intro); exact ⟨⟨k + 1, by go_num, by omega, HS2, HB2⟩, rfl⟩)
      case measure => simp [intOf]; omega
    · obtain rfl : k = zs.length := by omega
      go_wp2
      go_ret
      exact ⟨rfl, HS.out, HB.out⟩

end Go.Proofs.Ytnkknkijnpdapaa
