/- The contracts of the reference's own Same, Synthetic. -/
import Derived.Test.YtfkhocmbhnigeaaGreatNStr
namespace Go.Proofs.YtfkhocmbhnigeaaGreat
open Go.RowKit
set_option linter.unusedVariables false
set_option linter.unusedSimpArgs false

set_option maxHeartbeats 1000000 in
theorem rsames_any {w : World} {a1 a2 : Option Addr} {l1 c1 l2 c2 : Nat} {xs ys : List (List Int)} (h1 : Hid (Ss w a1 l1 c1 xs)) (h2 : Hid (Ss w a2 l2 c2 ys)) :
    Calls Tryz.prog 11 #[.slice a1 l1 c1, .slice a2 l2 c2] w fun e w' => e = .returned (.bool (decide (xs = ys))) ∧ Below w.heap.size w w' := by
  have HL1 : Hid (xs.length = l1) := h1.out.1
  have HL2 : Hid (ys.length = l2) := h2.out.1
  have hl1 := h1.out.2.1
  have hl2 := h2.out.2.1
  by_cases hl : l1 = l2
  · subst hl
    have hne : ((l1 : Int) != (l1 : Int)) = false := by simp
    go_enter Tryz.func11, Tryz.ntmps11
    go_wp2
    go_loopw [13] (fun v wr => ∃ k : Nat, v = .int .i64 (k : Int) ∧ k ≤ l1 ∧ Hid (∀ i, i < k → xs[i]? = ys[i]?) ∧ Below w.heap.size w wr) (fun v _ => l1 - (intOf v).toNat)
    case atStart => exact ⟨0, rfl, by omega, fun i hi => absurd hi (by omega), Below.refl _ _⟩
    case round =>
      obtain ⟨k, rfl, hk, HE, hb⟩ := hrel
      by_cases hkl : k < l1
      · obtain ⟨b1, o1, rfl, hlt1, hc1⟩ := h1.out.2.2.2.2.2 (by omega)
        obtain ⟨b2, o2, rfl, hlt2, hc2⟩ := h2.out.2.2.2.2.2 (by omega)
        obtain ⟨x, hx⟩ : ∃ x, xs[k]? = some x := ⟨xs[k]'(by rw [HL1.out]; exact hkl), List.getElem?_eq_getElem (by rw [HL1.out]; exact hkl)⟩
        obtain ⟨y, hy⟩ : ∃ y, ys[k]? = some y := ⟨ys[k]'(by rw [HL2.out]; exact hkl), List.getElem?_eq_getElem (by rw [HL2.out]; exact hkl)⟩
        have x0 := (hb.cell hlt1).trans (hc1 k x hx)
        have y0 := (hb.cell hlt2).trans (hc2 k y hy)
        unfold scell at x0 y0
        have heq := str_eq (h1.out.2.2.2.2.1 x (List.mem_of_getElem? hx)) (h2.out.2.2.2.2.1 y (List.mem_of_getElem? hy))
        clear hc1 hc2
        by_cases hxy : x = y
        · have e' : (x == y) = true := by simpa using hxy
          rw [e'] at heq
          have HE' : Hid (∀ i, i < k + 1 → xs[i]? = ys[i]?) := by
            intro i hi
            by_cases hik : i = k
            · rw [hik, hx, hy, hxy]
            · exact HE.out i (by omega)
          generalize strOfNums x = X at x0 heq
          generalize strOfNums y = Y at y0 heq
          clear hx hy hxy HE e'
          go_wp2
          go_quiet (fail)
          rename_i K _ hK
          refine hK _ _ ?_
          go_wp2
          go_roundw
          case rel => first | exact ⟨k + 1, by go_num, by omega, HE', hb.trans ((below_drewN (Below.refl _ _) _).mono hb.size)⟩ | ((repeat apply Exists.intro); exact ⟨⟨k + 1, by go_num, by omega, HE', hb.trans ((below_drewN (Below.refl _ _) _).mono hb.size)⟩, rfl⟩)
          case measure => simp [intOf]; omega
        · have e' : (x == y) = false := by simpa using hxy
          rw [e'] at heq
          have E : Hid (decide (xs = ys) = false) := decide_eq_false (fun h => hxy (by rw [h] at hx; rw [hx] at hy; exact Option.some.inj hy))
          generalize strOfNums x = X at x0 heq
          generalize strOfNums y = Y at y0 heq
          clear hx hy hxy HE e'
          go_wp2
          go_quiet (fail)
          rename_i K _ hK
          refine hK _ _ ?_
          go_wp2
          go_ret
          exact ⟨by rw [E.out]; rfl, hb.trans ((below_drewN (Below.refl _ _) _).mono hb.size)⟩
      · obtain rfl : k = l1 := by omega
        have E : Hid (decide (xs = ys) = true) := decide_eq_true (List.ext_getElem? fun i => by
          by_cases hi : i < k
          · exact HE.out i hi
          · rw [List.getElem?_eq_none (by rw [HL1.out]; omega), List.getElem?_eq_none (by rw [HL2.out]; omega)])
        clear HE
        go_wp2
        go_ret
        exact ⟨by rw [E.out]; rfl, hb⟩
  · have hne : ((l1 : Int) != (l2 : Int)) = true := by simp; omega
    have E : Hid (decide (xs = ys) = false) := decide_eq_false (fun h => hl (by rw [← HL1.out, ← HL2.out, h]))
    go_enter Tryz.func11, Tryz.ntmps11
    go_wp2
    go_ret
    exact ⟨by rw [E.out]; rfl, Below.refl _ _⟩

theorem nsyn_len (t : List (List Int)) : ∀ (f : Nat) (s : List Int), (nsyn t f s).length ≤ s.length + f
  | 0, s => by simp [nsyn]
  | f + 1, s => by
    rw [nsyn]
    split
    · have := nsyn_len t f (88 :: s); simp only [List.length_cons] at this; omega
    · have := nsyn_len t f s; omega

theorem nsyn_bd (t : List (List Int)) : ∀ (f : Nat) (s : List Int), byts s → byts (nsyn t f s)
  | 0, s, h => h
  | f + 1, s, h => by
    rw [nsyn]
    refine nsyn_bd t f _ ?_
    split
    · intro c hc
      rcases List.mem_cons.1 hc with rfl | hc
      · omega
      · exact h c hc
    · exact h

end Go.Proofs.YtfkhocmbhnigeaaGreat
