/- The reference's small functions of layer 10: In, Find, Same, and the law's few. -/
import Derived.Test.YtnkknkijnpdapaaHMem
import Derived.Deep.QuietTactic
import Derived.BigQuiet
namespace Go.Proofs.Ytnkknkijnpdapaa
open Go.RowKit
set_option linter.unusedVariables false
set_option linter.unusedSimpArgs false

theorem hdrewN {B : Nat} {a w : World} (h : Below B a w) (n : Nat) : Below B a (w.drewN n) := h.trans ⟨rfl, rfl, rfl, Nat.le_refl _, fun _ _ => rfl⟩

theorem hin_of {zs : List ByteArray} {s z : ByteArray} {k : Nat} (h : zs[k]? = some z) (e : z = s) : hin zs s = true := by
  subst e
  exact (hin_iff _ _).2 (List.mem_of_getElem? h)

theorem hin_no {zs : List ByteArray} {s : ByteArray} (h : ∀ j, j < zs.length → zs[j]? ≠ some s) : hin zs s = false := by
  cases hq : hin zs s with
  | false => rfl
  | true =>
    obtain ⟨j, hj⟩ := List.getElem?_of_mem ((hin_iff _ _).1 hq)
    exact absurd hj (h j (List.getElem?_eq_some_iff.1 hj).1)

set_option maxHeartbeats 1000000 in
theorem rhin_any {w : World} {a : Option Addr} {len cap : Nat} {zs : List ByteArray} (s : ByteArray) (hS : Hid (Sb w a len cap zs)) :
    Calls Try.prog 20 #[.slice a len cap, .string s] w fun e w' => e = .returned (.bool (hin zs s)) ∧ w = w' := by
  obtain ⟨h1, h2, h3, h4, h6⟩ := hS.out
  have H1 : Hid (zs.length = len) := h1
  have H6 : Hid _ := h6
  clear h1 h6
  go_enter Try.func20, Try.ntmps20
  go_wp2
  go_loopw [9] (fun v wr => ∃ k : Nat, v = .int .i64 (k : Int) ∧ k ≤ len ∧ Hid (∀ j, j < k → zs[j]? ≠ some s) ∧ w = wr) (fun v _ => len - (intOf v).toNat)
  case atStart => exact ⟨0, rfl, by omega, fun j hj => absurd hj (by omega), rfl⟩
  case round =>
    obtain ⟨k, rfl, hk, HJ, rfl⟩ := hrel
    by_cases hkl : k < len
    · obtain ⟨b, off, rfl, hlt, hc⟩ := H6.out (by omega)
      obtain ⟨z, hz⟩ : ∃ z, zs[k]? = some z := ⟨zs[k]'(by rw [H1.out]; exact hkl), List.getElem?_eq_getElem (by rw [H1.out]; exact hkl)⟩
      have hcell := hc k z hz
      have heq := text_eq z s
      by_cases e : z = s
      · rw [decide_eq_true e] at heq
        have E : Hid (hin zs s = true) := hin_of hz e
        clear HJ hz e hc
        go_wp2
        go_ret
        exact ⟨by rw [E.out]; rfl, rfl⟩
      · rw [decide_eq_false e] at heq
        have HJ2 : Hid (∀ j, j < k + 1 → zs[j]? ≠ some s) := fun j hj => by
          by_cases q : j = k
          · rw [q, hz]; simpa using e
          · exact HJ.out j (by omega)
        clear HJ hz e hc
        go_wp2
        go_roundw
        case rel => first | exact ⟨k + 1, by go_num, by omega, HJ2, by first | rfl | trivial⟩ | ((repeat apply Exists.intro); exact ⟨⟨k + 1, by go_num, by omega, HJ2, by first | rfl | trivial⟩, rfl⟩)
        case measure => simp [intOf]; omega
    · obtain rfl : k = len := by omega
      have E : Hid (hin zs s = false) := hin_no (fun j hj => HJ.out j (by rw [← H1.out]; exact hj))
      clear HJ
      go_wp2
      go_ret
      exact ⟨by rw [E.out]; rfl, rfl⟩

/-- The place of a path's unit; -1: none. -/
def hfi (us : List Um) (p : ByteArray) : Int := match us.findIdx? (fun u => decide (u.path = p)) with | some k => k | none => -1

theorem hfi_at {us : List Um} {p : ByteArray} {k : Nat} {u : Um} (h : us[k]? = some u) (e : u.path = p) (hj : ∀ j, j < k → ∀ v, us[j]? = some v → v.path ≠ p) : hfi us p = k := by
  have : us.findIdx? (fun u => decide (u.path = p)) = some k := by
    rw [List.findIdx?_eq_some_iff_getElem]
    obtain ⟨hk, hu⟩ := List.getElem?_eq_some_iff.1 h
    refine ⟨hk, by rw [hu]; simpa using e, fun j hjk => ?_⟩
    have := hj j hjk us[j] (List.getElem?_eq_getElem (by omega))
    simpa using this
  unfold hfi
  rw [this]

theorem hfi_no {us : List Um} {p : ByteArray} (hj : ∀ j, j < us.length → ∀ v, us[j]? = some v → v.path ≠ p) : hfi us p = -1 := by
  have : us.findIdx? (fun u => decide (u.path = p)) = none := by
    rw [List.findIdx?_eq_none_iff]
    intro u hu
    obtain ⟨j, hj2⟩ := List.getElem?_of_mem hu
    have := hj j (List.getElem?_eq_some_iff.1 hj2).1 u hj2
    simpa using this
  unfold hfi
  rw [this]

/-- The place, and the unit. -/
theorem hfi_spec (us : List Um) (p : ByteArray) : (hfi us p = -1 ∧ hunit (us.map Um.un) p = none) ∨ ∃ (k : Nat) (u : Um), hfi us p = k ∧ us[k]? = some u ∧ u.path = p ∧ hunit (us.map Um.un) p = some u.un := by
  unfold hfi hunit
  induction us with
  | nil => left; simp
  | cons u r ih =>
    rw [List.findIdx?_cons, List.map_cons, List.find?_cons]
    by_cases h : u.path = p
    · right
      refine ⟨0, u, by simp [h], rfl, h, ?_⟩
      simp [Um.un, h]
    · have h1 : decide (u.path = p) = false := decide_eq_false h
      have h2 : decide (u.un.path = p) = false := decide_eq_false h
      rw [h1, h2]
      simp only [Bool.false_eq_true, if_false]
      rcases ih with ⟨i1, i2⟩ | ⟨k, v, i1, i2, i3, i4⟩
      · left
        cases hq : List.findIdx? (fun u => decide (u.path = p)) r with
        | none => exact ⟨by simp, i2⟩
        | some k => rw [hq] at i1; simp at i1
      · right
        cases hq : List.findIdx? (fun u => decide (u.path = p)) r with
        | none => rw [hq] at i1; simp at i1
        | some k' =>
          rw [hq] at i1
          have : k' = k := by simp at i1; omega
          subst this
          exact ⟨k' + 1, v, by simp, by simpa using i2, i3, i4⟩

set_option maxHeartbeats 1000000 in
theorem rfind_any {w : World} {a : Option Addr} {len cap : Nat} {us : List Um} (p : ByteArray) (hU : Hid (Ul w a len cap us)) (W : World) (hB : Below w.heap.size w W) :
    Calls Try.prog 19 #[.slice a len cap, .string p] W fun e w' => e = .returned (.int .i64 (hfi us p)) ∧ Below W.heap.size W w' := by
  obtain ⟨h1, h2, h3, h4, h6, _⟩ := hU.out.below hB
  have H1 : Hid (us.length = len) := h1
  have H6 : Hid _ := h6
  clear h1 h6 hU hB w
  go_enter Try.func19, Try.ntmps19
  go_wp2
  go_loopw [9] (fun v wr => ∃ k : Nat, v = .int .i64 (k : Int) ∧ k ≤ len ∧ Hid (∀ j, j < k → ∀ v, us[j]? = some v → v.path ≠ p) ∧ Hid (Below W.heap.size W wr)) (fun v _ => len - (intOf v).toNat)
  case atStart => exact ⟨0, rfl, by omega, fun j hj => absurd hj (by omega), Below.refl _ _⟩
  case round =>
    obtain ⟨k, rfl, hk, HJ, HB⟩ := hrel
    by_cases hkl : k < len
    · obtain ⟨b, off, rfl, hlt, hc⟩ := H6.out (by omega)
      obtain ⟨u, hu⟩ : ∃ u, us[k]? = some u := ⟨us[k]'(by rw [H1.out]; exact hkl), List.getElem?_eq_getElem (by rw [H1.out]; exact hkl)⟩
      obtain ⟨c0, c1, c2⟩ := unit_cells (w := wr) (fun i u hi j v hj => (HB.out.cell hlt).trans (hc i u hi j v hj)) hu
      have hlt2 : b < wr.heap.size := Nat.lt_of_lt_of_le hlt HB.out.size
      have heq := text_eq u.path p
      obtain ⟨up, uda, udc, ud, upa, upc, upb⟩ := u
      simp only at c0 c1 c2 heq
      have HBn : Hid (Below W.heap.size W (wr.alloc (.cells #[.string up, .slice uda ud.length udc, .slice upa upb.length upc] 40))) := HB.out.alloc HB.out.size _
      by_cases e : up = p
      · rw [decide_eq_true e] at heq
        have E : Hid (hfi us p = k) := hfi_at hu e HJ.out
        clear HJ hu e hc HB
        go_wp2
        go_ret
        exact ⟨by rw [E.out]; rfl, HBn.out⟩
      · rw [decide_eq_false e] at heq
        have HJ2 : Hid (∀ j, j < k + 1 → ∀ v, us[j]? = some v → v.path ≠ p) := fun j hj v hv => by
          by_cases q : j = k
          · rw [q, hu] at hv
            cases hv
            exact e
          · exact HJ.out j (by omega) v hv
        clear HJ hu e hc HB
        go_wp2
        go_roundw
        case rel => first | exact ⟨k + 1, by go_num, by omega, HJ2, HBn⟩ | ((repeat apply Exists.intro); exact ⟨⟨k + 1, by go_num, by omega, HJ2, HBn⟩, rfl⟩)
        case measure => simp [intOf]; omega
    · obtain rfl : k = len := by omega
      have E : Hid (hfi us p = -1) := hfi_no (fun j hj => HJ.out j (by rw [← H1.out]; exact hj))
      clear HJ
      go_wp2
      go_ret
      exact ⟨by rw [E.out]; rfl, HB.out⟩

/-- Whether there are few units, and few in each. -/
def hfew (us : List Um) : Bool := decide (us.length ≤ 30) && us.all fun u => decide (u.deps.length ≤ 30) && decide (u.pub.length ≤ 30)

theorem hfew_no {us : List Um} {k : Nat} {u : Um} (h : us[k]? = some u) (e : 30 < u.deps.length ∨ 30 < u.pub.length) : hfew us = false := by
  unfold hfew
  rw [Bool.and_eq_false_iff]
  right
  rw [Bool.eq_false_iff]
  intro ha
  have := List.all_eq_true.1 ha u (List.mem_of_getElem? h)
  simp at this
  omega

theorem hfew_yes {us : List Um} (h0 : us.length ≤ 30) (hj : ∀ j, j < us.length → ∀ u, us[j]? = some u → u.deps.length ≤ 30 ∧ u.pub.length ≤ 30) : hfew us = true := by
  unfold hfew
  rw [decide_eq_true h0, Bool.true_and, List.all_eq_true]
  intro u hu
  obtain ⟨j, hj2⟩ := List.getElem?_of_mem hu
  have := hj j (List.getElem?_eq_some_iff.1 hj2).1 u hj2
  simp [this]

theorem hfew_of {us : List Um} (h : hfew us = true) : us.length ≤ 30 ∧ ∀ (j : Nat) (u : Um), us[j]? = some u → u.deps.length ≤ 30 ∧ u.pub.length ≤ 30 := by
  unfold hfew at h
  rw [Bool.and_eq_true] at h
  refine ⟨of_decide_eq_true h.1, fun j u hj => ?_⟩
  have := List.all_eq_true.1 h.2 u (List.mem_of_getElem? hj)
  simpa using this

set_option maxHeartbeats 1000000 in
theorem rhfew_any {w : World} {a : Option Addr} {len cap : Nat} {us : List Um} (hU : Hid (Ul w a len cap us)) (W : World) (hB : Below w.heap.size w W) :
    Calls Try.prog 10 #[.slice a len cap] W fun e w' => e = .returned (.bool (hfew us)) ∧ Below W.heap.size W w' := by
  obtain ⟨h1, h2, h3, h4, h6, _⟩ := hU.out.below hB
  have H1 : Hid (us.length = len) := h1
  have H6 : Hid _ := h6
  clear h1 h6 hU hB w
  by_cases hl : 30 < len
  · have E : Hid (hfew us = false) := by
      show _ = _
      unfold hfew
      rw [decide_eq_false (by rw [H1.out]; omega)]
      rfl
    have hd : ((len : Int) > 30) := by omega
    go_enter Try.func10, Try.ntmps10
    go_wp2
    go_ret
    exact ⟨by rw [E.out]; rfl, Below.refl _ _⟩
  · have hd : ¬ ((len : Int) > 30) := by omega
    go_enter Try.func10, Try.ntmps10
    go_wp2
    go_loopw [10] (fun v wr => ∃ k : Nat, v = .int .i64 (k : Int) ∧ k ≤ len ∧ Hid (∀ j, j < k → ∀ u, us[j]? = some u → u.deps.length ≤ 30 ∧ u.pub.length ≤ 30) ∧ Hid (Below W.heap.size W wr)) (fun v _ => len - (intOf v).toNat)
    case atStart => exact ⟨0, rfl, by omega, fun j hj => absurd hj (by omega), Below.refl _ _⟩
    case round =>
      obtain ⟨k, rfl, hk, HJ, HB⟩ := hrel
      by_cases hkl : k < len
      · obtain ⟨b, off, rfl, hlt, hc⟩ := H6.out (by omega)
        obtain ⟨u, hu⟩ : ∃ u, us[k]? = some u := ⟨us[k]'(by rw [H1.out]; exact hkl), List.getElem?_eq_getElem (by rw [H1.out]; exact hkl)⟩
        obtain ⟨c0, c1, c2⟩ := unit_cells (w := wr) (fun i u hi j v hj => (HB.out.cell hlt).trans (hc i u hi j v hj)) hu
        have hlt2 : b < wr.heap.size := Nat.lt_of_lt_of_le hlt HB.out.size
        obtain ⟨up, uda, udc, ud, upa, upc, upb⟩ := u
        simp only at c0 c1 c2
        have HBn : Hid (Below W.heap.size W (wr.alloc (.cells #[.string up, .slice uda ud.length udc, .slice upa upb.length upc] 40))) := HB.out.alloc HB.out.size _
        by_cases e1 : 30 < ud.length
        · have E : Hid (hfew us = false) := hfew_no hu (.inl e1)
          have g1 : ((ud.length : Int) > 30) := by omega
          clear HJ hu e1 hc HB
          go_wp2
          go_ret
          exact ⟨by rw [E.out]; rfl, HBn.out⟩
        · by_cases e2 : 30 < upb.length
          · have E : Hid (hfew us = false) := hfew_no hu (.inr e2)
            have g1 : ¬ ((ud.length : Int) > 30) := by omega
            have g3 : ((upb.length : Int) > 30) := by omega
            clear HJ hu e1 e2 hc HB
            go_wp2
            go_ret
            exact ⟨by rw [E.out]; rfl, HBn.out⟩
          · have HJ2 : Hid (∀ j, j < k + 1 → ∀ u, us[j]? = some u → u.deps.length ≤ 30 ∧ u.pub.length ≤ 30) := fun j hj v hv => by
              by_cases q : j = k
              · rw [q, hu] at hv
                cases hv
                simp only
                omega
              · exact HJ.out j (by omega) v hv
            have g1 : ¬ ((ud.length : Int) > 30) := by omega
            have g3 : ¬ ((upb.length : Int) > 30) := by omega
            clear HJ hu e1 e2 hc HB
            go_wp2
            go_roundw
            case rel => first | exact ⟨k + 1, by go_num, by omega, HJ2, HBn⟩ | ((repeat apply Exists.intro); exact ⟨⟨k + 1, by go_num, by omega, HJ2, HBn⟩, rfl⟩)
            case measure => simp [intOf]; omega
      · obtain rfl : k = len := by omega
        have E : Hid (hfew us = true) := hfew_yes (by rw [H1.out]; omega) (fun j hj => HJ.out j (by rw [← H1.out]; exact hj))
        clear HJ
        go_wp2
        go_ret
        exact ⟨by rw [E.out]; rfl, HB.out⟩

set_option maxHeartbeats 1000000 in
theorem rhsame_any {w : World} {a1 a2 : Option Addr} {l1 c1 l2 c2 : Nat} {xs ys : List ByteArray} (h1 : Hid (Sb w a1 l1 c1 xs)) (h2 : Hid (Sb w a2 l2 c2 ys)) :
    Calls Try.prog 13 #[.slice a1 l1 c1, .slice a2 l2 c2] w fun e w' => e = .returned (.bool (decide (xs = ys))) ∧ Below w.heap.size w w' := by
  obtain ⟨x1, x2, x3, x4, x6⟩ := h1.out
  obtain ⟨y1, y2, y3, y4, y6⟩ := h2.out
  have X1 : Hid (xs.length = l1) := x1
  have Y1 : Hid (ys.length = l2) := y1
  have X6 : Hid _ := x6
  have Y6 : Hid _ := y6
  clear x1 y1 x6 y6 h1 h2
  by_cases hl : l1 = l2
  · subst hl
    have hne : ((l1 : Int) != (l1 : Int)) = false := by simp
    go_enter Try.func13, Try.ntmps13
    go_wp2
    go_loopw [13] (fun v wr => ∃ k : Nat, v = .int .i64 (k : Int) ∧ k ≤ l1 ∧ Hid (∀ j, j < k → xs[j]? = ys[j]?) ∧ Below w.heap.size w wr) (fun v _ => l1 - (intOf v).toNat)
    case atStart => exact ⟨0, rfl, by omega, fun j hj => absurd hj (by omega), Below.refl _ _⟩
    case round =>
      obtain ⟨k, rfl, hk, HJ, hb⟩ := hrel
      by_cases hkl : k < l1
      · obtain ⟨b, off, rfl, hlt, hc⟩ := X6.out (by omega)
        obtain ⟨b', off', rfl, hlt', hc'⟩ := Y6.out (by omega)
        obtain ⟨x, hx⟩ : ∃ z, xs[k]? = some z := ⟨xs[k]'(by rw [X1.out]; exact hkl), List.getElem?_eq_getElem (by rw [X1.out]; exact hkl)⟩
        obtain ⟨y, hy⟩ : ∃ z, ys[k]? = some z := ⟨ys[k]'(by rw [Y1.out]; exact hkl), List.getElem?_eq_getElem (by rw [Y1.out]; exact hkl)⟩
        have hcx := (hb.cell hlt).trans (hc k x hx)
        have hcy := (hb.cell hlt').trans (hc' k y hy)
        have heq := text_eq x y
        by_cases e : x = y
        · rw [decide_eq_true e] at heq
          have hnq : (x.toList != y.toList) = false := by rw [bne, heq]; rfl
          have HJ2 : Hid (∀ j, j < k + 1 → xs[j]? = ys[j]?) := fun j hj => by
            by_cases q : j = k
            · rw [q, hx, hy, e]
            · exact HJ.out j (by omega)
          clear HJ hx hy hc hc' e hnq
          go_wp2
          go_quiet (fail)
          rename_i K _ hK
          refine hK _ _ ?_
          go_wp2
          go_roundw
          case rel => first | exact ⟨k + 1, by go_num, by omega, HJ2, hb.trans ((hdrewN (Below.refl _ _) _).mono hb.size)⟩ | ((repeat apply Exists.intro); exact ⟨⟨k + 1, by go_num, by omega, HJ2, hb.trans ((hdrewN (Below.refl _ _) _).mono hb.size)⟩, rfl⟩)
          case measure => simp [intOf]; omega
        · rw [decide_eq_false e] at heq
          have hnq : (x.toList != y.toList) = true := by rw [bne, heq]; rfl
          have E : Hid (decide (xs = ys) = false) := decide_eq_false fun h => by
            subst h
            rw [hx] at hy
            exact e (Option.some.inj hy)
          clear HJ hx hy hc hc' e hnq
          go_wp2
          go_quiet (fail)
          rename_i K _ hK
          refine hK _ _ ?_
          go_wp2
          go_ret
          exact ⟨by rw [E.out]; rfl, hb.trans ((hdrewN (Below.refl _ _) _).mono hb.size)⟩
      · obtain rfl : k = l1 := by omega
        have E : Hid (decide (xs = ys) = true) := decide_eq_true (by
          apply List.ext_getElem?
          intro j
          rcases Nat.lt_or_ge j k with h | h
          · exact HJ.out j h
          · rw [List.getElem?_eq_none (by rw [X1.out]; exact h), List.getElem?_eq_none (by rw [Y1.out]; exact h)])
        clear HJ
        go_wp2
        go_ret
        exact ⟨by rw [E.out]; rfl, hb⟩
  · have hne : ((l1 : Int) != (l2 : Int)) = true := by simp; omega
    have E : Hid (decide (xs = ys) = false) := decide_eq_false fun h => by
      subst h
      exact hl (X1.out.symm.trans Y1.out)
    go_enter Try.func13, Try.ntmps13
    go_wp2
    go_ret
    exact ⟨by rw [E.out]; rfl, Below.refl _ _⟩

end Go.Proofs.Ytnkknkijnpdapaa
