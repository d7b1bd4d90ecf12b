/- The program's own Synthetic. -/
import Derived.Test.YtkdondanchkjmaaNPe
namespace Go.Proofs.Ytkdondanchkjmaa
open Go.RowKit
set_option linter.unusedVariables false
set_option linter.unusedSimpArgs false

theorem str_inj {a b : List Int} (ha : byts a) (hb : byts b) (h : strOfNums a = strOfNums b) : a = b := by
  have := str_eq ha hb
  rw [h] at this
  simpa using this.symm

theorem pcontains_any {w : World} {a : Option Addr} {len cap : Nat} {zs : List (List Int)} (s : List Int) (hS : Hid (Ss w a len cap zs)) (hs : Hid (byts s)) :
    Calls Try.prog 41 #[.slice a len cap, .string (strOfNums s)] w fun e w' => e = .returned (.bool (decide (s ∈ zs))) ∧ w' = w := by
  obtain ⟨h1, h2, h3, h4, h5, h6⟩ := hS.out
  by_cases h0 : len = 0
  · subst h0
    have : zs = [] := List.eq_nil_of_length_eq_zero h1
    subst this
    rw [decide_eq_false (by simp)]
    exact Sh.slices_Contains_string_empty a cap (strOfNums s) w
  · obtain ⟨b, off, rfl, hlt, hc⟩ := h6 (by omega)
    have q := Sh.slices_Contains_string b off len cap (zs.map strOfNums) (strOfNums s) w (by simp; omega) (by omega) (fun j hj => by
      simp only [List.length_map] at hj
      have := hc j zs[j] (List.getElem?_eq_getElem hj)
      rw [this]
      simp [scell, List.getD, hj])
    have e : Lib.containsS ((zs.map strOfNums).take len) (strOfNums s) = decide (s ∈ zs) := by
      rw [Bool.eq_iff_iff, Lib.containsS_iff, decide_eq_true_eq, List.take_of_length_le (by simp; omega)]
      constructor
      · intro h
        obtain ⟨z, hz, he⟩ := List.mem_map.1 h
        have := str_inj (h5 z hz) hs.out he
        rwa [← this]
      · intro h
        exact List.mem_map.2 ⟨s, h, rfl⟩
    rw [e] at q
    exact q

theorem nsyn_in (t : List (List Int)) (f : Nat) (s : List Int) (h : s ∈ t) : nsyn t (f + 1) s = nsyn t f (88 :: s) := by rw [nsyn, if_pos h]

set_option maxHeartbeats 1000000 in
theorem psyn_any {a : Option Addr} {len cap : Nat} {zs : List (List Int)} (s : List Int) (w : World) (hT : Hid (NTab w)) (hS : Hid (Ss w a len cap zs)) (hs : Hid (byts s)) (hl : s.length ≤ 10000) (hlen : len ≤ 10000) :
    Calls Try.prog 27 #[.string (strOfNums s), .slice a len cap] w fun e w' => e = .returned (.string (strOfNums (nsyn zs len (95 :: s)))) ∧ Below w.heap.size w w' := by
  have HL : Hid (zs.length = len) := hS.out.1
  obtain ⟨R, hR⟩ : ∃ R, R = nsyn zs len (95 :: s) := ⟨_, rfl⟩
  have HR : Hid (R = nsyn zs len (95 :: s)) := hR
  rw [← hR]
  have h1 : ∀ W, (Op.stringOp .add { data := #[95] } (strOfNums s)).run Try.prog W = .ok (.string (strOfNums (95 :: s))) W := fun W => run_add W [95] s (by simp; omega)
  have HB0 : Hid (byts (95 :: s)) := by
    intro c hc
    rcases List.mem_cons.1 hc with rfl | hc
    · omega
    · exact hs.out c hc
  clear hR
  go_enter Try.func27, Try.ntmps27
  go_wp2
  go_loopw [5] (fun v wr => ∃ (k : Nat) (t : List Int), v = .string (strOfNums t) ∧ k ≤ len ∧ t.length = s.length + 1 + k ∧ Hid (byts t) ∧ Hid (t = nxs k (95 :: s)) ∧ Hid (∀ j, j < k → nxs j (95 :: s) ∈ zs) ∧ Hid (R = nsyn zs (len - k) t) ∧ w = wr) (fun v _ => len + s.length + 2 - txtLen v)
  case atStart => exact ⟨0, 95 :: s, rfl, by omega, by simp, HB0, rfl, fun j hj => absurd hj (by omega), HR, rfl⟩
  case round =>
    obtain ⟨k, t, rfl, hk, htl, HB, HX, HM, HJ, rfl⟩ := hrel
    have q := pcontains_any t hS HB
    by_cases hin : t ∈ zs
    · rw [decide_eq_true hin] at q
      have Q : Hid _ := q
      have hkl : k < len := by
        have := too_many (95 :: s) k zs (fun j hj => by
          by_cases e : j = k
          · rw [e, ← HX.out]; exact hin
          · exact HM.out j (by omega))
        have := HL.out
        omega
      have HM2 : Hid (∀ j, j < k + 1 → nxs j (95 :: s) ∈ zs) := fun j hj => by
        by_cases e : j = k
        · rw [e, ← HX.out]; exact hin
        · exact HM.out j (by omega)
      have HX2 : Hid (88 :: t = nxs (k + 1) (95 :: s)) := by show _ = _; rw [nxs, ← HX.out]
      have h2 : ∀ W, (Op.stringOp .add { data := #[88] } (strOfNums t)).run Try.prog W = .ok (.string (strOfNums (88 :: t))) W := fun W => run_add W [88] t (by simp; omega)
      have HJ2 : Hid (R = nsyn zs (len - (k + 1)) (88 :: t)) := by
        show _ = _
        rw [HJ.out, show len - k = (len - (k + 1)) + 1 by omega, nsyn_in _ _ _ hin]
      have HB2 : Hid (byts (88 :: t)) := by
        intro c hc
        rcases List.mem_cons.1 hc with rfl | hc
        · omega
        · exact HB.out c hc
      have hm1 : txtLen (.string (strOfNums t)) = t.length := strOfNums_size t
      have hm2 : txtLen (.string (strOfNums (88 :: t))) = t.length + 1 := strOfNums_size (88 :: t)
      have HMS : Hid (len + s.length + 2 - txtLen (.string (strOfNums (88 :: t))) < len + s.length + 2 - txtLen (.string (strOfNums t))) := by show _ < _; rw [hm1, hm2]; omega
      clear HJ q hin HM HX hm1 hm2
      go_wp2_with fail
      refine Calls.mono Q.out ?_
      rintro e w1 ⟨rfl, rfl⟩
      go_wp2
      go_roundw
      case rel => first | exact ⟨k + 1, 88 :: t, rfl, by omega, by simp; omega, HB2, HX2, HM2, HJ2, by first | rfl | trivial⟩ | ((repeat apply Exists.intro); exact ⟨⟨k + 1, 88 :: t, rfl, by omega, by simp; omega, HB2, HX2, HM2, HJ2, by first | rfl | trivial⟩, rfl⟩)
      case measure => exact HMS.out
    · rw [decide_eq_false hin] at q
      have Q : Hid _ := q
      have E : Hid (R = t) := by show _ = _; rw [HJ.out, nsyn_stay _ _ _ hin]
      clear HJ q hin
      go_wp2_with fail
      refine Calls.mono Q.out ?_
      rintro e w1 ⟨rfl, rfl⟩
      go_wp2
      go_ret
      exact ⟨by rw [E.out]; rfl, Below.refl _ _⟩

end Go.Proofs.Ytkdondanchkjmaa
