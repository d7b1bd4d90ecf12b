/- The contracts of the program's own utf.walk, Count and Valid, over the turned text. -/
import Derived.Test.YtkomckalcikkoaaDoorUPr
namespace Go.Proofs.YtkomckalcikkoaaDoor
open Go.RowKit

/-- What holds at the label: m characters are passed, k bytes. -/
def WJ (w : World) (a : Option Addr) (len cap : Nat) (zs : List Int) (a' : Act) (w' : World) : Prop :=
  ∃ (m : Int) (k : Nat) (us : Nat → Value), a' = { tmps := #[.slice a len cap, undef, .int .i64 m, .int .i64 (k : Int), us 4, us 5, us 6, us 7, us 8, us 9, us 10, us 11, us 12, us 13, us 14, us 15, us 16, us 17, us 18, us 19, us 20, us 21], defers := [] } ∧
    0 ≤ m ∧ m ≤ k ∧ k ≤ len ∧ Hid ((ucnt zs).1 = m + (ucnt (zs.drop k)).1 ∧ (ucnt zs).2 = (ucnt (zs.drop k)).2) ∧ Hid (Below w.heap.size w w')

theorem WJ.mk {w : World} {a : Option Addr} {len cap : Nat} {zs : List Int} {a' : Act} {w' : World} (m : Int) (k : Nat) (us : Nat → Value) (_hu : us = fun k => a'.tmps.getD k undef)
    (h : a' = { tmps := #[.slice a len cap, undef, .int .i64 m, .int .i64 (k : Int), us 4, us 5, us 6, us 7, us 8, us 9, us 10, us 11, us 12, us 13, us 14, us 15, us 16, us 17, us 18, us 19, us 20, us 21], defers := [] }) (h1 : 0 ≤ m) (h2 : m ≤ k) (h3 : k ≤ len)
    (h4 : (ucnt zs).1 = m + (ucnt (zs.drop k)).1 ∧ (ucnt zs).2 = (ucnt (zs.drop k)).2) (h5 : Below w.heap.size w w') : WJ w a len cap zs a' w' :=
  ⟨m, k, us, h, h1, h2, h3, h4, h5⟩

set_option maxHeartbeats 1000000 in
theorem pwalk_bs {w : World} {a : Option Addr} {len cap : Nat} {zs : List Int} (hT : Hid (Tab w)) (h : Hid (Bs w a len cap zs)) :
    Calls Tryd.prog 19 #[.slice a len cap] w fun e w' => ∃ p : Nat, e = .returned (.tuple #[.int .i64 (ucnt zs).1, .int .i64 (p : Int)]) ∧ ((p : Int) == (len : Int)) = (ucnt zs).2 ∧ Below w.heap.size w w' := by
  go_enter Tryd.func19, Tryd.ntmps19
  go_wp2
  refine wp_scope_loop 0 (WJ w a len cap zs) (fun a' _ => len - (intOf (a'.tmps.getD 3 undef)).toNat) rfl ?_ ?_
  · intro HJ
    go_wp2
    go_step3
    rename_i hK
    refine hK _ _ ?_
    refine HJ.out _ _ ?_
    exact WJ.mk 0 0 _ rfl rfl (by omega) (by omega) (by omega) ⟨by simp, by simp⟩ (Below.refl _ _)
  · rintro a' w' ⟨m, k, us, rfl, m0, mk, hkl, HE, HB⟩
    have hl := h.out.2.1
    have hlc := h.out.2.2.2.1
    have hkl' : (k : Int) ≤ (len : Int) := by omega
    have HS : Hid (Bs w' _ _ _ _) := (h.out.below HB.out (Nat.le_refl _)).cut k len hkl (Nat.le_refl _)
    have et : (zs.take len).drop k = zs.drop k := by rw [List.take_of_length_le (by rw [h.out.1]; omega)]
    rw [et] at HS
    have hlen : (zs.drop k).length = len - k := HS.out.1
    have q : ∀ A C, A = (if cap = k then a else a.map (·.add k)) → C = cap - k → Calls Tryd.prog 10 #[.slice A (len - k) C] w' fun e w'' => e = .returned (.tuple #[.int .i32 (urune (zs.drop k)).1, .int .i64 (urune (zs.drop k)).2]) ∧ Below w'.heap.size w' w'' := by
      rintro A C rfl rfl
      exact prune_bs (hT.out.below HB.out (Nat.le_refl _)) HS
    have sz := urune_size (zs.drop k)
    obtain ⟨s, hs⟩ : ∃ s : Nat, (urune (zs.drop k)).2 = (s : Int) := ⟨(urune (zs.drop k)).2.toNat, by omega⟩
    have hsl : s ≤ len - k := by omega
    rw [hs] at q
    have HK : Hid ((urune (zs.drop k)).2 = (s : Int)) := hs
    generalize (urune (zs.drop k)).1 = r at q
    have Q : Hid _ := q
    have HL : Hid ((zs.drop k).length = len - k) := hlen
    clear q sz hs hlen et
    by_cases hs0 : s = 0
    · subst hs0
      have E : Hid ((ucnt zs).1 = m ∧ ((k : Int) == (len : Int)) = (ucnt zs).2) := by
        obtain ⟨e1, e2⟩ := HE.out
        show _ ∧ _
        by_cases hz : zs.drop k = []
        · rw [hz, ucnt_nil] at e1 e2
          have hk : k = len := by have := HL.out; rw [hz] at this; simp at this; omega
          exact ⟨by simpa using e1, by rw [e2]; simp [hk]⟩
        · rw [ucnt_stop hz HK.out] at e1 e2
          have hk : k ≠ len := by rintro rfl; exact hz (List.eq_nil_of_length_eq_zero (by have := HL.out; omega))
          refine ⟨by simpa using e1, ?_⟩
          rw [e2]
          simp; omega
      go_wp2_with fail
      all_goals
        refine Calls.mono (Q.out _ _ (by first | (rw [if_pos (by omega)]) | (rw [if_neg (by omega)])) (by omega)) ?_
        rintro e w1 ⟨rfl, hb1⟩
        rw [show (((0 : Nat) : Int)) = 0 from rfl]
        go_wp2
        simp only [Exit.jump]
        go_ret2
        exact ⟨k, by rw [E.out.1]; rfl, E.out.2, HB.out.trans (hb1.mono HB.out.size)⟩
    · have hs0' : (0 : Int) < (s : Int) := by omega
      go_wp2_with fail
      all_goals
        refine Calls.mono (Q.out _ _ (by first | (rw [if_pos (by omega)]) | (rw [if_neg (by omega)])) (by omega)) ?_
        rintro e w1 ⟨rfl, hb1⟩
        go_wp2
        go_step3
        refine ⟨rfl, ?_, ?_⟩
        · have hks : ((k : Int) + (s : Int)) = ((k + s : Nat) : Int) := by omega
          rw [hks]
          refine WJ.mk (m + 1) (k + s) _ rfl rfl (by omega) (by omega) (by omega) ?_ (HB.out.trans (hb1.mono HB.out.size))
          obtain ⟨e1, e2⟩ := HE.out
          have st := ucnt_step (z := zs.drop k) (by rw [HK.out]; omega)
          rw [HK.out, Int.toNat_natCast, List.drop_drop] at st
          rw [st] at e1 e2
          exact ⟨by rw [e1]; simp only; omega, e2⟩
        · simp [intOf]
          omega

set_option maxHeartbeats 400000 in
theorem pcount_bs {w : World} {a : Option Addr} {len cap : Nat} {zs : List Int} (hT : Hid (Tab w)) (h : Hid (Bs w a len cap zs)) :
    Calls Tryd.prog 15 #[.slice a len cap] w fun e w' => e = .returned (.int .i64 (ucnt zs).1) ∧ Below w.heap.size w w' := by
  have q := pwalk_bs hT h
  generalize ucnt zs = u at q ⊢
  have Q : Hid _ := q
  clear q
  go_enter Tryd.func15, Tryd.ntmps15
  go_wp2_with fail
  refine Calls.mono Q.out ?_
  rintro e w1 ⟨p, rfl, hp, hb1⟩
  have Hp : Hid _ := hp
  clear hp
  go_wp2
  go_ret
  exact ⟨rfl, hb1⟩

set_option maxHeartbeats 400000 in
theorem pvalid_bs {w : World} {a : Option Addr} {len cap : Nat} {zs : List Int} (hT : Hid (Tab w)) (h : Hid (Bs w a len cap zs)) :
    Calls Tryd.prog 16 #[.slice a len cap] w fun e w' => e = .returned (.bool (ucnt zs).2) ∧ Below w.heap.size w w' := by
  have q := pwalk_bs hT h
  generalize ucnt zs = u at q ⊢
  have Q : Hid _ := q
  clear q
  go_enter Tryd.func16, Tryd.ntmps16
  go_wp2_with fail
  refine Calls.mono Q.out ?_
  rintro e w1 ⟨p, rfl, hp, hb1⟩
  have Hp : Hid _ := hp
  clear hp
  go_wp2
  go_ret
  exact ⟨by rw [← Hp.out]; rfl, hb1⟩

end Go.Proofs.YtkomckalcikkoaaDoor
