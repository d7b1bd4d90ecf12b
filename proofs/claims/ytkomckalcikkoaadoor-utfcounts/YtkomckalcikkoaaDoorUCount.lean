/- The contract of the document's own answer on how many characters bytes begin with (the reference's Count), over the turned text. -/
import Derived.Test.YtkomckalcikkoaaDoorURune
namespace Go.Proofs.YtkomckalcikkoaaDoor
open Go.RowKit

set_option maxHeartbeats 1000000 in
theorem rcount_bs {w : World} {a : Option Addr} {len cap : Nat} {zs : List Int} (h : Hid (Bs w a len cap zs)) :
    Calls Tryd.prog 14 #[.slice a len cap] w fun e w' => e = .returned (.tuple #[.int .i64 (ucnt zs).1, .bool (ucnt zs).2]) ∧ Below w.heap.size w w' := by
  go_enter Tryd.func14, Tryd.ntmps14
  go_wp2
  go_loopw [0, 4] (fun v i wr => ∃ (a' : Option Addr) (l' c' : Nat) (zs' : List Int) (m : Int), v = .slice a' l' c' ∧ i = .int .i64 m ∧ 0 ≤ m ∧ m + l' ≤ len ∧ Hid (Bs wr a' l' c' zs') ∧ Hid ((ucnt zs).1 = m + (ucnt zs').1 ∧ (ucnt zs).2 = (ucnt zs').2) ∧ Below w.heap.size w wr) (fun v _ _ => match v with | .slice _ l _ => l | _ => 0)
  case atStart => exact ⟨a, len, cap, zs, 0, rfl, rfl, by omega, by omega, h, ⟨by omega, rfl⟩, Below.refl _ _⟩
  case round =>
    obtain ⟨a', l', c', zs', m, rfl, rfl, hm, hml, HS, HE, hB⟩ := hrel
    have hl := h.out.2.1
    by_cases hz : l' = 0
    · subst hz
      have e : zs' = [] := List.eq_nil_of_length_eq_zero HS.out.1
      subst e
      obtain ⟨e1, e2⟩ := HE.out
      rw [ucnt_nil] at e1 e2
      have E : Hid (ucnt zs = (m, true)) := by show _ = _; rw [← Prod.eta (ucnt zs), e1, e2]; simp
      clear e1 e2
      go_wp2
      go_ret2
      exact ⟨by rw [E.out]; rfl, hB⟩
    · have hp : (0 : Int) < (l' : Int) := by omega
      have q := rrune_bs HS.out
      have sz := urune_size zs'
      obtain ⟨k, hk⟩ : ∃ k : Nat, (urune zs').2 = (k : Int) := ⟨(urune zs').2.toNat, by omega⟩
      have HK : Hid ((urune zs').2 = (k : Int)) := hk
      have hkl : k ≤ l' := by have := HS.out.1; omega
      rw [hk] at q
      generalize (urune zs').1 = r at q
      have Q : Hid _ := q
      clear q sz hk
      by_cases hk0 : k = 0
      · subst hk0
        have hne : zs' ≠ [] := by rintro rfl; exact hz HS.out.1.symm
        obtain ⟨e1, e2⟩ := HE.out
        rw [ucnt_stop hne HK.out] at e1 e2
        have E : Hid (ucnt zs = (m, false)) := by show _ = _; rw [← Prod.eta (ucnt zs), e1, e2]; simp
        clear e1 e2 hne
        go_wp2_with fail
        refine Calls.mono Q.out ?_
        rintro e w1 ⟨rfl, hb1⟩
        rw [show (((0 : Nat) : Int)) = 0 from rfl]
        go_wp2
        go_ret2
        exact ⟨by rw [E.out]; rfl, hB.trans (hb1.mono hB.size)⟩
      · have hk0' : ((k : Int) == 0) = false := by simpa using hk0
        have hk1 : (k : Int) ≤ (l' : Int) := by omega
        go_wp2_with fail
        refine Calls.mono Q.out ?_
        rintro e w1 ⟨rfl, hb1⟩
        go_wp2
        go_round
        case rel =>
          have B1 := (HS.out.below hb1 (Nat.le_refl _)).cut k l' hkl (Nat.le_refl _)
          rw [List.take_of_length_le (by rw [HS.out.1]; omega)] at B1
          refine ⟨_, _, _, zs'.drop k, m + 1, rfl, rfl, by omega, by omega, B1, ?_, hB.trans (hb1.mono hB.size)⟩
          show _ ∧ _
          obtain ⟨e1, e2⟩ := HE.out
          have st := ucnt_step (z := zs') (by rw [HK.out]; omega)
          rw [HK.out, Int.toNat_natCast] at st
          rw [st] at e1 e2
          exact ⟨by rw [e1]; simp only; omega, e2⟩
        case measure => simp only; omega

end Go.Proofs.YtkomckalcikkoaaDoor
