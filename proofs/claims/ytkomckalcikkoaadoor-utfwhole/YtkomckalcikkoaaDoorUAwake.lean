/- The law's own 'awake' of layer 3: the chapter's examples hold. -/
import Derived.Test.YtkomckalcikkoaaDoorUPp
import Derived.Deep.RegionWith
namespace Go.Proofs.YtkomckalcikkoaaDoor
open Go.RowKit

theorem bs_nil' (w : World) : Bs w none 0 0 [] := ⟨rfl, by omega, fun i => by simp, Nat.le_refl _, fun _ => rfl, fun h => absurd h (by omega)⟩
theorem uput_20ac : uput 8364 = [226, 130, 172] := by decide
theorem urune_c080 : urune [192, 128] = (-1, 0) := by decide

theorem lit_bs (w : World) (xs : List Int) (n : Nat) (hn : xs.length = n) (hm : n ≤ 1000) (hb : ∀ c ∈ xs, 0 ≤ c ∧ c ≤ 255) : Bs (w.alloc (.cells (xs.map (Value.int .u8)).toArray 5)) (some ⟨w.heap.size, 0, none⟩) n n xs := by
  have := lit_row w 5 (xs.map (Value.int .u8)).toArray n (by simp [hn]) hm
  simp only at this
  exact Bs.of_owns this hb

set_option maxHeartbeats 400000 in
theorem uawake_any (w : World) (hT : Hid (Tab w)) : Calls Tryd.prog 9 #[] w fun e w' => e = .returned (.bool true) ∧ Below w.heap.size w w' := by
  have q1 := prune_bs (hT.out.below ((Below.refl _ _).alloc (Nat.le_refl _) _) (Nat.le_refl _)) (lit_bs w [192, 128] 2 rfl (by omega) (by decide))
  rw [urune_c080] at q1
  have Q1 : Hid _ := q1
  have q2 := fun W hW => pput_any 8364 W hW
  rw [uput_20ac] at q2
  have Q2 : Hid _ := q2
  clear q1 q2
  go_enter Tryd.func9, Tryd.ntmps9
  go_wp2_with fail
  refine Calls.mono Q1.out ?_
  rintro e w1 ⟨rfl, hb1⟩
  go_wp2_with fail
  refine Calls.mono (Q2.out _ (hT.out.below (((Below.refl _ _).alloc (Nat.le_refl _) _).trans (hb1.mono (by simp))) (Nat.le_refl _))) ?_
  rintro e w2 ⟨v, rfl, hown, hb2⟩
  rw [show ([226, 130, 172] : List Int).length = 3 from rfl] at hown
  obtain ⟨a, c, rfl⟩ := own_slice hown
  have hcv := Bs.conv (Bs.of_owns hown (by decide))
  have hs : strOfNums [226, 130, 172] = ⟨#[226, 130, 172]⟩ := rfl
  rw [hs] at hcv
  have HB : Hid (Below w.heap.size w w2) := ((((Below.refl _ _).alloc (Nat.le_refl _) _).trans (hb1.mono (by simp))).trans (hb2.mono (by have := hb1.size; simp at this; omega)))
  clear hown hs hb1 hb2
  go_wp2_with fail
  refine (pvalid_bs (hT.out.below HB.out (Nat.le_refl _)) (bs_nil' _)).mono ?_
  rw [ucnt_nil]
  rintro e w3 ⟨rfl, hb3⟩
  go_wp2
  go_ret
  exact ⟨rfl, HB.out.trans (hb3.mono HB.out.size)⟩

end Go.Proofs.YtkomckalcikkoaaDoor
