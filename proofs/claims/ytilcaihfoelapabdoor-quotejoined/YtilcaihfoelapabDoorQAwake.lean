/- The law's own 'awake' of layer 4: the chapter's examples hold. -/
import Derived.Test.YtilcaihfoelapabDoorQPn
namespace Go.Proofs.YtilcaihfoelapabDoor
open Go.RowKit

def ex1 : List Int := [34, 97, 92, 120, 52, 49, 92, 49, 48, 49, 92, 117, 50, 48, 65, 67, 34, 32, 98]

theorem ex1_take : qtake ex1 = ([97, 65, 65, 226, 130, 172], 17, 0) := by decide

theorem ex1_bd : ∀ i, 0 ≤ ex1.getD i 0 ∧ ex1.getD i 0 ≤ 255 := getD_bd (by decide)

theorem ex2_num : qnum [48, 49, 55] = (15, true) := by decide

theorem ex2_bd : ∀ i, 0 ≤ ([48, 49, 55] : List Int).getD i 0 ∧ ([48, 49, 55] : List Int).getD i 0 ≤ 255 := getD_bd (by decide)

set_option maxHeartbeats 400000 in
theorem qawake_any (w : World) (hT : Hid (QTab w)) : Calls Tryd.prog 4 #[] w fun e w' => e = .returned (.bool true) ∧ Below w.heap.size w w' := by
  have q1 := ptak_any ex1 w hT ex1_bd (by decide)
  rw [ex1_take, show strOfNums ex1 = ⟨#[34, 97, 92, 120, 52, 49, 92, 49, 48, 49, 92, 117, 50, 48, 65, 67, 34, 32, 98]⟩ from rfl] at q1
  have Q1 : Hid _ := q1
  have q2 := fun W => pnum_any [48, 49, 55] W ex2_bd (by decide)
  rw [ex2_num, show strOfNums [48, 49, 55] = ⟨#[48, 49, 55]⟩ from rfl] at q2
  have Q2 : Hid _ := q2
  clear q1 q2
  go_enter Tryd.func4, Tryd.ntmps4
  go_wp2_with fail
  refine Calls.mono Q1.out ?_
  rintro e w1 ⟨v, rfl, hown, hb1⟩
  rw [show ([97, 65, 65, 226, 130, 172] : List Int).length = 6 from rfl] at hown
  obtain ⟨a, c, rfl⟩ := own_slice hown
  have hB1 : Hid (Bs w1 a 6 c [97, 65, 65, 226, 130, 172]) := Bs.of_owns hown (by decide)
  have HB : Hid (Below w.heap.size w w1) := hb1
  clear hown hb1
  go_wp2_with fail
  refine Calls.mono (Q2.out _) ?_
  rintro e w2 ⟨rfl, hb2⟩
  have hcv := Bs.conv (hB1.out.below hb2 (Nat.le_refl _))
  rw [show strOfNums [97, 65, 65, 226, 130, 172] = ⟨#[97, 65, 65, 226, 130, 172]⟩ from rfl] at hcv
  have HB2 : Hid (Below w.heap.size w w2) := HB.out.trans (hb2.mono HB.out.size)
  clear hb2
  go_wp2
  go_ret
  exact ⟨rfl, HB2.out⟩

end Go.Proofs.YtilcaihfoelapabDoor
