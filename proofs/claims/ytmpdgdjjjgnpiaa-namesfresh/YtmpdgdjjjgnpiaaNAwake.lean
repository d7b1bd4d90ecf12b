/- The law's own 'awake' of layer 6: the chapter's examples hold. -/
import Derived.Test.YtmpdgdjjjgnpiaaNProg
namespace Go.Proofs.Ytmpdgdjjjgnpiaa
open Go.RowKit
set_option linter.unusedVariables false

theorem nex1 : ncam false [102, 111, 111, 95, 98, 97, 114, 95, 95, 98, 97, 122, 49] = [102, 111, 111, 66, 97, 114, 66, 97, 122, 49] := by decide

theorem nex2 : ncam true [109, 121, 95, 109, 97, 112] ++ nentry = [77, 121, 77, 97, 112, 69, 110, 116, 114, 121] := by decide

theorem nex3 : nplaces [97, 46, 98] [99] = [[97, 46, 98, 46, 99], [97, 46, 99], [99]] := by decide

set_option maxHeartbeats 1000000 in
theorem nawake_any (w : World) (hT : Hid (NTab w)) : Calls Try.prog 9 #[] w fun e w' => e = .returned (.bool true) ∧ Below w.heap.size w w' := by
  have q1 := pplaces_any [97, 46, 98] [99] w hT (by unfold Hid byts; decide) (by unfold Hid byts; decide) (by decide) (by decide)
  rw [nex3, show strOfNums [97, 46, 98] = ⟨#[97, 46, 98]⟩ from rfl, show strOfNums [99] = ⟨#[99]⟩ from rfl] at q1
  have q2 := fun W (hB : Below w.heap.size w W) => pjson_any [102, 111, 111, 95, 98, 97, 114, 95, 95, 98, 97, 122, 49] W (hT.out.below hB (Nat.le_refl _)) (getD_bd (by decide)) (by decide)
  simp only [nex1, show strOfNums [102, 111, 111, 95, 98, 97, 114, 95, 95, 98, 97, 122, 49] = ⟨#[102, 111, 111, 95, 98, 97, 114, 95, 95, 98, 97, 122, 49]⟩ from rfl, show strOfNums [102, 111, 111, 66, 97, 114, 66, 97, 122, 49] = ⟨#[102, 111, 111, 66, 97, 114, 66, 97, 122, 49]⟩ from rfl] at q2
  have q3 := fun W (hB : Below w.heap.size w W) => pentry_any [109, 121, 95, 109, 97, 112] W (hT.out.below hB (Nat.le_refl _)) (getD_bd (by decide)) (by decide)
  simp only [nex2, show strOfNums [109, 121, 95, 109, 97, 112] = ⟨#[109, 121, 95, 109, 97, 112]⟩ from rfl, show strOfNums [77, 121, 77, 97, 112, 69, 110, 116, 114, 121] = ⟨#[77, 121, 77, 97, 112, 69, 110, 116, 114, 121]⟩ from rfl] at q3
  have Q1 : Hid _ := q1
  have Q2 : Hid _ := q2
  have Q3 : Hid _ := q3
  clear q1 q2 q3
  go_enter Try.func9, Try.ntmps9
  go_wp2_with fail
  refine Calls.mono Q1.out ?_
  rintro e w1 ⟨v, rfl, hO, hb1⟩
  obtain ⟨g, c, rfl⟩ := own_pos hO.1 (by decide)
  have hS := Ss.of_own hO
  obtain ⟨b, off, he, hlt, hc⟩ := hS.2.2.2.2.2 (by decide)
  simp only [Option.some.injEq, Addr.mk.injEq, and_true] at he
  obtain ⟨rfl, rfl⟩ := he
  have HC0 : Hid (∀ W, Below w1.heap.size w1 W → W.cell? ⟨g, 0, none⟩ = some (.string { data := #[97, 46, 98, 46, 99] })) := fun W hW => (hW.cell hlt).trans (hc 0 _ rfl)
  have HC2 : Hid (∀ W, Below w1.heap.size w1 W → W.cell? ⟨g, 2, none⟩ = some (.string { data := #[99] })) := fun W hW => (hW.cell hlt).trans (hc 2 _ rfl)
  rw [show ([[97, 46, 98, 46, 99], [97, 46, 99], [99]] : List (List Int)).length = 3 from rfl]
  clear hO hS hc hlt
  go_wp2_with fail
  refine Calls.mono (Q2.out _ hb1) ?_
  rintro e w2 ⟨rfl, hb2⟩
  have hB2 : Below w.heap.size w w2 := hb1.trans (hb2.mono hb1.size)
  go_wp2_with fail
  refine Calls.mono (Q3.out _ hB2) ?_
  rintro e w3 ⟨rfl, hb3⟩
  have hB3 : Below w.heap.size w w3 := hB2.trans (hb3.mono hB2.size)
  have c0 := HC0.out w3 (hb2.trans (hb3.mono hb2.size))
  have c2 := HC2.out w3 (hb2.trans (hb3.mono hb2.size))
  have HB3 : Hid (Below w.heap.size w w3) := hB3
  clear hb1 hb2 hb3 hB2 hB3
  go_wp2
  go_ret
  exact ⟨rfl, HB3.out⟩

end Go.Proofs.Ytmpdgdjjjgnpiaa
