/- Put together by a program out of these texts of mine: TCell. -/
import Derived.Test.YtgkablmglkagfaaGreatDoorBunC4

/- The cells of a boxed parameter behind a call. -/
namespace Go.Proofs.YtgkablmglkagfaaGreatDoor
open Go.RowKit
set_option linter.unusedVariables false

theorem own_cells {w w1 : World} {cs : Array Value} {ty : TypeId} (hb : Below (w.alloc (.cells cs ty)).heap.size (w.alloc (.cells cs ty)) w1) (i : Nat) (v : Value) (hv : cs[i]? = some v) : w1.cell? ⟨w.heap.size, i, none⟩ = some v :=
  (hb.cell (by simp)).trans (by rw [World.cell?_alloc_new]; exact hv)

end Go.Proofs.YtgkablmglkagfaaGreatDoor
