/- The contracts of the reference's own Word, Keyword. -/
import Derived.Test.YtfkhocmbhnigeaaGreatNStr
namespace Go.Proofs.YtfkhocmbhnigeaaGreat
open Go.RowKit
set_option linter.unusedVariables false
set_option linter.unusedSimpArgs false

/-- The words of the plain types, each at its type's number. -/
def nwords : List (List Int) := [[], [100, 111, 117, 98, 108, 101], [102, 108, 111, 97, 116], [105, 110, 116, 54, 52], [117, 105, 110, 116, 54, 52], [105, 110, 116, 51, 50], [102, 105, 120, 101, 100, 54, 52], [102, 105, 120, 101, 100, 51, 50], [98, 111, 111, 108], [115, 116, 114, 105, 110, 103], [], [], [98, 121, 116, 101, 115], [117, 105, 110, 116, 51, 50], [], [115, 102, 105, 120, 101, 100, 51, 50], [115, 102, 105, 120, 101, 100, 54, 52], [115, 105, 110, 116, 51, 50], [115, 105, 110, 116, 54, 52]]

/-- The other words with a meaning. -/
def nkeys : List (List Int) := [[109, 101, 115, 115, 97, 103, 101], [101, 110, 117, 109], [101, 120, 116, 101, 110, 100], [101, 120, 116, 101, 110, 115, 105, 111, 110, 115], [111, 112, 116, 105, 111, 110], [111, 110, 101, 111, 102], [109, 97, 112], [114, 101, 115, 101, 114, 118, 101, 100], [111, 112, 116, 105, 111, 110, 97, 108], [114, 101, 113, 117, 105, 114, 101, 100], [114, 101, 112, 101, 97, 116, 101, 100], [114, 112, 99], [115, 101, 114, 118, 105, 99, 101], [105, 109, 112, 111, 114, 116], [112, 97, 99, 107, 97, 103, 101], [115, 121, 110, 116, 97, 120], [115, 116, 114, 101, 97, 109], [114, 101, 116, 117, 114, 110, 115], [116, 111], [109, 97, 120], [112, 117, 98, 108, 105, 99]]

def nwf (s : List Int) : List (List Int) → Nat → Nat
  | [], _ => 0
  | z :: r, k => if z ≠ [] ∧ z = s then k else nwf s r (k + 1)

/-- The type of a plain type's word; 0: none. -/
def nword (s : List Int) : Nat := nwf s nwords 0

def nkey (s : List Int) : Bool := decide (s ∈ nkeys) || decide (nword s ≠ 0)

theorem nwords_bd : ∀ z ∈ nwords, byts z := by unfold byts; decide

theorem nkeys_bd : ∀ z ∈ nkeys, byts z := by unfold byts; decide

theorem lit_cell (W : World) (C : Array Value) (zs : List (List Int)) (hC : C.toList = zs.map scell) (k : Nat) (z : List Int) (hz : zs[k]? = some z) : (W.alloc (.cells C 9)).cell? ⟨W.heap.size, k, none⟩ = some (.string (strOfNums z)) := by
  rw [World.cell?_alloc_new, ← Array.getElem?_toList, hC, List.getElem?_map, hz]
  rfl

end Go.Proofs.YtfkhocmbhnigeaaGreat
