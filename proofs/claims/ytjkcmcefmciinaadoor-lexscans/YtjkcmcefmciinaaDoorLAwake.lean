/- The law's own 'awake' of layer 5: the chapter's example holds. -/
import Derived.Test.YtjkcmcefmciinaaDoorLPf
import Derived.Test.YtjkcmcefmciinaaDoorLPg
namespace Go.Proofs.YtjkcmcefmciinaaDoor
open Go.RowKit
set_option linter.unusedVariables false

def lex1 : List Int := [97, 32, 61, 32, 48, 120, 49, 48, 59, 32, 47, 47, 32, 98]

theorem lex1_scan : lscan lex1 = ([⟨1, [97], 0, 0, []⟩, ⟨4, [61], 0, 2, []⟩, ⟨2, [], 16, 4, []⟩, ⟨4, [59], 0, 8, []⟩, ⟨0, [], 0, 14, []⟩], 0, 0) := by decide +kernel

theorem lex1_bd : ∀ i, 0 ≤ lex1.getD i 0 ∧ lex1.getD i 0 ≤ 255 := getD_bd (by decide)

set_option maxHeartbeats 400000 in
theorem lawake_any (w : World) (hT : Hid (LTab w)) : Calls Tryd.prog 9 #[] w fun e w' => e = .returned (.bool true) ∧ Below w.heap.size w w' := by
  have q := pscan_any lex1 w hT lex1_bd (by decide)
  rw [lex1_scan, show strOfNums lex1 = ⟨#[97, 32, 61, 32, 48, 120, 49, 48, 59, 32, 47, 47, 32, 98]⟩ from rfl] at q
  have Q : Hid _ := q
  clear q
  go_enter Tryd.func9, Tryd.ntmps9
  go_wp2_with fail
  refine Calls.mono Q.out ?_
  rintro e w1 ⟨v, rfl, hto, hb⟩
  obtain ⟨g, c, rfl⟩ := own_pos hto.1 (by decide)
  have c1 := hto.1.cellAt 1 (by decide)
  have c12 := hto.1.cellAt 12 (by decide)
  have c20 := hto.1.cellAt 20 (by decide)
  change w1.cell? ⟨g, 1, none⟩ = some (.string { data := #[97] }) at c1
  change w1.cell? ⟨g, 12, none⟩ = some (.int .u64 16) at c12
  change w1.cell? ⟨g, 20, none⟩ = some (.int .i64 0) at c20
  rw [show ([⟨1, [97], 0, 0, []⟩, ⟨4, [61], 0, 2, []⟩, ⟨2, [], 16, 4, []⟩, ⟨4, [59], 0, 8, []⟩, ⟨0, [], 0, 14, []⟩] : List Tk).length = 5 from rfl]
  clear hto
  go_wp2
  go_ret
  exact ⟨rfl, hb⟩

end Go.Proofs.YtjkcmcefmciinaaDoor
