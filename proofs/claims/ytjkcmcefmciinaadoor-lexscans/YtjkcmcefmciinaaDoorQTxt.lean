/- The contract of the document's own quoted text (the reference's Text), over the turned text. -/
import Derived.Test.YtjkcmcefmciinaaDoorQDig
namespace Go.Proofs.YtjkcmcefmciinaaDoor
open Go.RowKit
set_option linter.unusedVariables false
set_option linter.unusedSimpArgs false

theorem flat_take (zs : List Int) (k : Nat) (h : k < zs.length) : (zs.take (k + 1)).flatMap qch = (zs.take k).flatMap qch ++ qch (zs.getD k 0) := by
  rw [List.take_succ_eq_append_getElem h, List.flatMap_append]
  simp [List.getD, List.getElem?_eq_getElem h]

end Go.Proofs.YtjkcmcefmciinaaDoor
