/- The contract of the document's own answer on what stands behind a backslash (the reference's escape), over the turned text. -/
import Derived.Test.YtfkhocmbhnigeaaGreatQRef
namespace Go.Proofs.YtfkhocmbhnigeaaGreat
open Go.RowKit
set_option linter.unusedVariables false

theorem str_list (zs : List Int) : (strOfNums zs).toList = zs.map fun n => UInt8.ofNat n.toNat := by rw [ByteArray.toList_eq]; rfl

theorem str_ne (c : Int) (r : List Int) : ((strOfNums (c :: r)).toList == []) = false := by rw [str_list]; rfl

/-- A text's rest. -/
theorem str_cut (zs : List Int) (a b : Nat) : (strOfNums zs).extract a b = strOfNums ((zs.drop a).take (b - a)) := by
  unfold strOfNums
  rw [ByteArray.extract_mk, List.map_take, List.map_drop]

theorem str_tail (c : Int) (r : List Int) : (strOfNums (c :: r)).extract 1 (r.length + 1) = strOfNums r := by
  rw [str_cut]
  simp

theorem own_lit (w : World) (x : Int) : (w.alloc (.cells #[.int .u8 x] 5)).ownsRow w.heap.size 5 1 (.slice (some ⟨w.heap.size, 0, none⟩) 1 1) 1 [.int .u8 x] :=
  lit_row w 5 #[.int .u8 x] 1 rfl (by omega)

/-- What a way of escape ends in. -/
def EscEnd (w : World) (p : List Int × Nat) (e : Ending) (w' : World) : Prop :=
  ∃ v, e = .returned (.tuple #[v, .int .i64 (p.2 : Int)]) ∧ w'.ownsRow w.heap.size 5 1 v p.1.length (p.1.map (Value.int .u8)) ∧ Below w.heap.size w w'

end Go.Proofs.YtfkhocmbhnigeaaGreat
