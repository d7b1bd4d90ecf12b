/- When two tokens are alike, as the model compares structs. -/
import Derived.Test.YtjkcmcefmciinaaDoorLRef4
import Derived.Laws.StructEq
namespace Go.Proofs.YtjkcmcefmciinaaDoor
open Go.RowKit
set_option linter.unusedVariables false
set_option linter.unusedSimpArgs false

theorem tok_guard : Tryd.prog.eqGuardType Tryd.prog.depth 40 = false := by kernel_rfl

theorem tok_held : Tryd.prog.stoodInHeld 40 = false := by kernel_rfl

theorem tok_neq (k1 n1 p1 k2 n2 p2 : Int) (t1 d1 t2 d2 : ByteArray) (W : World) :
    (binOp .neq 40 (.agg #[.int .i64 k1, .string t1, .int .u64 n1, .int .i64 p1, .string d1]) (.agg #[.int .i64 k2, .string t2, .int .u64 n2, .int .i64 p2, .string d2])).run Tryd.prog W =
      .ok (.bool (!(k1 == k2 && t1.toList == t2.toList && n1 == n2 && p1 == p2 && d1.toList == d2.toList))) W := by
  have hu : Tryd.prog.underlying 40 = some (.struct (Tryd.prog.fieldsOf 40)) := by
    simp only [Program.fieldsOf, Tryd.underlying40]
  rw [run_neq_struct, run_equalIn_agg W 9999 40 _ _ hu tok_held]
  simp only [Program.fieldsOf, Tryd.underlying40, Op.eqFields]
  simp [go_sem, Tryd.underlying3, Tryd.underlying9, Tryd.underlying38]
  by_cases h1 : k1 = k2
  · by_cases h2 : t1.toList = t2.toList
    · by_cases h3 : n1 = n2
      · by_cases h4 : p1 = p2
        · by_cases h5 : d1.toList = d2.toList
          · simp [h1, h2, h3, h4, h5]
          · simp [h1, h2, h3, h4, h5]
        · simp [h1, h2, h3, h4]
      · simp [h1, h2, h3]
    · simp [h1, h2]
  · simp [h1]

end Go.Proofs.YtjkcmcefmciinaaDoor
