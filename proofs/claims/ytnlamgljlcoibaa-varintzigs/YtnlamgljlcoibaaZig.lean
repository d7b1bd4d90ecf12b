/- Contracts of the document's own answers for numbers with a sign (the reference's Zig and Zag), over the turned text. -/
import Derived.Test.YtnlamgljlcoibaaWalks
namespace Go.Proofs.Ytnlamgljlcoibaa
open Go.RowKit

set_option maxHeartbeats 400000 in
theorem rzig_any (n : Int) (w : World) (h0 : -9223372036854775808 ≤ n) (h1 : n ≤ 9223372036854775807) :
    Calls Try.prog 16 #[.int .i64 n] w fun e w' => e = .returned (.int .u64 (zg n)) ∧ w = w' := by
  go_enter Try.func16, Try.ntmps16
  go_wp2
  all_goals go_ret
  · exact ⟨ret_int (by unfold zg; rw [if_pos (by assumption)]), rfl⟩
  · exact ⟨ret_int (by unfold zg; rw [if_neg (by omega)]), rfl⟩

set_option maxHeartbeats 400000 in
theorem rzag_any (n : Int) (w : World) (h0 : 0 ≤ n) (h1 : n ≤ 18446744073709551615) :
    Calls Try.prog 18 #[.int .u64 n] w fun e w' => e = .returned (.int .i64 (zb n)) ∧ w = w' := by
  by_cases h : n % 2 = 1
  · have ht : (n % 2 == 1) = true := by simpa using h
    go_enter Try.func18, Try.ntmps18
    go_wp2
    go_ret
    exact ⟨ret_int (by unfold zb; rw [if_pos h]), rfl⟩
  · have ht : (n % 2 == 1) = false := by simpa using h
    go_enter Try.func18, Try.ntmps18
    go_wp2
    go_ret
    exact ⟨ret_int (by unfold zb; rw [if_neg h]), rfl⟩

end Go.Proofs.Ytnlamgljlcoibaa
