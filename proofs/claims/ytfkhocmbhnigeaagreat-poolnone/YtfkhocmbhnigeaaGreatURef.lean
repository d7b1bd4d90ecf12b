/- The contracts of the document's own answers on characters (the reference's character, PutRune, Rune, Count), over the turned text. -/
import Derived.Test.YtfkhocmbhnigeaaGreatBas
import Derived.Test.YtfkhocmbhnigeaaGreatUMath
namespace Go.Proofs.YtfkhocmbhnigeaaGreat
open Go.RowKit

/-- A slice written out is the call's own row. -/
theorem lit_row (w : World) (e : TypeId) (xs : Array Value) (n : Nat) (hn : xs.size = n) (hm : n ≤ 1000) : (w.alloc (.cells xs e)).ownsRow w.heap.size e 1 (.slice (some ⟨w.heap.size, 0, none⟩) n n) n xs.toList := by
  subst hn
  refine ⟨by simp, .inr ⟨w.heap.size, xs.size, xs, rfl, Nat.le_refl _, heap_alloc_new _ _, Nat.le_refl _, by unfold maxLen; omega, by simp, by rw [Nat.mul_one]; exact List.take_of_length_le (by simp)⟩⟩

end Go.Proofs.YtfkhocmbhnigeaaGreat
