/- The contracts of the reference's own Ident, Join, Parent, camel, Json, Entry. -/
import Derived.Test.YtfkhocmbhnigeaaGreatNMath
import Derived.Test.YtfkhocmbhnigeaaGreatLRef2
import Derived.Test.YtfkhocmbhnigeaaGreatQNum
namespace Go.Proofs.YtfkhocmbhnigeaaGreat
open Go.RowKit
set_option linter.unusedVariables false
set_option linter.unusedSimpArgs false

theorem nident_big (s : List Int) (h : 200 < s.length ∨ s.length = 0) : nident s = false := by
  unfold nident
  rw [decide_eq_false (by omega)]
  simp

theorem nident_bad (s : List Int) (k : Nat) (hk : k < s.length) (h : lletter (s.getD k 0) = false) : nident s = false := by
  unfold nident
  have : s.all lletter = false := by
    rw [List.all_eq_false]
    refine ⟨s[k], List.getElem_mem hk, ?_⟩
    rw [show s.getD k 0 = s[k] by simp [List.getD, hk]] at h
    rw [h]; decide
  rw [this]; rfl

theorem nident_good (s : List Int) (h : ∀ k, k < s.length → lletter (s.getD k 0) = true) (h1 : 1 ≤ s.length) (h2 : s.length ≤ 200) : nident s = !lnumb (s.getD 0 0) := by
  unfold nident
  have : s.all lletter = true := by
    rw [List.all_eq_true]
    intro c hc
    obtain ⟨k, hk, rfl⟩ := List.getElem_of_mem hc
    have := h k hk
    rwa [show s.getD k 0 = s[k] by simp [List.getD, hk]] at this
  rw [this, decide_eq_true ⟨h1, h2⟩]; rfl

set_option maxHeartbeats 1000000 in
theorem rjoin_any (a b : List Int) (w : World) (hl : a.length + b.length ≤ 1000000) :
    Calls Tryz.prog 95 #[.string (strOfNums a), .string (strOfNums b)] w fun e w' => e = .returned (.string (strOfNums (njoin a b))) ∧ w = w' := by
  unfold njoin
  by_cases h : a = []
  · rw [if_pos h]
    have hne : ((strOfNums a).toList == []) = true := by rw [h, str_list]; rfl
    generalize strOfNums a = A at hne
    generalize strOfNums b = B
    go_enter Tryz.func95, Tryz.ntmps95
    go_wp2
    go_ret
    exact ⟨rfl, rfl⟩
  · rw [if_neg h]
    have hne : ((strOfNums a).toList == []) = false := by
      cases a with
      | nil => exact absurd rfl h
      | cons c r => exact str_ne c r
    have h1 : ∀ W, (Op.stringOp .add (strOfNums a) { data := #[46] }).run Tryz.prog W = .ok (.string (strOfNums (a ++ [46]))) W := fun W => run_add W a [46] (by simp; omega)
    have h2 : ∀ W, (Op.stringOp .add (strOfNums (a ++ [46])) (strOfNums b)).run Tryz.prog W = .ok (.string (strOfNums (a ++ [46] ++ b))) W := fun W => run_add W (a ++ [46]) b (by simp; omega)
    clear h
    generalize strOfNums (a ++ [46] ++ b) = R at h2
    generalize strOfNums (a ++ [46]) = AP at h1 h2
    generalize strOfNums a = A at hne h1
    generalize strOfNums b = B at h2
    go_enter Tryz.func95, Tryz.ntmps95
    go_wp2
    go_ret
    exact ⟨rfl, rfl⟩

end Go.Proofs.YtfkhocmbhnigeaaGreat
