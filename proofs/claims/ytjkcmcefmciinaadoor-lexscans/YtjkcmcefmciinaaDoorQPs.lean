/- The contracts of the program's own quote.appendSign and quote.Text, over the turned text. -/
import Derived.Test.YtjkcmcefmciinaaDoorQTxt
namespace Go.Proofs.YtjkcmcefmciinaaDoor
open Go.RowKit
set_option linter.unusedVariables false
set_option linter.unusedSimpArgs false

theorem lits_bs (w : World) (C : Array Value) (zs : List Int) (n : Nat) (hC : C.toList = zs.map (Value.int .u8)) (hn : zs.length = n) (h1 : n ≤ 1000) (hb : ∀ c ∈ zs, 0 ≤ c ∧ c ≤ 255) : Bs (w.alloc (.cells C 5)) (some ⟨w.heap.size, 0, none⟩) n n zs := by
  refine Bs.of_owns (zs := zs) (base := w.heap.size) (n := n) ?_ hb
  have hs : C.size = n := by
    have := congrArg List.length hC
    simp at this
    omega
  rw [← hC]
  exact lit_row w 5 C n hs h1

theorem own_alloc {W : World} {base e sz n : Nat} {v : Value} {xs : List Value} (h : W.ownsRow base e sz v n xs) (o : Obj) : (W.alloc o).ownsRow base e sz v n xs :=
  own_below h ((Below.refl _ _).alloc (Nat.le_refl _) _)

/-- What a way of appendSign ends in: the signs stand behind what was there. -/
def SignEnd (base n : Nat) (xs : List Value) (w : World) (o : List Int) (e : Ending) (w' : World) : Prop :=
  ∃ v', e = .returned v' ∧ w'.ownsRow base 5 1 v' (n + o.length) (xs ++ o.map (Value.int .u8)) ∧ Below base w w'

theorem and7_u8 : ∀ a : Fin 256, bits .and .u8 (a.val : Int) 7 = ((a.val % 8 : Nat) : Int) := by decide +kernel

theorem bits_and7 (x : Int) (h0 : 0 ≤ x) (h1 : x ≤ 255) : bits .and .u8 x 7 = x % 8 := by
  have := and7_u8 ⟨x.toNat, by omega⟩
  simp only at this
  rw [show ((x.toNat : Nat) : Int) = x by omega] at this
  rw [this]; omega

end Go.Proofs.YtjkcmcefmciinaaDoor
