/- Put together by a program out of these texts of mine: VShx. -/
import Derived.OrdersHeld
import Derived.Test.YtafmoceinamcdaaGreatBunS45

namespace Go.Proofs.YtafmoceinamcdaaGreat
open Go.RowKit
set_option linter.unusedVariables false
set_option linter.unusedSimpArgs false

theorem wpAnyH_takeD {P : Program} {md : Region.Mode} {ops : Array Oper} {Q : Exit → Act → World → Prop} {S : World → Prop} {i : Nat} (d : Nat) {oi : Oper} {v : Value} {fuel : Nat} {listed : Array Bool} {a : Act} {w : World} (hi : ops[i]? = some oi) (hd : oi.dst = some d)
    (hs : Region.noSelect ops = true) (hf : Region.free md ops listed i = true) (hr : (Region.ready md ops listed).contains i = true)
    (hQ : ∀ c a w, Q (.panic c) (a.put oi.dst v) w → Q (.panic c) a w) (hy : YieldsIf P ops S oi v a) (hS : S w)
    (h : wpAnyH P md ops Q S fuel (listed.setIfInBounds i true) { a with tmps := a.tmps.setIfInBounds d v } w) : wpAnyH P md ops Q S (fuel + 1) listed a w :=
  wpAnyH_take hi hs hf hr hQ hy hS (by rw [hd]; exact h)

variable {ρ : Operand → Value} {o : Oper} {V : World}

theorem ex_move {x : Operand} {v : Value} (ho : o.op = .move x) (hx : ρ x = v) : (execOp ρ o).run Tryz.prog V = .ok (.value v) V := by
  unfold execOp; rw [ho]; subst hx; rfl

theorem ex_unit {x ix : Operand} {g off n c k : Nat} (ho : o.op = .indexAddr 72 x ix) (hx : ρ x = .slice (some ⟨g, off, none⟩) n c) (hi : ρ ix = .int .i64 (k : Int)) (hk : k < n) : (execOp ρ o).run Tryz.prog V = .ok (.value (.pointer (some ⟨g, off + k * 3, none⟩))) V := by
  have hik : (k : Int) < (n : Int) := by omega
  unfold execOp
  rw [ho]
  simp only [hx, hi]
  clear hx hi
  go_simp

theorem ex_u0 {x : Operand} {g off : Nat} (ho : o.op = .fieldAddr 75 x 0) (hx : ρ x = .pointer (some ⟨g, off, none⟩)) : (execOp ρ o).run Tryz.prog V = .ok (.value (.pointer (some ⟨g, off, none⟩))) V := by
  unfold execOp
  rw [ho]
  simp only [hx]
  clear hx
  go_simp

theorem ex_u1 {x : Operand} {g off : Nat} (ho : o.op = .fieldAddr 75 x 1) (hx : ρ x = .pointer (some ⟨g, off, none⟩)) : (execOp ρ o).run Tryz.prog V = .ok (.value (.pointer (some ⟨g, off + 1, none⟩))) V := by
  unfold execOp
  rw [ho]
  simp only [hx]
  clear hx
  go_simp

theorem ex_u2 {x : Operand} {g off : Nat} (ho : o.op = .fieldAddr 75 x 2) (hx : ρ x = .pointer (some ⟨g, off, none⟩)) : (execOp ρ o).run Tryz.prog V = .ok (.value (.pointer (some ⟨g, off + 2, none⟩))) V := by
  unfold execOp
  rw [ho]
  simp only [hx]
  clear hx
  go_simp

theorem ex_f0 {x : Operand} {g off : Nat} (ho : o.op = .fieldAddr 62 x 0) (hx : ρ x = .pointer (some ⟨g, off, none⟩)) : (execOp ρ o).run Tryz.prog V = .ok (.value (.pointer (some ⟨g, off, none⟩))) V := by
  unfold execOp
  rw [ho]
  simp only [hx]
  clear hx
  go_simp

theorem ex_f2 {x : Operand} {g off : Nat} (ho : o.op = .fieldAddr 62 x 2) (hx : ρ x = .pointer (some ⟨g, off, none⟩)) : (execOp ρ o).run Tryz.prog V = .ok (.value (.pointer (some ⟨g, off + 2, none⟩))) V := by
  unfold execOp
  rw [ho]
  simp only [hx]
  clear hx
  go_simp

theorem ex_f3 {x : Operand} {g off : Nat} (ho : o.op = .fieldAddr 62 x 3) (hx : ρ x = .pointer (some ⟨g, off, none⟩)) : (execOp ρ o).run Tryz.prog V = .ok (.value (.pointer (some ⟨g, off + 3, none⟩))) V := by
  unfold execOp
  rw [ho]
  simp only [hx]
  clear hx
  go_simp

theorem ex_loads {x : Operand} {p : Addr} {s : ByteArray} (ho : o.op = .load 9 x) (hx : ρ x = .pointer (some p)) (hc : V.cell? p = some (.string s)) : (execOp ρ o).run Tryz.prog V = .ok (.value (.string s)) V := by
  unfold execOp
  rw [ho]
  simp only [hx]
  clear hx
  go_simp

theorem ex_loadt {x : Operand} {p : Addr} {a : Option Addr} {n c : Nat} (ho : o.op = .load 30 x) (hx : ρ x = .pointer (some p)) (hc : V.cell? p = some (.slice a n c)) : (execOp ρ o).run Tryz.prog V = .ok (.value (.slice a n c)) V := by
  unfold execOp
  rw [ho]
  simp only [hx]
  clear hx
  go_simp

theorem ex_loadi {x : Operand} {p : Addr} {a : Option Addr} {n c : Nat} (ho : o.op = .load 59 x) (hx : ρ x = .pointer (some p)) (hc : V.cell? p = some (.slice a n c)) : (execOp ρ o).run Tryz.prog V = .ok (.value (.slice a n c)) V := by
  unfold execOp
  rw [ho]
  simp only [hx]
  clear hx
  go_simp

theorem ex_geq {x y : Operand} {k n : Nat} {t' : TypeId} (ho : o.op = .binOp .geq 3 x y t') (hx : ρ x = .int .i64 (k : Int)) (hy : ρ y = .int .i64 (n : Int)) (hk : k < n) : (execOp ρ o).run Tryz.prog V = .ok (.value (.bool false)) V := by
  have hik : decide ((n : Int) ≤ (k : Int)) = false := decide_eq_false (by omega)
  unfold execOp
  rw [ho]
  simp only [hx, hy]
  clear hx hy
  go_simp
  try simp
  try omega

theorem ex_neqs {x y : Operand} {s : ByteArray} {t' : TypeId} (ho : o.op = .binOp .neq 9 x y t') (hx : ρ x = .string s) (hy : ρ y = .string s) : (execOp ρ o).run Tryz.prog V = .ok (.value (.bool false)) V := by
  have hff : (s.toList == s.toList) = true := by simp
  unfold execOp
  rw [ho]
  simp only [hx, hy]
  clear hx hy
  go_simp
  try simp

theorem ex_neqn {x y : Operand} {n : Nat} {t' : TypeId} (ho : o.op = .binOp .neq 3 x y t') (hx : ρ x = .int .i64 (n : Int)) (hy : ρ y = .int .i64 (n : Int)) : (execOp ρ o).run Tryz.prog V = .ok (.value (.bool false)) V := by
  unfold execOp
  rw [ho]
  simp only [hx, hy]
  clear hx hy
  go_simp
  try simp

theorem ex_pick {x y : Operand} {t : Operand} {v : Value} (ho : o.op = .pick t x y) (ht : ρ t = .bool false) (hy : ρ y = v) : (execOp ρ o).run Tryz.prog V = .ok (.value v) V := by
  unfold execOp
  rw [ho]
  simp only [ht]
  subst hy
  first | rfl | go_simp

theorem ex_not {x : Operand} {t : TypeId} (ho : o.op = .unOp .not t x) (hx : ρ x = .bool true) : (execOp ρ o).run Tryz.prog V = .ok (.value (.bool false)) V := by
  unfold execOp
  rw [ho]
  simp only [hx]
  first | rfl | go_simp

theorem ex_lenU {x : Operand} {a : Option Addr} {n c : Nat} (ho : o.op = .call { callee := .builtin .len, args := #[x], argTypes := #[72] }) (hx : ρ x = .slice a n c) : (execOp ρ o).run Tryz.prog V = .ok (.value (.int .i64 (n : Int))) V := by
  unfold execOp
  rw [ho]
  simp only [hx]
  go_simp

theorem ex_lenI {x : Operand} {a : Option Addr} {n c : Nat} (ho : o.op = .call { callee := .builtin .len, args := #[x], argTypes := #[59] }) (hx : ρ x = .slice a n c) : (execOp ρ o).run Tryz.prog V = .ok (.value (.int .i64 (n : Int))) V := by
  unfold execOp
  rw [ho]
  simp only [hx]
  go_simp

end Go.Proofs.YtafmoceinamcdaaGreat
