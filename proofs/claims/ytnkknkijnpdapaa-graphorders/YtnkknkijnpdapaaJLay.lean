/- The program's own lay: what may not be is thrown, and caught. -/
import Derived.Test.YtnkknkijnpdapaaJLay0
import Derived.Defers
import Derived.Recover
namespace Go.Proofs.Ytnkknkijnpdapaa
open Go.RowKit
set_option linter.unusedVariables false
set_option linter.unusedSimpArgs false

theorem zeroFault (w : World) : (zeroValue 44).run Try.prog w = .ok (.agg #[.string ⟨#[]⟩, .int .i64 0]) w := by kernel_rfl

/-- Operations behind recover: as elsewhere. -/
theorem opsS_of_list {P : Program} {ops : Array Oper} {Q : Exit → Act → List Frame → World → Prop} {cs : List Frame} (hno : ¬ LetsOut (fun e a w => Q e a cs w)) : ∀ (os : List Oper) (k : Nat) (a : Act) (w : World), (∀ j, os[j]? = ops[k + j]? ∨ os.length ≤ j) → wpList P ops (fun e a w => Q e a cs w) os a w → wpOpsS P ops Q (List.range' k os.length) a cs w
  | [], k, a, w, _, h => h
  | o :: os, k, a, w, ho, h => by
    have h0 : ops[k]? = some o := by
      rcases ho 0 with h1 | h1
      · simpa using h1.symm
      · simp at h1
    have ih := fun a w => opsS_of_list (P := P) hno os (k + 1) a w (fun j => by
      rcases ho (j + 1) with h1 | h1
      · left
        simpa [Nat.add_assoc, Nat.add_comm 1 j] using h1
      · right
        simpa using h1)
    simp only [List.length_cons, List.range'_succ, wpOpsS, h0]
    simp only [wpList] at h
    split
    · rename_i hw
      rw [if_pos hw] at h
      rcases h with h | h
      · unfold Oper.wp at h
        generalize (execOp a.eval o).run P w = r at h ⊢
        split
        · simp [Oper.upon] at h
        · cases r with
          | ok n w' =>
            cases n <;> simp only [Oper.upon] at h ⊢ <;>
              first
                | exact ih _ _ h
                | exact Calls.mono h (fun e w'' he => by cases e <;> first | exact ih _ _ he | exact he)
                | exact Rows.mono h (fun _ _ he => ih _ _ he)
          | halt x w' => cases x <;> simp only [Oper.upon] at h ⊢ <;> exact h
      · exact absurd h.2 hno
    · rename_i hw
      rw [if_neg hw] at h
      exact ih _ _ h

theorem opsS_rest {P : Program} {ops : Array Oper} {Q : Exit → Act → List Frame → World → Prop} {cs : List Frame} {a : Act} {w : World} (k n : Nat) (hn : (ops.toList.drop k).length = n) (hno : ¬ LetsOut (fun e a w => Q e a cs w)) (h : wpList P ops (fun e a w => Q e a cs w) (ops.toList.drop k) a w) : wpOpsS P ops Q (List.range' k n) a cs w := by
  subst hn
  exact opsS_of_list hno _ k a w (fun j => .inl (by rw [List.getElem?_drop, Array.getElem?_toList])) h

theorem range_rest {α : Type} (l : List α) : List.range (l.length + 1) = 0 :: List.range' 1 l.length := by
  rw [List.range_eq_range', List.range'_succ]

/-- A region that begins with recover. -/
theorem wpS_recover {P : Program} {id : Nat} {Q : Exit → Act → List Frame → World → Prop} {cs cs' : List Frame} {a : Act} {w : World} {o : Oper} {os : List Oper} {v : Value} (hg : o.guard = none)
    (hop : o.op = .call { callee := .builtin .recover, args := #[], argTypes := #[] }) (hr : recoverD cs = some (v, cs')) (hno : ¬ LetsOut (fun e a w => Q e a cs' w))
    (h : wpList P (o :: os).toArray (fun e a w => Q e a cs' w) os (a.put o.dst v) w) : (Code.region id (o :: os).toArray false).wpS P Q a cs w := by
  refine wpS_region ?_
  have hw : Region.wanted o (yielded (o :: os).toArray a.tmps) = true := by simp [Region.wanted, hg]
  have hx : (execOp a.eval o).run P w = .ok .recover w := by simp [execOp, hop, resolve, invoke, builtin]
  rw [List.size_toArray, List.length_cons, range_rest]
  have h0 : (o :: os).toArray[0]? = some o := by simp
  simp only [wpOpsS, h0, hw, if_true, hx, hr]
  exact opsS_rest 1 _ (by simp) hno (by simpa using h)

theorem wpS_recover_none {P : Program} {id : Nat} {Q : Exit → Act → List Frame → World → Prop} {cs : List Frame} {a : Act} {w : World} {o : Oper} {os : List Oper} (hg : o.guard = none)
    (hop : o.op = .call { callee := .builtin .recover, args := #[], argTypes := #[] }) (hr : recoverD cs = none) (hno : ¬ LetsOut (fun e a w => Q e a cs w))
    (h : wpList P (o :: os).toArray (fun e a w => Q e a cs w) os (a.put o.dst .nilIface) w) : (Code.region id (o :: os).toArray false).wpS P Q a cs w := by
  refine wpS_region ?_
  have hw : Region.wanted o (yielded (o :: os).toArray a.tmps) = true := by simp [Region.wanted, hg]
  have hx : (execOp a.eval o).run P w = .ok .recover w := by simp [execOp, hop, resolve, invoke, builtin]
  rw [List.size_toArray, List.length_cons, range_rest]
  have h0 : (o :: os).toArray[0]? = some o := by simp
  simp only [wpOpsS, h0, hw, if_true, hx, hr]
  exact opsS_rest 1 _ (by simp) hno (by simpa using h)

set_option maxRecDepth 10000 in
set_option maxHeartbeats 1000000 in
theorem catch_idle (p : Addr) (w : World) :
    CallsD Try.prog 32 #[.pointer (some p)] .returning w fun e u' w' => e = .returned (.tuple #[]) ∧ u' = .returning ∧ w' = w.alloc (.cells #[.string ⟨#[]⟩, .int .i64 0] 44) := by
  have hta : ∀ W, (Instr.typeAssert .nilIface 20 44 true).run Try.prog W = .ok (.tuple #[.agg #[.string ⟨#[]⟩, .int .i64 0], .bool false]) W := fun W => by kernel_rfl
  refine callsD_of_wpS Try.func32 rfl fun c₀ cs hu => ?_
  have hr : recoverD (c₀ :: cs) = none := by simp [recoverD, hu]
  apply wpS_seq
  refine wpS_recover_none rfl rfl hr ?_ ?_
  · rintro ⟨a, w, h⟩
    simp [Exit.thenS, bodyPostS] at h
  · simp only [Try.ntmps32]
    go_wp2
    simp only [Exit.thenS]
    refine wpS_of_wp ?_
    simp only [Array.replicate_succ, Array.replicate_zero, List.push_toArray, List.append_toArray, List.nil_append, List.cons_append, List.setIfInBounds_toArray, List.set_cons_zero, List.set_cons_succ]
    go_wp2
    refine ⟨rfl, .returning, by cases c₀; simp_all, .tuple #[], ?_, rfl, rfl, rfl⟩
    simp [results, Try.results32]

set_option maxRecDepth 10000 in
set_option maxHeartbeats 1000000 in
theorem catch_panicking {g : Nat} {x y : Value} (p : ByteArray) (c : Int) (w : World) (hb : w.heap[g]? = some (.cells #[x, y] 44 (0, 0))) :
    CallsD Try.prog 32 #[.pointer (some ⟨g, 0, none⟩)] (.panicking [flt p c]) w fun e u' w' => e = .returned (.tuple #[]) ∧ u' = .panicking [{ flt p c with recovered := true }] ∧
      w'.heap[g]? = some (.cells #[.string p, .int .i64 c] 44 (0, 0)) ∧ (∀ k, k < w.heap.size → k ≠ g → w'.heap[k]? = w.heap[k]?) ∧ ∀ B, B ≤ g → Below B w w' := by
  have hta : ∀ W, (Instr.typeAssert (.iface 44 (.agg #[.string p, .int .i64 c])) 20 44 true).run Try.prog W = .ok (.tuple #[.agg #[.string p, .int .i64 c], .bool true]) W := fun W => by kernel_rfl
  have hgl : g < w.heap.size := (Array.getElem?_eq_some_iff.1 hb).1
  have c1 : w.cell? ⟨g, 0, none⟩ = some x := by simp [World.cell?, hb]
  have c2 : w.cell? ⟨g, 1, none⟩ = some y := by simp [World.cell?, hb]
  have f1 : w.frozen? ⟨g, 0, none⟩ = false := by simp [World.frozen?, hb]
  have f2 : w.frozen? ⟨g, 1, none⟩ = false := by simp [World.frozen?, hb]
  have HB : Hid _ := hb
  clear hb
  refine callsD_of_wpS Try.func32 rfl fun c₀ cs hu => ?_
  have hr : recoverD (c₀ :: cs) = some (.iface 44 (.agg #[.string p, .int .i64 c]), { c₀ with mode := .panicking [{ flt p c with recovered := true }] } :: cs) := by simp [recoverD, hu, flt]
  apply wpS_seq
  refine wpS_recover rfl rfl hr ?_ ?_
  · rintro ⟨a, w, h⟩
    simp [Exit.thenS, bodyPostS] at h
  · simp only [Try.ntmps32]
    go_wp2
    simp only [Exit.thenS]
    refine wpS_of_wp ?_
    simp only [Array.replicate_succ, Array.replicate_zero, List.push_toArray, List.append_toArray, List.nil_append, List.cons_append, List.setIfInBounds_toArray, List.set_cons_zero, List.set_cons_succ]
    go_wp2
    refine ⟨rfl, _, rfl, .tuple #[], ?_, rfl, rfl, ?_, ?_, ?_⟩
    · simp [results, Try.results32]
    · rw [Below.heap_alloc _ _ g (by simpa using hgl), blk_set (blk_set HB.out 0 _) 1 _]
      simp
    · intro k hk hkg
      rw [Below.heap_alloc _ _ k (by simpa using hk), heap_setCell_other _ _ _ _ (by simpa using hkg), heap_setCell_other _ _ _ _ (by simpa using hkg)]
    · intro B hB
      exact (((Below.refl B w).setCell (p := ⟨g, 0, none⟩) hB _).setCell (p := ⟨g, 1, none⟩) hB _).alloc (by simp; omega) _

end Go.Proofs.Ytnkknkijnpdapaa
