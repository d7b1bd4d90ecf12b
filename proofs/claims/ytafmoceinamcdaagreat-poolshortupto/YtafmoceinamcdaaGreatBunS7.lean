/- Put together by a program out of these texts of mine: VDs, Bulk, VOp. -/
import Derived.Test.YtafmoceinamcdaaGreatBunS1
import Derived.Test.YtafmoceinamcdaaGreatBunS6

namespace Go.Proofs.YtafmoceinamcdaaGreat
open Go.RowKit
set_option linter.unusedVariables false
set_option linter.unusedSimpArgs false

set_option maxRecDepth 100000 in
set_option maxHeartbeats 4000000 in
theorem pdeep_any (A K Y : ByteArray) (a : Option Addr) (n c : Nat) (ms : List Md) (r2 : Option Addr) (u2 v2 : Nat) (r3 : Option Addr) (u3 v3 : Nat) (r5 : Option Addr) (u5 v5 : Nat) (r6 : Option Addr) (u6 v6 : Nat) (r7 : Option Addr) (u7 v7 : Nat) (r9 : Option Addr) (u9 v9 : Nat) (r10 : Option Addr) (u10 v10 : Nat) (w : World) (h : Ok Tryz.prog w 34 (.ls a n c ms)) :
    Calls Tryz.prog 118 #[.agg #[.string A, .string K, .slice r2 u2 v2, .slice r3 u3 v3, .slice a n c, .slice r5 u5 v5, .slice r6 u6 v6, .slice r7 u7 v7, .string Y, .slice r9 u9 v9, .slice r10 u10 v10]] w fun e w' => (∃ z : Int, e = .returned (.int .i64 z) ∧ (0 ≤ z ∧ z ≤ 100) ∧ decide (64 < z) = !okd 64 n ms) ∧ Below w.heap.size w w' := by
  obtain ⟨w3, hw3⟩ : ∃ w3, w3 = ((w.alloc (.cells #[.string A, .string K, .slice r2 u2 v2, .slice r3 u3 v3, .slice a n c, .slice r5 u5 v5, .slice r6 u6 v6, .slice r7 u7 v7, .string Y, .slice r9 u9 v9, .slice r10 u10 v10] 62)).alloc (.cells #[.int .i64 0] 3)).alloc (.cells #[.func (.func 142) #[] #[.pointer (some ⟨w.heap.size + 1, 0, none⟩), .pointer (some ⟨w.heap.size + 1 + 1, 0, none⟩)]] 200) := ⟨_, rfl⟩
  have o0 : Ob w3 w.heap.size #[.string A, .string K, .slice r2 u2 v2, .slice r3 u3 v3, .slice a n c, .slice r5 u5 v5, .slice r6 u6 v6, .slice r7 u7 v7, .string Y, .slice r9 u9 v9, .slice r10 u10 v10] 62 := by rw [hw3]; exact ((Ob.new w _ _).alloc _).alloc _
  have od : Ob w3 (w.heap.size + 1) #[.int .i64 0] 3 := by
    rw [hw3]
    have := (Ob.new (w.alloc (.cells #[.string A, .string K, .slice r2 u2 v2, .slice r3 u3 v3, .slice a n c, .slice r5 u5 v5, .slice r6 u6 v6, .slice r7 u7 v7, .string Y, .slice r9 u9 v9, .slice r10 u10 v10] 62)) #[.int .i64 0] 3).alloc (.cells #[.func (.func 142) #[] #[.pointer (some ⟨w.heap.size + 1, 0, none⟩), .pointer (some ⟨w.heap.size + 1 + 1, 0, none⟩)]] 200)
    simpa using this
  have oq : Ob w3 (w.heap.size + 1 + 1) #[dwnV (w.heap.size + 1) (w.heap.size + 1 + 1)] 200 := by
    rw [hw3]
    have := Ob.new ((w.alloc (.cells #[.string A, .string K, .slice r2 u2 v2, .slice r3 u3 v3, .slice a n c, .slice r5 u5 v5, .slice r6 u6 v6, .slice r7 u7 v7, .string Y, .slice r9 u9 v9, .slice r10 u10 v10] 62)).alloc (.cells #[.int .i64 0] 3)) #[dwnV (w.heap.size + 1) (w.heap.size + 1 + 1)] 200
    simpa [dwnV] using this
  have hb3 : Below w.heap.size w w3 := by rw [hw3]; exact (((Below.refl _ w).alloc (Nat.le_refl _) _).alloc (by simp) _).alloc (by simp; omega) _
  have Q0 := pdown_all w 64 (Nat.le_refl _) a n c ms w3 0 (w.heap.size + 1) (w.heap.size + 1 + 1) h hb3 (by omega) (by omega) od oq (by omega) (by omega)
  rw [show (65 - ((64 : Nat) : Int)) = 1 from rfl] at Q0
  have Q : Hid _ := Q0
  have c4 : w3.cell? ⟨w.heap.size, 4, none⟩ = some (.slice a n c) := o0.cell 4 rfl
  obtain ⟨c5, f5, l5⟩ := ob1 oq
  unfold dwnV at c5
  have hl0 := o0.lt
  have HB3 : Hid _ := hb3
  have HW : Hid _ := hw3
  have hmf : ∀ (fn : Fn) (first cap : Array Value) (w : World), (Instr.makeFunc fn first cap).run Tryz.prog w = .ok (.func fn first cap) w := fun _ _ _ _ => rfl
  have e4 : (((w.alloc (.cells #[.string A, .string K, .slice r2 u2 v2, .slice r3 u3 v3, .slice a n c, .slice r5 u5 v5, .slice r6 u6 v6, .slice r7 u7 v7, .string Y, .slice r9 u9 v9, .slice r10 u10 v10] 62)).alloc (.cells #[.int .i64 0] 3)).alloc (.cells #[.nilFunc] 200)).heap[w.heap.size + 1 + 1]? = some (.cells #[.nilFunc] 200 (0, 0)) := by
    have := heap_alloc_new ((w.alloc (.cells #[.string A, .string K, .slice r2 u2 v2, .slice r3 u3 v3, .slice a n c, .slice r5 u5 v5, .slice r6 u6 v6, .slice r7 u7 v7, .string Y, .slice r9 u9 v9, .slice r10 u10 v10] 62)).alloc (.cells #[.int .i64 0] 3)) (.cells #[.nilFunc] 200)
    simpa using this
  obtain ⟨x4, y4, z4⟩ := ob1 (Ob.mk e4)
  clear o0 od oq hb3 hw3 h e4 Q0
  go_enter Tryz.func118, Tryz.ntmps118
  go_upto_region 4 with fail
  rw [← HW.out]
  clear HW x4 y4 z4
  go_wp2_with fail
  refine Calls.mono Q.out ?_
  rintro e w4 ⟨rfl, hg4, x', od4, x0, x65, x64⟩
  have HB4 : Hid (Below w.heap.size w w4) := below_grown HB3.out HB3.out.size hg4 (by omega)
  obtain ⟨d1, d2, d3⟩ := ob1 od4
  have X64 : Hid _ := x64
  clear od4 hg4 c4 c5 f5 l5 HB3 Q x64
  rcases hq : okd 64 n ms with _ | _
  · go_wp2
    go_ret
    exact ⟨⟨100, rfl, by omega, by rw [hq]; rfl⟩, HB4.out⟩
  · have H4 : Hid (x' ≤ 64) := X64.out hq (by omega)
    go_wp2
    go_ret
    exact ⟨⟨x', rfl, ⟨x0, by omega⟩, by rw [hq]; exact decide_eq_false (by have h4 : x' ≤ 64 := H4.out; omega)⟩, HB4.out⟩

set_option maxRecDepth 100000 in
set_option maxHeartbeats 4000000 in
theorem ptoo_any (A K Y : ByteArray) (a : Option Addr) (n c : Nat) (ms : List Md) (r2 : Option Addr) (u2 v2 : Nat) (r3 : Option Addr) (u3 v3 : Nat) (r5 : Option Addr) (u5 v5 : Nat) (r6 : Option Addr) (u6 v6 : Nat) (r7 : Option Addr) (u7 v7 : Nat) (r9 : Option Addr) (u9 v9 : Nat) (r10 : Option Addr) (u10 v10 : Nat) (w : World) (h : Ok Tryz.prog w 34 (.ls a n c ms)) :
    Calls Tryz.prog 69 #[.agg #[.string A, .string K, .slice r2 u2 v2, .slice r3 u3 v3, .slice a n c, .slice r5 u5 v5, .slice r6 u6 v6, .slice r7 u7 v7, .string Y, .slice r9 u9 v9, .slice r10 u10 v10]] w fun e w' => e = .returned (.bool (!okd 64 n ms)) ∧ Below w.heap.size w w' := by
  obtain ⟨w3, hw3⟩ : ∃ w3, w3 = w.alloc (.cells #[.string A, .string K, .slice r2 u2 v2, .slice r3 u3 v3, .slice a n c, .slice r5 u5 v5, .slice r6 u6 v6, .slice r7 u7 v7, .string Y, .slice r9 u9 v9, .slice r10 u10 v10] 62) := ⟨_, rfl⟩
  have hb3 : Below w.heap.size w w3 := by rw [hw3]; exact (Below.refl _ w).alloc (Nat.le_refl _) _
  have o0 : Ob w3 w.heap.size #[.string A, .string K, .slice r2 u2 v2, .slice r3 u3 v3, .slice a n c, .slice r5 u5 v5, .slice r6 u6 v6, .slice r7 u7 v7, .string Y, .slice r9 u9 v9, .slice r10 u10 v10] 62 := by rw [hw3]; exact Ob.new _ _ _
  have Q : Hid _ := pdeep_any A K Y a n c ms r2 u2 v2 r3 u3 v3 r5 u5 v5 r6 u6 v6 r7 u7 v7 r9 u9 v9 r10 u10 v10 w3 (h.under hb3 (Nat.le_refl _))
  have HB3 : Hid _ := hb3
  have HW : Hid _ := hw3
  clear h hb3 hw3
  obtain ⟨⟨c0, c1, c2, c3, c4, c5, c6, c7, c8, c9, c10⟩, _, cl⟩ := ob11 o0
  clear o0
  go_enter Tryz.func69, Tryz.ntmps69
  go_upto_region 1 with fail
  rw [← HW.out]
  clear HW
  go_wp2_with fail
  refine Calls.mono Q.out ?_
  rintro e w4 ⟨⟨z, rfl, hz, ez⟩, hb4⟩
  have HB4 : Hid (Below w.heap.size w w4) := HB3.out.trans (hb4.mono HB3.out.size)
  have EZ : Hid _ := ez
  clear hb4 c0 c1 c2 c3 c4 c5 c6 c7 c8 c9 c10 cl HB3 Q ez
  go_wp2
  go_ret
  exact ⟨by rw [← EZ.out]; rfl, HB4.out⟩

end Go.Proofs.YtafmoceinamcdaaGreat

namespace Go.Proofs.YtafmoceinamcdaaGreat
open Go.ChangeShapes Go.WideShapes Go.ChangeAt Go.RowKit

theorem bulk_len {H : Type} (l : List (DataW H)) : l.length ≤ Rows.uptoBulkAll l := by
  induction l with
  | nil => simp
  | cons x r ih =>
    have h1 : 1 ≤ Rows.uptoBulk x := by
      cases x with
      | lit l => cases l <;> simp [Rows.uptoBulk]
      | _ => simp [Rows.uptoBulk]
    simp only [Rows.uptoBulkAll, List.length_cons]
    omega

end Go.Proofs.YtafmoceinamcdaaGreat

namespace Go.Proofs.YtafmoceinamcdaaGreat
open Go.ChangeShapes Go.WideShapes Go.ChangeAt Go.RowKit
set_option linter.unusedVariables false
set_option linter.unusedSimpArgs false

theorem mem_bulkV {H : Type} : ∀ (l : List (DataW H)) (d : DataW H), d ∈ l → Rows.uptoBulk d ≤ Rows.uptoBulkAll l
  | x :: r, d, h => by
    simp only [Rows.uptoBulkAll]
    rcases List.mem_cons.1 h with rfl | h
    · omega
    · have := mem_bulkV r d h
      omega

def lightT (P : Program) (L : List TypeId) : Bool := L.all fun T => match P.underlying T with
  | some (.slice E) => decide (P.bytesOf E ≤ 100000)
  | _ => true

theorem str_bulk {H : Type} {P : Program} {enc : TypeId × Value → H} {W : World} {T : TypeId} {s : ByteArray} {fuel : Nat} {x : DataW H × List MemPlace} (hu : P.underlying T = some .string) (h : DataW.trod enc P W 0 (fun _ => true) true fuel T [.string s] = some x) : s.size + 1 ≤ Rows.uptoBulk x.1 := by
  obtain ⟨s', e, hx, _⟩ := DataW.trod_string hu h
  simp at e
  subst e
  rw [hx]
  simp [Rows.uptoBulk]

end Go.Proofs.YtafmoceinamcdaaGreat
