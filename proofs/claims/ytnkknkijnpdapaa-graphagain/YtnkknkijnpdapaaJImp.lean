/- The program's own Clone, imports: what a path imports, or a panic. -/
import Derived.Test.YtnkknkijnpdapaaJBy
import Derived.Test.YtnkknkijnpdapaaJSh
import Derived.WalkLawsBesides
namespace Go.Proofs.Ytnkknkijnpdapaa
open Go.RowKit
set_option linter.unusedVariables false
set_option linter.unusedSimpArgs false

set_option maxHeartbeats 400000 in
theorem pclone_any (S : ByteArray) (w : World) (hlen : Hid (Tsm S)) :
    Calls Try.prog 24 #[.string S] w fun e w' => e = .returned (.string S) ∧ Below w.heap.size w w' := by
  have Q : Hid _ := Sh.stringslite_Clone S w (by have := hlen.out; unfold Tsm at this; omega)
  clear hlen
  go_enter Try.func24, Try.ntmps24
  go_wp2_with fail
  refine Calls.mono Q.out ?_
  rintro e w1 ⟨rfl, hb⟩
  go_wp2
  go_ret
  exact ⟨rfl, hb⟩

/-- What is thrown: a path, and why. -/
def flt (p : ByteArray) (c : Int) : PanicEntry := { v := .iface 44 (.agg #[.string p, .int .i64 c]), recovered := false }

set_option maxRecDepth 10000 in
set_option maxHeartbeats 2000000 in
theorem pimp_none {us : List Um} {W : World} {b n : Nat} (p : ByteArray) (hM : Hid (Mg W b n (ug us))) (hp : Hid (p.size ≤ maxLen)) (hq : Hid (ug us p = none)) :
    Calls Try.prog 34 #[.map (some b), .string p] W fun e W' => e = .panicked [flt p 100] ∧ Below W.heap.size W W' := by
  have hlk := hM.out.look Try.underlying52 (zeroUnit _) p hp.out true
  rw [hq.out] at hlk
  simp only [mlook] at hlk
  go_enter Try.func34, Try.ntmps34
  go_wp2
  exact ⟨rfl, rfl, ((Below.refl _ _).alloc (Nat.le_refl _) _)⟩

set_option maxRecDepth 10000 in
set_option maxHeartbeats 2000000 in
theorem pimp_two {w : World} {us : List Um} {W : World} {b n : Nat} (p : ByteArray) {u : Um} (hM : Hid (Mg W b n (ug us))) (hp : Hid (p.size ≤ maxLen)) (hq : Hid (ug us p = some u.val)) (hS : Hid (Sb w u.da u.deps.length u.dc u.deps)) (hs : Hid (∀ z ∈ u.deps, Tsm z)) (hB : Hid (Below w.heap.size w W)) (hd : Hid (hdup u.deps = true)) :
    Calls Try.prog 34 #[.map (some b), .string p] W fun e W' => e = .panicked [flt p 102] ∧ Below W.heap.size W W' := by
  have hlk := hM.out.look Try.underlying52 (zeroUnit _) p hp.out true
  rw [hq.out] at hlk
  simp only [mlook, Um.val] at hlk
  have Q : Hid _ := ptwice_any hS hs (W.alloc (.cells #[.string u.path, .slice u.da u.deps.length u.dc, .slice u.pa u.pub.length u.pc] 40)) (hB.out.alloc hB.out.size _)
  rw [hd.out] at Q
  obtain ⟨up, uda, udc, ud, upa, upc, upb⟩ := u
  simp only at hlk Q
  clear hM hp hq hS hs hB hd
  go_enter Try.func34, Try.ntmps34
  go_wp2_with fail
  refine Calls.mono Q.out ?_
  rintro e w1 ⟨rfl, hb1⟩
  clear Q
  go_wp2
  exact ⟨rfl, rfl, ((Below.refl _ W).alloc (Nat.le_refl _) _).trans (hb1.mono (by simp))⟩

set_option maxRecDepth 10000 in
set_option maxHeartbeats 2000000 in
theorem pimp_ok {w : World} {us : List Um} {W : World} {b n : Nat} (p : ByteArray) {u : Um} (hM : Hid (Mg W b n (ug us))) (hp : Hid (p.size ≤ maxLen)) (hq : Hid (ug us p = some u.val)) (hS : Hid (Sb w u.da u.deps.length u.dc u.deps)) (hs : Hid (∀ z ∈ u.deps, Tsm z)) (hB : Hid (Below w.heap.size w W)) (hd : Hid (hdup u.deps = false)) :
    Calls Try.prog 34 #[.map (some b), .string p] W fun e W' => e = .returned (.slice u.da u.deps.length u.dc) ∧ Below W.heap.size W W' := by
  have hlk := hM.out.look Try.underlying52 (zeroUnit _) p hp.out true
  rw [hq.out] at hlk
  simp only [mlook, Um.val] at hlk
  have Q : Hid _ := ptwice_any hS hs (W.alloc (.cells #[.string u.path, .slice u.da u.deps.length u.dc, .slice u.pa u.pub.length u.pc] 40)) (hB.out.alloc hB.out.size _)
  rw [hd.out] at Q
  obtain ⟨up, uda, udc, ud, upa, upc, upb⟩ := u
  simp only at hlk Q
  clear hM hp hq hS hs hB hd
  go_enter Try.func34, Try.ntmps34
  go_wp2_with fail
  refine Calls.mono Q.out ?_
  rintro e w1 ⟨rfl, hb1⟩
  clear Q
  have hc1 : w1.cell? ⟨W.heap.size, 1, none⟩ = some (.slice uda ud.length udc) := by
    rw [hb1.cell (by simp)]
    simp [World.cell?_alloc_new]
  have hgl : W.heap.size < w1.heap.size := by have := hb1.size; simp at this; omega
  go_wp2
  go_ret
  exact ⟨rfl, ((Below.refl _ W).alloc (Nat.le_refl _) _).trans (hb1.mono (by simp))⟩

end Go.Proofs.Ytnkknkijnpdapaa
