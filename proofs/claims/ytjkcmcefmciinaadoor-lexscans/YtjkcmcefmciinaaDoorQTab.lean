/- The table that the program's layer 4 reads by way of layer 3 (a package-level array), what it holds, and that a call leaves it so; how many bytes a character takes. -/
import Derived.Test.YtjkcmcefmciinaaDoorQPd
namespace Go.Proofs.YtjkcmcefmciinaaDoor
open Go.RowKit

def hds : List Int := [0, 0, 192, 224, 240]

/-- The table's cells hold its numbers. -/
def QTab (w : World) : Prop := ∀ i, i < 5 → w.cell? ⟨1, i, none⟩ = some (.int .u8 (hds.getD i 0))

theorem cell_lt' {w : World} {b off : Nat} {v : Value} (h : w.cell? ⟨b, off, none⟩ = some v) : b < w.heap.size := by
  rcases Nat.lt_or_ge b w.heap.size with h1 | h1
  · exact h1
  · simp [World.cell?, Array.getElem?_eq_none h1] at h

theorem QTab.below {w w' : World} (h : QTab w) {B : Nat} (hb : Below B w w') (hB : w.heap.size ≤ B) : QTab w' :=
  fun i hi => (hb.cell (Nat.lt_of_lt_of_le (cell_lt' (h i hi)) hB)).trans (h i hi)

def usz (n : Int) : Int := (uput n).length

theorem usz_eq (n : Int) : usz n = if isCh n then (if n < 128 then 1 else if n < 2048 then 2 else if n < 65536 then 3 else 4) else 0 := by
  unfold usz uput
  repeat' split
  all_goals first | rfl | (simp_all)

set_option maxHeartbeats 400000 in
theorem sizeOf_any (n : Int) (w : World) :
    Calls Tryd.prog 74 #[.int .i32 n] w fun e w' => e = .returned (.int .i64 (usz n)) ∧ w = w' := by
  by_cases h0 : n < 0
  · have E : Hid (usz n = 0) := by show _ = _; rw [usz_eq, if_neg]; rw [isCh_iff]; omega
    go_enter Tryd.func74, Tryd.ntmps74
    go_wp2
    go_ret
    exact ⟨by rw [E.out]; rfl, rfl⟩
  by_cases h1 : 1114111 < n
  · have E : Hid (usz n = 0) := by show _ = _; rw [usz_eq, if_neg]; rw [isCh_iff]; omega
    go_enter Tryd.func74, Tryd.ntmps74
    go_wp2
    go_ret
    exact ⟨by rw [E.out]; rfl, rfl⟩
  by_cases h2 : 55296 ≤ n
  · by_cases h3 : n ≤ 57343
    · have E : Hid (usz n = 0) := by show _ = _; rw [usz_eq, if_neg]; rw [isCh_iff]; omega
      go_enter Tryd.func74, Tryd.ntmps74
      go_wp2
      go_ret
      exact ⟨by rw [E.out]; rfl, rfl⟩
    · have hc : isCh n = true := by rw [isCh_iff]; omega
      have a1 : ¬ n < 128 := by omega
      have a2 : ¬ n < 2048 := by omega
      by_cases h4 : n < 65536
      · have E : Hid (usz n = 3) := by show _ = _; rw [usz_eq, if_pos hc, if_neg a1, if_neg a2, if_pos h4]
        clear hc
        go_enter Tryd.func74, Tryd.ntmps74
        go_wp2
        go_ret
        exact ⟨by rw [E.out]; rfl, rfl⟩
      · have E : Hid (usz n = 4) := by show _ = _; rw [usz_eq, if_pos hc, if_neg a1, if_neg a2, if_neg h4]
        clear hc
        go_enter Tryd.func74, Tryd.ntmps74
        go_wp2
        go_ret
        exact ⟨by rw [E.out]; rfl, rfl⟩
  · have hc : isCh n = true := by rw [isCh_iff]; omega
    have a3 : n < 65536 := by omega
    by_cases h4 : n < 128
    · have E : Hid (usz n = 1) := by show _ = _; rw [usz_eq, if_pos hc, if_pos h4]
      clear hc
      go_enter Tryd.func74, Tryd.ntmps74
      go_wp2
      go_ret
      exact ⟨by rw [E.out]; rfl, rfl⟩
    by_cases h5 : n < 2048
    · have E : Hid (usz n = 2) := by show _ = _; rw [usz_eq, if_pos hc, if_neg h4, if_pos h5]
      clear hc
      go_enter Tryd.func74, Tryd.ntmps74
      go_wp2
      go_ret
      exact ⟨by rw [E.out]; rfl, rfl⟩
    · have E : Hid (usz n = 3) := by show _ = _; rw [usz_eq, if_pos hc, if_neg h4, if_neg h5, if_pos a3]
      clear hc
      go_enter Tryd.func74, Tryd.ntmps74
      go_wp2
      go_ret
      exact ⟨by rw [E.out]; rfl, rfl⟩

theorem usz_ways (n : Int) : (usz n = 1 ↔ 0 ≤ n ∧ n < 128) ∧ (usz n = 2 ↔ 128 ≤ n ∧ n < 2048) ∧ (usz n = 3 ↔ 2048 ≤ n ∧ n < 65536 ∧ (n < 55296 ∨ 57343 < n)) ∧ (usz n = 4 ↔ 65536 ≤ n ∧ n ≤ 1114111) := by
  rw [usz_eq]
  by_cases hc : isCh n = true
  · have := (isCh_iff n).1 hc
    rw [if_pos hc]
    clear hc
    refine ⟨?_, ?_, ?_, ?_⟩ <;> (repeat' split) <;> omega
  · have : ¬ (0 ≤ n ∧ n ≤ 1114111 ∧ (n < 55296 ∨ 57343 < n)) := fun h => hc ((isCh_iff n).2 h)
    rw [if_neg hc]
    clear hc
    refine ⟨?_, ?_, ?_, ?_⟩ <;> omega

end Go.Proofs.YtjkcmcefmciinaaDoor
