/- The tables that the program's layer 3 reads (package-level arrays), what they hold, and that a call leaves them so; how many bytes a character takes. -/
import Derived.Test.YtkomckalcikkoaaDoorUCount
namespace Go.Proofs.YtkomckalcikkoaaDoor
open Go.RowKit

def szs : List Int := [1, 1, 1, 1, 1, 1, 1, 1, 1, 1, 1, 1, 1, 1, 1, 1, 0, 0, 0, 0, 0, 0, 0, 0, 2, 2, 2, 2, 3, 3, 4, 0]

def hds : List Int := [0, 0, 192, 224, 240]

/-- The tables' cells hold their numbers. -/
def Tab (w : World) : Prop :=
  (∀ i, i < 32 → w.cell? ⟨0, i, none⟩ = some (.int .i64 (szs.getD i 0))) ∧ (∀ i, i < 5 → w.cell? ⟨1, i, none⟩ = some (.int .u8 (hds.getD i 0)))

theorem cell_lt' {w : World} {b off : Nat} {v : Value} (h : w.cell? ⟨b, off, none⟩ = some v) : b < w.heap.size := by
  rcases Nat.lt_or_ge b w.heap.size with h1 | h1
  · exact h1
  · simp [World.cell?, Array.getElem?_eq_none h1] at h

theorem Tab.below {w w' : World} (h : Tab w) {B : Nat} (hb : Below B w w') (hB : w.heap.size ≤ B) : Tab w' :=
  ⟨fun i hi => (hb.cell (Nat.lt_of_lt_of_le (cell_lt' (h.1 i hi)) hB)).trans (h.1 i hi), fun i hi => (hb.cell (Nat.lt_of_lt_of_le (cell_lt' (h.2 i hi)) hB)).trans (h.2 i hi)⟩

theorem Tab.lt {w : World} (h : Tab w) : 0 < w.heap.size ∧ 1 < w.heap.size := ⟨cell_lt' (h.1 0 (by omega)), cell_lt' (h.2 0 (by omega))⟩

/-- A first byte's size. -/
theorem Tab.size {w : World} (h : Tab w) (c : Int) (h0 : 0 ≤ c) (h1 : c ≤ 255) (s : Int) (hs : (c < 128 ∧ s = 1) ∨ (128 ≤ c ∧ c < 192 ∧ s = 0) ∨ (192 ≤ c ∧ c < 224 ∧ s = 2) ∨ (224 ≤ c ∧ c < 240 ∧ s = 3) ∨ (240 ≤ c ∧ c < 248 ∧ s = 4) ∨ (248 ≤ c ∧ s = 0)) :
    w.cell? ⟨0, (c / 8).toNat, none⟩ = some (.int .i64 s) := by
  obtain ⟨i, hi⟩ : ∃ i : Nat, c / 8 = (i : Int) := ⟨(c / 8).toNat, by omega⟩
  have hi32 : i < 32 := by omega
  have e := h.1 i hi32
  have key : ∀ i : Fin 32, szs.getD i.val 0 = (if i.val < 16 then 1 else if i.val < 24 then 0 else if i.val < 28 then 2 else if i.val < 30 then 3 else if i.val < 31 then 4 else 0) := by decide
  have k := key ⟨i, hi32⟩
  simp only at k
  rw [hi, Int.toNat_natCast, e, k]
  congr 2
  repeat' split <;> omega

def usz (n : Int) : Int := (uput n).length

theorem usz_eq (n : Int) : usz n = if isCh n then (if n < 128 then 1 else if n < 2048 then 2 else if n < 65536 then 3 else 4) else 0 := by
  unfold usz uput
  repeat' split
  all_goals first | rfl | (simp_all)

set_option maxHeartbeats 400000 in
theorem sizeOf_any (n : Int) (w : World) :
    Calls Tryd.prog 17 #[.int .i32 n] w fun e w' => e = .returned (.int .i64 (usz n)) ∧ w = w' := by
  by_cases h0 : n < 0
  · have E : Hid (usz n = 0) := by show _ = _; rw [usz_eq, if_neg]; rw [isCh_iff]; omega
    go_enter Tryd.func17, Tryd.ntmps17
    go_wp2
    go_ret
    exact ⟨by rw [E.out]; rfl, rfl⟩
  by_cases h1 : 1114111 < n
  · have E : Hid (usz n = 0) := by show _ = _; rw [usz_eq, if_neg]; rw [isCh_iff]; omega
    go_enter Tryd.func17, Tryd.ntmps17
    go_wp2
    go_ret
    exact ⟨by rw [E.out]; rfl, rfl⟩
  by_cases h2 : 55296 ≤ n
  · by_cases h3 : n ≤ 57343
    · have E : Hid (usz n = 0) := by show _ = _; rw [usz_eq, if_neg]; rw [isCh_iff]; omega
      go_enter Tryd.func17, Tryd.ntmps17
      go_wp2
      go_ret
      exact ⟨by rw [E.out]; rfl, rfl⟩
    · have hc : isCh n = true := by rw [isCh_iff]; omega
      have a1 : ¬ n < 128 := by omega
      have a2 : ¬ n < 2048 := by omega
      by_cases h4 : n < 65536
      · have E : Hid (usz n = 3) := by show _ = _; rw [usz_eq, if_pos hc, if_neg a1, if_neg a2, if_pos h4]
        clear hc
        go_enter Tryd.func17, Tryd.ntmps17
        go_wp2
        go_ret
        exact ⟨by rw [E.out]; rfl, rfl⟩
      · have E : Hid (usz n = 4) := by show _ = _; rw [usz_eq, if_pos hc, if_neg a1, if_neg a2, if_neg h4]
        clear hc
        go_enter Tryd.func17, Tryd.ntmps17
        go_wp2
        go_ret
        exact ⟨by rw [E.out]; rfl, rfl⟩
  · have hc : isCh n = true := by rw [isCh_iff]; omega
    have a3 : n < 65536 := by omega
    by_cases h4 : n < 128
    · have E : Hid (usz n = 1) := by show _ = _; rw [usz_eq, if_pos hc, if_pos h4]
      clear hc
      go_enter Tryd.func17, Tryd.ntmps17
      go_wp2
      go_ret
      exact ⟨by rw [E.out]; rfl, rfl⟩
    by_cases h5 : n < 2048
    · have E : Hid (usz n = 2) := by show _ = _; rw [usz_eq, if_pos hc, if_neg h4, if_pos h5]
      clear hc
      go_enter Tryd.func17, Tryd.ntmps17
      go_wp2
      go_ret
      exact ⟨by rw [E.out]; rfl, rfl⟩
    · have E : Hid (usz n = 3) := by show _ = _; rw [usz_eq, if_pos hc, if_neg h4, if_neg h5, if_pos a3]
      clear hc
      go_enter Tryd.func17, Tryd.ntmps17
      go_wp2
      go_ret
      exact ⟨by rw [E.out]; rfl, rfl⟩

end Go.Proofs.YtkomckalcikkoaaDoor
