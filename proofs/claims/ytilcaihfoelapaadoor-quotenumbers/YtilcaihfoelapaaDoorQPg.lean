/- The contract of the program's own quote.Digits (strconv.FormatUint at base 10), over the turned text. -/
import Derived.Test.YtilcaihfoelapaaDoorQPn
import Derived.Test.YtilcaihfoelapaaDoorQShn
import Derived.Lib.AppendIntMem
import Derived.Lib.ItoaLen
namespace Go.Proofs.YtilcaihfoelapaaDoor
open Go.RowKit Go.Sort
set_option linter.unusedVariables false
set_option linter.unusedSimpArgs false

/-- The table of powers reads so. -/
def PTab (w : World) : Prop := Lib.TabIs Tryd.prog w "internal/strconv.uint64pow10" .u64 Lib.pow10Tab

theorem PTab.below {w w' : World} (h : PTab w) {B : Nat} (hb : Below B w w') (hB : w.heap.size ≤ B) : PTab w' :=
  Lib.tabBelow_of_tabIs h w' (hb.mono hB)

/-- Both tables. -/
def QPTab (w : World) : Prop := QTab w ∧ PTab w

/-- The guide's decimal digits are the plain function's. -/
theorem dec_qdg : ∀ (f u : Nat), u < 10 ^ (f + 1) → Lib.decDigits u = (qdg (f + 1) (u : Int)).map fun n => UInt8.ofNat n.toNat
  | 0, u, h => by
    have h10 : u < 10 := by simpa using h
    rw [qdg, if_pos (by omega), Lib.decDigits_one h10]
    simp only [List.map_cons, List.map_nil]
    congr 2
  | f + 1, u, h => by
    rw [qdg]
    by_cases h10 : u < 10
    · rw [if_pos (by omega), Lib.decDigits_one h10]
      simp only [List.map_cons, List.map_nil]
      congr 2
    · have := dec_qdg f (u / 10) (by rw [Nat.pow_succ] at h; omega)
      rw [if_neg (by omega), Lib.decDigits, dif_neg h10, this]
      simp only [List.map_append, List.map_cons, List.map_nil]
      congr 3

theorem dec_str (u : Nat) (h : u < 18446744073709551616) : (⟨(Lib.decDigits u).toArray⟩ : ByteArray) = strOfNums (qdg 20 (u : Int)) := by
  apply ByteArray.ext
  apply Array.ext'
  rw [strOfNums_data, dec_qdg 19 u (Nat.lt_of_lt_of_le h (by decide))]

set_option maxHeartbeats 1000000 in
theorem pfu_small (u : Nat) (hu : u < 100) (w : World) :
    Calls Tryd.prog 34 #[.int .u64 (u : Int), .int .i64 10] w fun e w' => e = .returned (.string ⟨(Lib.decDigits u).toArray⟩) ∧ Below w.heap.size w w' := by
  have hu' : (u : Int) < 100 := by omega
  have q := fun W => Sh.internal_strconv_small u hu W
  have Q : Hid _ := q
  clear q
  go_enter Tryd.func34, Tryd.ntmps34
  go_wp2_with fail
  refine Calls.mono (Q.out _) ?_
  rintro e w1 ⟨rfl, rfl⟩
  go_wp2
  go_ret
  exact ⟨rfl, Below.refl _ _⟩

set_option maxHeartbeats 2000000 in
set_option maxRecDepth 100000 in
theorem pfu_big (u : Nat) (hu : 100 ≤ u) (hu64 : u < 18446744073709551616) (w : World) (htab : PTab w) :
    Calls Tryd.prog 34 #[.int .u64 (u : Int), .int .i64 10] w fun e w' => e = .returned (.string ⟨(Lib.decDigits u).toArray⟩) ∧ Below w.heap.size w w' := by
  have hu1 : 1 ≤ u := by omega
  have hnd20 : Lib.nDigits u ≤ 20 := Lib.nDigits_le20 u hu64
  have hal : Tryd.prog.arrayLen 60 = 24 := by kernel_rfl
  have hsl : ∀ W, (Instr.sliceAt 60 (.pointer (some ⟨w.heap.size, 0, none⟩)) none (some (.int .i64 (Lib.nDigits u : Int))) none).run Tryd.prog W = .ok (.slice (some ⟨w.heap.size, 0, none⟩) (Lib.nDigits u) 24) W := fun W => by
    rw [run_sliceAt_array_h W 60 ⟨w.heap.size, 0, none⟩ (by kernel_rfl) .i64 (Lib.nDigits u : Int) (by omega) (by rw [hal]; omega)]
    go_simp
  have hH0 := Lib.holds_zero0 w 60 (Lib.nDigits u) (by omega)
  have hfmt := Sh.internal_strconv_formatBase10 w.heap.size 0 24 u (Array.replicate (Lib.nDigits u) 0) (w.alloc (.cells Lib.zeros24 60)) hH0 (by rw [Array.size_replicate]; exact Lib.lt_pow_nDigits u) hu64 (by rw [Array.size_replicate]; omega)
  rw [Array.size_replicate] at hfmt
  have HH0 := Lib.hid hH0
  have iu : ¬ (u : Int) < 100 := by omega
  have hnum := Sh.internal_strconv_numDigits u hu1 hu64 (w.alloc (.cells Lib.zeros24 60)) (Lib.tabIs_alloc htab _)
  have HN : Hid _ := hnum
  have HF : Hid _ := hfmt
  clear hH0 hal hnum hfmt
  go_enter Tryd.func34, Tryd.ntmps34
  go_wp2_with fail
  refine Calls.mono HN.out ?_
  rintro e w' ⟨rfl, rfl⟩
  go_wp2_with fail
  refine Calls.mono HF.out ?_
  rintro e w' ⟨rfl, k, v', dk, rfl, hF⟩
  have hcv : (convert 22 9 (.slice (some ⟨w.heap.size, 0, none⟩) (Lib.nDigits u) 24)).run Tryd.prog ((putRow (fun (b : UInt8) => Value.int .u8 (b.toNat : Int)) (w.alloc (.cells Lib.zeros24 60)) w.heap.size 0 dk).drewN k) = .ok (.string ⟨(Lib.decDigits u).toArray⟩) ((putRow (fun (b : UInt8) => Value.int .u8 (b.toNat : Int)) (w.alloc (.cells Lib.zeros24 60)) w.heap.size 0 dk).drewN k) := by
    have h := run_convert_bytes_back (P := Tryd.prog) ((putRow (fun (b : UInt8) => Value.int .u8 (b.toNat : Int)) (w.alloc (.cells Lib.zeros24 60)) w.heap.size 0 dk).drewN k) 22 9 5 ⟨w.heap.size, 0, none⟩ 24 (Lib.decDigits u) Tryd.underlying22 Tryd.underlying5 Tryd.underlying9 (fun j hj => by
      rw [Lib.row_is_numeral hF j hj, Lib.add_plain, World.cell?_drewN]
      exact cell?_putRow (fun (b : UInt8) => Value.int .u8 (b.toNat : Int)) _ w.heap.size 0 _ dk HH0.out (by rw [hF.size, Array.size_replicate]) j (by rw [hF.size]; rw [Lib.decDigits_length] at hj; exact hj))
    rw [Lib.decDigits_length] at h
    exact h
  obtain ⟨os, eo⟩ := Lib.fin_at w (.cells Lib.zeros24 60) dk k 0
  have hB : Below w.heap.size w ((putRow (fun (b : UInt8) => Value.int .u8 (b.toNat : Int)) (w.alloc (.cells Lib.zeros24 60)) w.heap.size 0 dk).drewN k) := by rw [eo]; exact Lib.below_grow _ w (Nat.le_refl _) k os
  generalize (putRow (fun (b : UInt8) => Value.int .u8 (b.toNat : Int)) (w.alloc (.cells Lib.zeros24 60)) w.heap.size 0 dk).drewN k = W2 at hcv hB ⊢
  clear eo HH0 HF HN
  go_wp2
  go_ret
  exact ⟨rfl, hB⟩

set_option maxHeartbeats 1000000 in
theorem pdig_any (N : Int) (w : World) (hT : Hid (PTab w)) (h0 : 0 ≤ N) (h1 : N ≤ 18446744073709551615) :
    Calls Tryd.prog 16 #[.int .u64 N] w fun e w' => e = .returned (.string (strOfNums (qdg 20 N))) ∧ Below w.heap.size w w' := by
  obtain ⟨u, rfl⟩ : ∃ u : Nat, N = (u : Int) := ⟨N.toNat, by omega⟩
  have q : Calls Tryd.prog 34 #[.int .u64 (u : Int), .int .i64 10] w fun e w' => e = .returned (.string (strOfNums (qdg 20 (u : Int)))) ∧ Below w.heap.size w w' := by
    rw [← dec_str u (by omega)]
    by_cases hu : u < 100
    · exact pfu_small u hu w
    · exact pfu_big u (by omega) (by omega) w hT.out
  generalize strOfNums (qdg 20 (u : Int)) = S at q ⊢
  have Q : Hid _ := q
  clear q
  go_enter Tryd.func16, Tryd.ntmps16
  go_wp2_with fail
  go_in
  go_wp2_with fail
  refine Calls.mono Q.out ?_
  rintro e w1 ⟨rfl, hb⟩
  go_wp2
  go_ret
  exact ⟨rfl, hb⟩

end Go.Proofs.YtilcaihfoelapaaDoor
