/- The contract of the program's own quote.takeEscape, over the turned text. -/
import Derived.Test.YtjkcmcefmciinaaDoorQPe
import Derived.Test.YtjkcmcefmciinaaDoorQSh
namespace Go.Proofs.YtjkcmcefmciinaaDoor
open Go.RowKit
set_option linter.unusedVariables false
set_option linter.unusedSimpArgs false

theorem ix_none (l : List UInt8) (x : UInt8) (h : ∀ b ∈ l, b ≠ x) : Lib.indexByte l x = -1 := by
  induction l with
  | nil => rfl
  | cons b l ih =>
    have hb : (b == x) = false := by simpa using h b (by simp)
    rw [Lib.indexByte, hb, ih (fun y hy => h y (by simp [hy]))]
    rfl

theorem pix (c i : Int) (w : World) (h : Lib.indexByte [97, 98, 102, 110, 114, 116, 118, 92, 39, 34, 63] c.toNat.toUInt8 = i) :
    Calls Tryd.prog 33 #[.string { data := #[97, 98, 102, 110, 114, 116, 118, 92, 39, 34, 63] }, .int .u8 c] w fun e w' => e = .returned (.int .i64 i) ∧ w = w' := by
  refine (Sh.strings_IndexByte { data := #[97, 98, 102, 110, 114, 116, 118, 92, 39, 34, 63] } c w).mono ?_
  rintro e w' ⟨rfl, rfl⟩
  exact ⟨by rw [← h], rfl⟩

theorem pix_none (c : Int) (w : World) (h0 : 0 ≤ c) (h1 : c ≤ 255) (h : ∀ x ∈ ([97, 98, 102, 110, 114, 116, 118, 92, 39, 34, 63] : List Int), c ≠ x) :
    Calls Tryd.prog 33 #[.string { data := #[97, 98, 102, 110, 114, 116, 118, 92, 39, 34, 63] }, .int .u8 c] w fun e w' => e = .returned (.int .i64 (-1)) ∧ w = w' := by
  refine pix c (-1) w (ix_none _ _ ?_)
  intro b hb he
  have e : (c.toNat.toUInt8).toNat = c.toNat := by
    simp only [Nat.toUInt8_eq, UInt8.toNat_ofNat']
    omega
  rw [← he] at e
  have : c = (b.toNat : Int) := by omega
  simp only [List.mem_cons, List.not_mem_nil, or_false] at hb h
  rcases hb with rfl | rfl | rfl | rfl | rfl | rfl | rfl | rfl | rfl | rfl | rfl
  all_goals exact h c (by rw [this]; decide) rfl

theorem pesc_nil (w : World) : Calls Tryd.prog 66 #[.string (strOfNums [])] w fun e w' => EscEnd w ([], 0) e w' := by
  have hne : ((strOfNums []).toList == []) = true := by rw [str_list]; rfl
  generalize strOfNums [] = S at hne
  go_enter Tryd.func66, Tryd.ntmps66
  go_wp2
  go_ret2
  exact EscEnd_no (Below.refl _ _)

set_option maxHeartbeats 1000000 in
theorem pesc_97 (r : List Int) (w : World) (hz : Hid (∀ i, 0 ≤ ((97 : Int) :: r).getD i 0 ∧ ((97 : Int) :: r).getD i 0 ≤ 255)) (hlen : ((r.length : Int) + 1) ≤ 9223372036854775807) :
    Calls Tryd.prog 66 #[.string (strOfNums (97 :: r))] w fun e w' => EscEnd w ([7], 1) e w' := by
  have hsz := strOfNums_size (97 :: r)
  have hat := str_at (97 :: r) hz.out 0 (by rw [hsz]; simp)
  simp only [List.length_cons] at hsz
  rw [show ((97 : Int) :: r).getD 0 0 = 97 from rfl] at hat
  have hne := str_ne 97 r
  generalize strOfNums (97 :: r) = S at hsz hat hne
  have q := fun W => pix 97 0 W (by decide)
  have Q : Hid _ := q
  clear q
  go_enter Tryd.func66, Tryd.ntmps66
  go_wp2_with fail
  refine Calls.mono (Q.out _) ?_
  rintro e w1 ⟨rfl, rfl⟩
  go_wp2
  go_ret2
  exact EscEnd_one 7 1 1 rfl (Below.refl _ _)

set_option maxHeartbeats 1000000 in
theorem pesc_98 (r : List Int) (w : World) (hz : Hid (∀ i, 0 ≤ ((98 : Int) :: r).getD i 0 ∧ ((98 : Int) :: r).getD i 0 ≤ 255)) (hlen : ((r.length : Int) + 1) ≤ 9223372036854775807) :
    Calls Tryd.prog 66 #[.string (strOfNums (98 :: r))] w fun e w' => EscEnd w ([8], 1) e w' := by
  have hsz := strOfNums_size (98 :: r)
  have hat := str_at (98 :: r) hz.out 0 (by rw [hsz]; simp)
  simp only [List.length_cons] at hsz
  rw [show ((98 : Int) :: r).getD 0 0 = 98 from rfl] at hat
  have hne := str_ne 98 r
  generalize strOfNums (98 :: r) = S at hsz hat hne
  have q := fun W => pix 98 1 W (by decide)
  have Q : Hid _ := q
  clear q
  go_enter Tryd.func66, Tryd.ntmps66
  go_wp2_with fail
  refine Calls.mono (Q.out _) ?_
  rintro e w1 ⟨rfl, rfl⟩
  go_wp2
  go_ret2
  exact EscEnd_one 8 1 1 rfl (Below.refl _ _)

set_option maxHeartbeats 1000000 in
theorem pesc_102 (r : List Int) (w : World) (hz : Hid (∀ i, 0 ≤ ((102 : Int) :: r).getD i 0 ∧ ((102 : Int) :: r).getD i 0 ≤ 255)) (hlen : ((r.length : Int) + 1) ≤ 9223372036854775807) :
    Calls Tryd.prog 66 #[.string (strOfNums (102 :: r))] w fun e w' => EscEnd w ([12], 1) e w' := by
  have hsz := strOfNums_size (102 :: r)
  have hat := str_at (102 :: r) hz.out 0 (by rw [hsz]; simp)
  simp only [List.length_cons] at hsz
  rw [show ((102 : Int) :: r).getD 0 0 = 102 from rfl] at hat
  have hne := str_ne 102 r
  generalize strOfNums (102 :: r) = S at hsz hat hne
  have q := fun W => pix 102 2 W (by decide)
  have Q : Hid _ := q
  clear q
  go_enter Tryd.func66, Tryd.ntmps66
  go_wp2_with fail
  refine Calls.mono (Q.out _) ?_
  rintro e w1 ⟨rfl, rfl⟩
  go_wp2
  go_ret2
  exact EscEnd_one 12 1 1 rfl (Below.refl _ _)

set_option maxHeartbeats 1000000 in
theorem pesc_110 (r : List Int) (w : World) (hz : Hid (∀ i, 0 ≤ ((110 : Int) :: r).getD i 0 ∧ ((110 : Int) :: r).getD i 0 ≤ 255)) (hlen : ((r.length : Int) + 1) ≤ 9223372036854775807) :
    Calls Tryd.prog 66 #[.string (strOfNums (110 :: r))] w fun e w' => EscEnd w ([10], 1) e w' := by
  have hsz := strOfNums_size (110 :: r)
  have hat := str_at (110 :: r) hz.out 0 (by rw [hsz]; simp)
  simp only [List.length_cons] at hsz
  rw [show ((110 : Int) :: r).getD 0 0 = 110 from rfl] at hat
  have hne := str_ne 110 r
  generalize strOfNums (110 :: r) = S at hsz hat hne
  have q := fun W => pix 110 3 W (by decide)
  have Q : Hid _ := q
  clear q
  go_enter Tryd.func66, Tryd.ntmps66
  go_wp2_with fail
  refine Calls.mono (Q.out _) ?_
  rintro e w1 ⟨rfl, rfl⟩
  go_wp2
  go_ret2
  exact EscEnd_one 10 1 1 rfl (Below.refl _ _)

set_option maxHeartbeats 1000000 in
theorem pesc_114 (r : List Int) (w : World) (hz : Hid (∀ i, 0 ≤ ((114 : Int) :: r).getD i 0 ∧ ((114 : Int) :: r).getD i 0 ≤ 255)) (hlen : ((r.length : Int) + 1) ≤ 9223372036854775807) :
    Calls Tryd.prog 66 #[.string (strOfNums (114 :: r))] w fun e w' => EscEnd w ([13], 1) e w' := by
  have hsz := strOfNums_size (114 :: r)
  have hat := str_at (114 :: r) hz.out 0 (by rw [hsz]; simp)
  simp only [List.length_cons] at hsz
  rw [show ((114 : Int) :: r).getD 0 0 = 114 from rfl] at hat
  have hne := str_ne 114 r
  generalize strOfNums (114 :: r) = S at hsz hat hne
  have q := fun W => pix 114 4 W (by decide)
  have Q : Hid _ := q
  clear q
  go_enter Tryd.func66, Tryd.ntmps66
  go_wp2_with fail
  refine Calls.mono (Q.out _) ?_
  rintro e w1 ⟨rfl, rfl⟩
  go_wp2
  go_ret2
  exact EscEnd_one 13 1 1 rfl (Below.refl _ _)

set_option maxHeartbeats 1000000 in
theorem pesc_116 (r : List Int) (w : World) (hz : Hid (∀ i, 0 ≤ ((116 : Int) :: r).getD i 0 ∧ ((116 : Int) :: r).getD i 0 ≤ 255)) (hlen : ((r.length : Int) + 1) ≤ 9223372036854775807) :
    Calls Tryd.prog 66 #[.string (strOfNums (116 :: r))] w fun e w' => EscEnd w ([9], 1) e w' := by
  have hsz := strOfNums_size (116 :: r)
  have hat := str_at (116 :: r) hz.out 0 (by rw [hsz]; simp)
  simp only [List.length_cons] at hsz
  rw [show ((116 : Int) :: r).getD 0 0 = 116 from rfl] at hat
  have hne := str_ne 116 r
  generalize strOfNums (116 :: r) = S at hsz hat hne
  have q := fun W => pix 116 5 W (by decide)
  have Q : Hid _ := q
  clear q
  go_enter Tryd.func66, Tryd.ntmps66
  go_wp2_with fail
  refine Calls.mono (Q.out _) ?_
  rintro e w1 ⟨rfl, rfl⟩
  go_wp2
  go_ret2
  exact EscEnd_one 9 1 1 rfl (Below.refl _ _)

set_option maxHeartbeats 1000000 in
theorem pesc_118 (r : List Int) (w : World) (hz : Hid (∀ i, 0 ≤ ((118 : Int) :: r).getD i 0 ∧ ((118 : Int) :: r).getD i 0 ≤ 255)) (hlen : ((r.length : Int) + 1) ≤ 9223372036854775807) :
    Calls Tryd.prog 66 #[.string (strOfNums (118 :: r))] w fun e w' => EscEnd w ([11], 1) e w' := by
  have hsz := strOfNums_size (118 :: r)
  have hat := str_at (118 :: r) hz.out 0 (by rw [hsz]; simp)
  simp only [List.length_cons] at hsz
  rw [show ((118 : Int) :: r).getD 0 0 = 118 from rfl] at hat
  have hne := str_ne 118 r
  generalize strOfNums (118 :: r) = S at hsz hat hne
  have q := fun W => pix 118 6 W (by decide)
  have Q : Hid _ := q
  clear q
  go_enter Tryd.func66, Tryd.ntmps66
  go_wp2_with fail
  refine Calls.mono (Q.out _) ?_
  rintro e w1 ⟨rfl, rfl⟩
  go_wp2
  go_ret2
  exact EscEnd_one 11 1 1 rfl (Below.refl _ _)

set_option maxHeartbeats 1000000 in
theorem pesc_92 (r : List Int) (w : World) (hz : Hid (∀ i, 0 ≤ ((92 : Int) :: r).getD i 0 ∧ ((92 : Int) :: r).getD i 0 ≤ 255)) (hlen : ((r.length : Int) + 1) ≤ 9223372036854775807) :
    Calls Tryd.prog 66 #[.string (strOfNums (92 :: r))] w fun e w' => EscEnd w ([92], 1) e w' := by
  have hsz := strOfNums_size (92 :: r)
  have hat := str_at (92 :: r) hz.out 0 (by rw [hsz]; simp)
  simp only [List.length_cons] at hsz
  rw [show ((92 : Int) :: r).getD 0 0 = 92 from rfl] at hat
  have hne := str_ne 92 r
  generalize strOfNums (92 :: r) = S at hsz hat hne
  have q := fun W => pix 92 7 W (by decide)
  have Q : Hid _ := q
  clear q
  go_enter Tryd.func66, Tryd.ntmps66
  go_wp2_with fail
  refine Calls.mono (Q.out _) ?_
  rintro e w1 ⟨rfl, rfl⟩
  go_wp2
  go_ret2
  exact EscEnd_one 92 1 1 rfl (Below.refl _ _)

set_option maxHeartbeats 1000000 in
theorem pesc_39 (r : List Int) (w : World) (hz : Hid (∀ i, 0 ≤ ((39 : Int) :: r).getD i 0 ∧ ((39 : Int) :: r).getD i 0 ≤ 255)) (hlen : ((r.length : Int) + 1) ≤ 9223372036854775807) :
    Calls Tryd.prog 66 #[.string (strOfNums (39 :: r))] w fun e w' => EscEnd w ([39], 1) e w' := by
  have hsz := strOfNums_size (39 :: r)
  have hat := str_at (39 :: r) hz.out 0 (by rw [hsz]; simp)
  simp only [List.length_cons] at hsz
  rw [show ((39 : Int) :: r).getD 0 0 = 39 from rfl] at hat
  have hne := str_ne 39 r
  generalize strOfNums (39 :: r) = S at hsz hat hne
  have q := fun W => pix 39 8 W (by decide)
  have Q : Hid _ := q
  clear q
  go_enter Tryd.func66, Tryd.ntmps66
  go_wp2_with fail
  refine Calls.mono (Q.out _) ?_
  rintro e w1 ⟨rfl, rfl⟩
  go_wp2
  go_ret2
  exact EscEnd_one 39 1 1 rfl (Below.refl _ _)

set_option maxHeartbeats 1000000 in
theorem pesc_34 (r : List Int) (w : World) (hz : Hid (∀ i, 0 ≤ ((34 : Int) :: r).getD i 0 ∧ ((34 : Int) :: r).getD i 0 ≤ 255)) (hlen : ((r.length : Int) + 1) ≤ 9223372036854775807) :
    Calls Tryd.prog 66 #[.string (strOfNums (34 :: r))] w fun e w' => EscEnd w ([34], 1) e w' := by
  have hsz := strOfNums_size (34 :: r)
  have hat := str_at (34 :: r) hz.out 0 (by rw [hsz]; simp)
  simp only [List.length_cons] at hsz
  rw [show ((34 : Int) :: r).getD 0 0 = 34 from rfl] at hat
  have hne := str_ne 34 r
  generalize strOfNums (34 :: r) = S at hsz hat hne
  have q := fun W => pix 34 9 W (by decide)
  have Q : Hid _ := q
  clear q
  go_enter Tryd.func66, Tryd.ntmps66
  go_wp2_with fail
  refine Calls.mono (Q.out _) ?_
  rintro e w1 ⟨rfl, rfl⟩
  go_wp2
  go_ret2
  exact EscEnd_one 34 1 1 rfl (Below.refl _ _)

set_option maxHeartbeats 1000000 in
theorem pesc_63 (r : List Int) (w : World) (hz : Hid (∀ i, 0 ≤ ((63 : Int) :: r).getD i 0 ∧ ((63 : Int) :: r).getD i 0 ≤ 255)) (hlen : ((r.length : Int) + 1) ≤ 9223372036854775807) :
    Calls Tryd.prog 66 #[.string (strOfNums (63 :: r))] w fun e w' => EscEnd w ([63], 1) e w' := by
  have hsz := strOfNums_size (63 :: r)
  have hat := str_at (63 :: r) hz.out 0 (by rw [hsz]; simp)
  simp only [List.length_cons] at hsz
  rw [show ((63 : Int) :: r).getD 0 0 = 63 from rfl] at hat
  have hne := str_ne 63 r
  generalize strOfNums (63 :: r) = S at hsz hat hne
  have q := fun W => pix 63 10 W (by decide)
  have Q : Hid _ := q
  clear q
  go_enter Tryd.func66, Tryd.ntmps66
  go_wp2_with fail
  refine Calls.mono (Q.out _) ?_
  rintro e w1 ⟨rfl, rfl⟩
  go_wp2
  go_ret2
  exact EscEnd_one 63 1 1 rfl (Below.refl _ _)

set_option maxHeartbeats 1000000 in
theorem pesc_120 (r : List Int) (w : World) (hz : Hid (∀ i, 0 ≤ ((120 : Int) :: r).getD i 0 ∧ ((120 : Int) :: r).getD i 0 ≤ 255)) (hlen : ((r.length : Int) + 1) ≤ 9223372036854775807) :
    Calls Tryd.prog 66 #[.string (strOfNums (120 :: r))] w fun e w' => EscEnd w (if 0 < (qrn 16 2 r 0).2 then ([(qrn 16 2 r 0).1], 1 + (qrn 16 2 r 0).2) else ([], 0)) e w' := by
  have hsz := strOfNums_size (120 :: r)
  have hat := str_at (120 :: r) hz.out 0 (by rw [hsz]; simp)
  simp only [List.length_cons] at hsz
  rw [show ((120 : Int) :: r).getD 0 0 = 120 from rfl] at hat
  have hne := str_ne 120 r
  have q := fun W => phex_any 120 r W hz hlen
  generalize (if 0 < (qrn 16 2 r 0).2 then ([(qrn 16 2 r 0).1], 1 + (qrn 16 2 r 0).2) else ([], 0)) = R at q ⊢
  generalize strOfNums (120 :: r) = S at hsz hat hne q ⊢
  have Q : Hid _ := q
  clear q
  go_enter Tryd.func66, Tryd.ntmps66
  go_wp2_with fail
  refine Calls.mono (Q.out _) ?_
  rintro e w1 ⟨v, rfl, hown, hb⟩
  go_wp2
  go_ret2
  exact ⟨_, rfl, hown, hb⟩

set_option maxHeartbeats 1000000 in
theorem pesc_88 (r : List Int) (w : World) (hz : Hid (∀ i, 0 ≤ ((88 : Int) :: r).getD i 0 ∧ ((88 : Int) :: r).getD i 0 ≤ 255)) (hlen : ((r.length : Int) + 1) ≤ 9223372036854775807) :
    Calls Tryd.prog 66 #[.string (strOfNums (88 :: r))] w fun e w' => EscEnd w (if 0 < (qrn 16 2 r 0).2 then ([(qrn 16 2 r 0).1], 1 + (qrn 16 2 r 0).2) else ([], 0)) e w' := by
  have hsz := strOfNums_size (88 :: r)
  have hat := str_at (88 :: r) hz.out 0 (by rw [hsz]; simp)
  simp only [List.length_cons] at hsz
  rw [show ((88 : Int) :: r).getD 0 0 = 88 from rfl] at hat
  have hne := str_ne 88 r
  have q := fun W => phex_any 88 r W hz hlen
  generalize (if 0 < (qrn 16 2 r 0).2 then ([(qrn 16 2 r 0).1], 1 + (qrn 16 2 r 0).2) else ([], 0)) = R at q ⊢
  generalize strOfNums (88 :: r) = S at hsz hat hne q ⊢
  have Q : Hid _ := q
  clear q
  go_enter Tryd.func66, Tryd.ntmps66
  go_wp2_with fail
  refine Calls.mono (Q.out _) ?_
  rintro e w1 ⟨v, rfl, hown, hb⟩
  go_wp2
  go_ret2
  exact ⟨_, rfl, hown, hb⟩

set_option maxHeartbeats 1000000 in
theorem pesc_117 (r : List Int) (w : World) (hT : Hid (QTab w)) (hz : Hid (∀ i, 0 ≤ ((117 : Int) :: r).getD i 0 ∧ ((117 : Int) :: r).getD i 0 ≤ 255)) (hlen : ((r.length : Int) + 1) ≤ 9223372036854775807) :
    Calls Tryd.prog 66 #[.string (strOfNums (117 :: r))] w fun e w' => EscEnd w (if (qrn 16 4 r 0).2 = 4 ∧ isCh (qrn 16 4 r 0).1 = true then (uput (qrn 16 4 r 0).1, 5) else ([], 0)) e w' := by
  have hsz := strOfNums_size (117 :: r)
  have hat := str_at (117 :: r) hz.out 0 (by rw [hsz]; simp)
  simp only [List.length_cons] at hsz
  rw [show ((117 : Int) :: r).getD 0 0 = 117 from rfl] at hat
  have hne := str_ne 117 r
  have q := pchar_any 117 r 4 (by omega) w hT hz hlen
  rw [show (((4 : Nat)) : Int) = 4 from rfl, show 1 + 4 = 5 from rfl] at q
  generalize (if (qrn 16 4 r 0).2 = 4 ∧ isCh (qrn 16 4 r 0).1 = true then (uput (qrn 16 4 r 0).1, 5) else ([], 0)) = R at q ⊢
  generalize strOfNums (117 :: r) = S at hsz hat hne q ⊢
  have Q : Hid _ := q
  clear q
  go_enter Tryd.func66, Tryd.ntmps66
  go_wp2_with fail
  refine Calls.mono Q.out ?_
  rintro e w1 ⟨v, rfl, hown, hb⟩
  go_wp2
  go_ret2
  exact ⟨_, rfl, hown, hb⟩

set_option maxHeartbeats 1000000 in
theorem pesc_85 (r : List Int) (w : World) (hT : Hid (QTab w)) (hz : Hid (∀ i, 0 ≤ ((85 : Int) :: r).getD i 0 ∧ ((85 : Int) :: r).getD i 0 ≤ 255)) (hlen : ((r.length : Int) + 1) ≤ 9223372036854775807) :
    Calls Tryd.prog 66 #[.string (strOfNums (85 :: r))] w fun e w' => EscEnd w (if (qrn 16 8 r 0).2 = 8 ∧ isCh (qrn 16 8 r 0).1 = true then (uput (qrn 16 8 r 0).1, 9) else ([], 0)) e w' := by
  have hsz := strOfNums_size (85 :: r)
  have hat := str_at (85 :: r) hz.out 0 (by rw [hsz]; simp)
  simp only [List.length_cons] at hsz
  rw [show ((85 : Int) :: r).getD 0 0 = 85 from rfl] at hat
  have hne := str_ne 85 r
  have q := pchar_any 85 r 8 (by omega) w hT hz hlen
  rw [show (((8 : Nat)) : Int) = 8 from rfl, show 1 + 8 = 9 from rfl] at q
  generalize (if (qrn 16 8 r 0).2 = 8 ∧ isCh (qrn 16 8 r 0).1 = true then (uput (qrn 16 8 r 0).1, 9) else ([], 0)) = R at q ⊢
  generalize strOfNums (85 :: r) = S at hsz hat hne q ⊢
  have Q : Hid _ := q
  clear q
  go_enter Tryd.func66, Tryd.ntmps66
  go_wp2_with fail
  refine Calls.mono Q.out ?_
  rintro e w1 ⟨v, rfl, hown, hb⟩
  go_wp2
  go_ret2
  exact ⟨_, rfl, hown, hb⟩

set_option maxHeartbeats 1000000 in
theorem pesc_oct (c : Int) (r : List Int) (w : World) (hz : Hid (∀ i, 0 ≤ (c :: r).getD i 0 ∧ (c :: r).getD i 0 ≤ 255)) (hlen : ((r.length : Int) + 1) ≤ 9223372036854775807) (hno : ∀ x ∈ ([97, 98, 102, 110, 114, 116, 118, 92, 39, 34, 63] : List Int), c ≠ x) (h120 : (c == 120) = false) (h88 : (c == 88) = false) (h117 : (c == 117) = false) (h85 : (c == 85) = false) :
    Calls Tryd.prog 66 #[.string (strOfNums (c :: r))] w fun e w' => EscEnd w (if 0 < (qrn 8 3 (c :: r) 0).2 ∧ (qrn 8 3 (c :: r) 0).1 < 256 then ([(qrn 8 3 (c :: r) 0).1], (qrn 8 3 (c :: r) 0).2) else ([], 0)) e w' := by
  have hsz := strOfNums_size (c :: r)
  have hat := str_at (c :: r) hz.out 0 (by rw [hsz]; simp)
  simp only [List.length_cons] at hsz
  rw [show (c :: r).getD 0 0 = c from rfl] at hat
  have hne := str_ne c r
  obtain ⟨c0, c255⟩ : 0 ≤ c ∧ c ≤ 255 := hz.out 0
  have q := fun W => poct_any c r W hz hlen
  have p := fun W => pix_none c W c0 c255 hno
  generalize (if 0 < (qrn 8 3 (c :: r) 0).2 ∧ (qrn 8 3 (c :: r) 0).1 < 256 then ([(qrn 8 3 (c :: r) 0).1], (qrn 8 3 (c :: r) 0).2) else ([], 0)) = R at q ⊢
  generalize strOfNums (c :: r) = S at hsz hat hne q ⊢
  have Q : Hid _ := q
  have P : Hid _ := p
  clear q p hno
  go_enter Tryd.func66, Tryd.ntmps66
  go_wp2_with fail
  refine Calls.mono (P.out _) ?_
  rintro e w1 ⟨rfl, rfl⟩
  go_wp2_with fail
  refine Calls.mono (Q.out _) ?_
  rintro e w1 ⟨v, rfl, hown, hb⟩
  go_wp2
  go_ret2
  exact ⟨_, rfl, hown, hb⟩

theorem pesc_any (zs : List Int) (w : World) (hT : Hid (QTab w)) (hz : Hid (∀ i, 0 ≤ zs.getD i 0 ∧ zs.getD i 0 ≤ 255)) (hlen : (zs.length : Int) ≤ 9223372036854775807) :
    Calls Tryd.prog 66 #[.string (strOfNums zs)] w fun e w' => EscEnd w (qesc zs) e w' := by
  cases zs with
  | nil => exact pesc_nil w
  | cons c r =>
    rw [qesc]
    simp only [List.length_cons] at hlen
    by_cases k97 : c = 97
    · rw [if_pos k97]; subst k97; exact pesc_97 r w hz (by omega)
    rw [if_neg k97]
    by_cases k98 : c = 98
    · rw [if_pos k98]; subst k98; exact pesc_98 r w hz (by omega)
    rw [if_neg k98]
    by_cases k102 : c = 102
    · rw [if_pos k102]; subst k102; exact pesc_102 r w hz (by omega)
    rw [if_neg k102]
    by_cases k110 : c = 110
    · rw [if_pos k110]; subst k110; exact pesc_110 r w hz (by omega)
    rw [if_neg k110]
    by_cases k114 : c = 114
    · rw [if_pos k114]; subst k114; exact pesc_114 r w hz (by omega)
    rw [if_neg k114]
    by_cases k116 : c = 116
    · rw [if_pos k116]; subst k116; exact pesc_116 r w hz (by omega)
    rw [if_neg k116]
    by_cases k118 : c = 118
    · rw [if_pos k118]; subst k118; exact pesc_118 r w hz (by omega)
    rw [if_neg k118]
    by_cases kq : c = 92 ∨ c = 39 ∨ c = 34 ∨ c = 63
    · rw [if_pos kq]
      rcases kq with rfl | rfl | rfl | rfl
      · exact pesc_92 r w hz (by omega)
      · exact pesc_39 r w hz (by omega)
      · exact pesc_34 r w hz (by omega)
      · exact pesc_63 r w hz (by omega)
    rw [if_neg kq]
    by_cases kx : c = 120 ∨ c = 88
    · rw [if_pos kx]
      rcases kx with rfl | rfl
      · exact pesc_120 r w hz (by omega)
      · exact pesc_88 r w hz (by omega)
    rw [if_neg kx]
    by_cases ku : c = 117
    · rw [if_pos ku]; subst ku; exact pesc_117 r w hT hz (by omega)
    rw [if_neg ku]
    by_cases kU : c = 85
    · rw [if_pos kU]; subst kU; exact pesc_85 r w hT hz (by omega)
    rw [if_neg kU]
    exact pesc_oct c r w hz (by omega) (by intro x hx; simp only [List.mem_cons, List.not_mem_nil, or_false] at hx; omega) (by simp; omega) (by simp; omega) (by simp; omega) (by simp; omega)

end Go.Proofs.YtjkcmcefmciinaaDoor
