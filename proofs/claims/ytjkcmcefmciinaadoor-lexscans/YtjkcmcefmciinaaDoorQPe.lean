/- The contracts of the program's own escapes by digits: quote.takeHexByte, takeOctalByte, takeCharacter, over the turned text. -/
import Derived.Test.YtjkcmcefmciinaaDoorQPp
namespace Go.Proofs.YtjkcmcefmciinaaDoor
open Go.RowKit
set_option linter.unusedVariables false
set_option linter.unusedSimpArgs false

theorem EscEnd_no {w w' : World} (hb : Below w.heap.size w w') : EscEnd w ([], 0) (.returned (.tuple #[.slice none 0 0, .int .i64 0])) w' :=
  ⟨_, rfl, World.ownsRow_nil _ _ _ _, hb⟩

theorem EscEnd_one {w w1 : World} (x : Int) (k : Nat) (k' : Int) (hk : (k : Int) = k') (hb : Below w.heap.size w w1) : EscEnd w ([x], k) (.returned (.tuple #[.slice (some ⟨w1.heap.size, 0, none⟩) 1 1, .int .i64 k'])) (w1.alloc (.cells #[.int .u8 x] 5)) :=
  ⟨_, by rw [← hk], own_base (own_lit w1 x) hb.size, hb.alloc hb.size _⟩

set_option maxHeartbeats 1000000 in
theorem phex_any (c : Int) (r : List Int) (w : World) (hz : Hid (∀ i, 0 ≤ (c :: r).getD i 0 ∧ (c :: r).getD i 0 ≤ 255)) (hlen : ((r.length : Int) + 1) ≤ 9223372036854775807) :
    Calls Tryd.prog 69 #[.string (strOfNums (c :: r))] w fun e w' => EscEnd w (if 0 < (qrn 16 2 r 0).2 then ([(qrn 16 2 r 0).1], 1 + (qrn 16 2 r 0).2) else ([], 0)) e w' := by
  have hsz := strOfNums_size (c :: r)
  simp only [List.length_cons] at hsz
  have hex := str_tail c r
  have hzr : Hid (∀ i, 0 ≤ r.getD i 0 ∧ r.getD i 0 ≤ 255) := fun i => hz.out (i + 1)
  have q := fun W => pdgs_any r 16 2 W hzr (by omega) (by omega) (by omega) (by omega)
  have hb := qrn_bd 16 (by omega) (by omega) 2 r 0 0 (by omega) (by omega)
  have hle := qrn_le 16 2 r 0
  simp only [show 16 ^ (0 + 2) = 256 from rfl] at hb
  generalize (qrn 16 2 r 0).1 = n at q hb ⊢
  generalize (qrn 16 2 r 0).2 = k at q hle ⊢
  obtain ⟨hb0, hb1⟩ := hb
  rw [show (((2 : Nat)) : Int) = 2 from rfl] at q
  have hb1' : n < 256 := hb1
  clear hb1
  have Q : Hid _ := q
  clear q
  generalize strOfNums (c :: r) = S at hsz hex
  by_cases hk : 0 < k
  · rw [if_pos hk]
    have hk' : ((k : Int) == 0) = false := by simp; omega
    go_enter Tryd.func69, Tryd.ntmps69
    go_wp2_with fail
    refine Calls.mono (Q.out _) ?_
    rintro e w1 ⟨rfl, hb⟩
    go_wp2
    go_ret2
    exact EscEnd_one n (1 + k) _ (by omega) hb
  · rw [if_neg hk]
    obtain rfl : k = 0 := by omega
    go_enter Tryd.func69, Tryd.ntmps69
    go_wp2_with fail
    refine Calls.mono (Q.out _) ?_
    rintro e w1 ⟨rfl, hb⟩
    rw [show (((0 : Nat)) : Int) = 0 from rfl]
    go_wp2
    go_ret2
    exact EscEnd_no hb

set_option maxHeartbeats 1000000 in
theorem poct_any (c : Int) (r : List Int) (w : World) (hz : Hid (∀ i, 0 ≤ (c :: r).getD i 0 ∧ (c :: r).getD i 0 ≤ 255)) (hlen : ((r.length : Int) + 1) ≤ 9223372036854775807) :
    Calls Tryd.prog 71 #[.string (strOfNums (c :: r))] w fun e w' => EscEnd w (if 0 < (qrn 8 3 (c :: r) 0).2 ∧ (qrn 8 3 (c :: r) 0).1 < 256 then ([(qrn 8 3 (c :: r) 0).1], (qrn 8 3 (c :: r) 0).2) else ([], 0)) e w' := by
  have q := fun W => pdgs_any (c :: r) 8 3 W hz (by omega) (by omega) (by omega) (by simp only [List.length_cons]; omega)
  have hb := qrn_bd 8 (by omega) (by omega) 3 (c :: r) 0 0 (by omega) (by omega)
  have hle := qrn_le 8 3 (c :: r) 0
  simp only [show 16 ^ (0 + 3) = 4096 from rfl] at hb
  generalize (qrn 8 3 (c :: r) 0).1 = n at q hb ⊢
  generalize (qrn 8 3 (c :: r) 0).2 = k at q hle ⊢
  obtain ⟨hb0, hb1⟩ := hb
  rw [show (((3 : Nat)) : Int) = 3 from rfl] at q
  have hb1' : n < 4096 := hb1
  clear hb1
  generalize strOfNums (c :: r) = S at q ⊢
  have Q : Hid _ := q
  clear q
  by_cases hk : 0 < k
  · have hk' : ((k : Int) == 0) = false := by simp; omega
    by_cases hn : n < 256
    · rw [if_pos ⟨hk, hn⟩]
      have hn' : decide (255 < n) = false := by simp; omega
      go_enter Tryd.func71, Tryd.ntmps71
      go_wp2_with fail
      refine Calls.mono (Q.out _) ?_
      rintro e w1 ⟨rfl, hb⟩
      go_wp2
      go_ret2
      exact EscEnd_one n k _ rfl hb
    · rw [if_neg (fun h => hn h.2)]
      have hn' : 255 < n := by omega
      clear hn
      go_enter Tryd.func71, Tryd.ntmps71
      go_wp2_with fail
      refine Calls.mono (Q.out _) ?_
      rintro e w1 ⟨rfl, hb⟩
      go_wp2
      go_ret2
      exact EscEnd_no hb
  · rw [if_neg (fun h => hk h.1)]
    obtain rfl : k = 0 := by omega
    go_enter Tryd.func71, Tryd.ntmps71
    go_wp2_with fail
    refine Calls.mono (Q.out _) ?_
    rintro e w1 ⟨rfl, hb⟩
    rw [show (((0 : Nat)) : Int) = 0 from rfl]
    go_wp2
    go_ret2
    exact EscEnd_no hb

/-- A number of eight digits as a rune. -/
def run32 (n : Int) : Int := if n < 2147483648 then n else n - 4294967296

theorem uput_run32 (n : Int) (h0 : 0 ≤ n) (h1 : n < 4294967296) : uput (run32 n) = if isCh n = true then uput n else [] := by
  unfold run32
  by_cases hc : isCh n = true
  · have := (isCh_iff n).1 hc
    rw [if_pos (by omega), if_pos hc]
  · rw [if_neg hc]
    split
    · exact uput_no (by simpa using hc)
    · apply uput_no
      rw [Bool.eq_false_iff]
      intro h
      have := (isCh_iff _).1 h
      omega

set_option maxHeartbeats 1000000 in
theorem pchar_any (c : Int) (r : List Int) (most : Nat) (hm : most ≤ 8) (w : World) (hT : Hid (QTab w)) (hz : Hid (∀ i, 0 ≤ (c :: r).getD i 0 ∧ (c :: r).getD i 0 ≤ 255)) (hlen : ((r.length : Int) + 1) ≤ 9223372036854775807) :
    Calls Tryd.prog 70 #[.string (strOfNums (c :: r)), .int .i64 (most : Int)] w fun e w' => EscEnd w (if (qrn 16 most r 0).2 = most ∧ isCh (qrn 16 most r 0).1 = true then (uput (qrn 16 most r 0).1, 1 + most) else ([], 0)) e w' := by
  have hsz := strOfNums_size (c :: r)
  simp only [List.length_cons] at hsz
  have hex := str_tail c r
  have hzr : Hid (∀ i, 0 ≤ r.getD i 0 ∧ r.getD i 0 ≤ 255) := fun i => hz.out (i + 1)
  have q := fun W => pdgs_any r 16 most W hzr (by omega) (by omega) hm (by omega)
  have hb := qrn_bd 16 (by omega) (by omega) most r 0 0 (by omega) (by omega)
  have hle := qrn_le 16 most r 0
  generalize (qrn 16 most r 0).1 = n at q hb ⊢
  generalize (qrn 16 most r 0).2 = k at q hle ⊢
  obtain ⟨hb0, hb1⟩ := hb
  have hb1' : n < 4294967296 := by
    have : 16 ^ (0 + most) ≤ 16 ^ 8 := Nat.pow_le_pow_right (by omega) (by omega)
    omega
  clear hb1
  obtain ⟨hle1, hle2⟩ := hle
  have Q : Hid _ := q
  clear q
  generalize strOfNums (c :: r) = S at hsz hex
  by_cases hk : k = most
  · subst hk
    have hk' : ¬ ((k : Int) < (k : Int)) := by omega
    have hu := uput_run32 n hb0 hb1'
    have p := fun W (hW : QTab W) => pput_any (run32 n) W hW
    rw [hu] at p
    have hrun : IntKind.i32.wrap n = run32 n := by rw [IntKind.wrap_i32]; unfold run32; split <;> omega
    by_cases hc : isCh n = true
    · rw [if_pos ⟨rfl, hc⟩]
      rw [if_pos hc] at p
      have hpos : 0 < (uput n).length := by
        rcases isCh_ways hc with ⟨h0, h1⟩ | ⟨h0, h1⟩ | ⟨h0, h1, hs⟩ | ⟨h0, h1⟩
        · rw [uput_1 h0 h1]; simp
        · rw [uput_2 h0 h1]; simp
        · rw [uput_3 h0 h1 hs]; simp
        · rw [uput_4 h0 h1]; simp
      have hlz : (((uput n).length : Int) == 0) = false := by simp; intro h; rw [h] at hpos; simp at hpos
      have hr2 : run32 n = n := by unfold run32; have := (isCh_iff n).1 hc; rw [if_pos (by omega)]
      have hn2 : n < 2147483648 := by have := (isCh_iff n).1 hc; omega
      rw [hr2] at p
      clear hu hc hrun
      generalize uput n = U at p hpos hlz ⊢
      have P : Hid _ := p
      clear p hpos
      go_enter Tryd.func70, Tryd.ntmps70
      go_wp2_with fail
      refine Calls.mono (Q.out _) ?_
      rintro e w1 ⟨rfl, hb⟩
      go_wp2_with fail
      refine Calls.mono (P.out _ (hT.out.below hb (Nat.le_refl _))) ?_
      rintro e w2 ⟨v, rfl, hown, hb2⟩
      obtain ⟨a2, c2, rfl⟩ := own_slice hown
      go_wp2
      go_ret2
      exact ⟨_, by rw [show (((1 + k : Nat)) : Int) = 1 + (k : Int) by omega]; rfl, own_base hown hb.size, hb.trans (hb2.mono hb.size)⟩
    · rw [if_neg (fun h => hc h.2)]
      rw [if_neg hc] at p
      generalize run32 n = m at p hrun
      clear hu hc
      have P : Hid _ := p
      clear p
      go_enter Tryd.func70, Tryd.ntmps70
      go_wp2_with fail
      refine Calls.mono (Q.out _) ?_
      rintro e w1 ⟨rfl, hb⟩
      go_wp2_with fail
      refine Calls.mono (P.out _ (hT.out.below hb (Nat.le_refl _))) ?_
      rintro e w2 ⟨v, rfl, hown, hb2⟩
      rw [show ([] : List Int).length = 0 from rfl] at hown
      obtain ⟨a2, c2, rfl⟩ := own_slice hown
      clear hown
      go_wp2
      go_ret2
      exact EscEnd_no (hb.trans (hb2.mono hb.size))
  · rw [if_neg (fun h => hk h.1)]
    have hk' : (k : Int) < (most : Int) := by omega
    go_enter Tryd.func70, Tryd.ntmps70
    go_wp2_with fail
    refine Calls.mono (Q.out _) ?_
    rintro e w1 ⟨rfl, hb⟩
    go_wp2
    go_ret2
    exact EscEnd_no hb

end Go.Proofs.YtjkcmcefmciinaaDoor
