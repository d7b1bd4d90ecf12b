/- The contracts of the reference's own comments of a line, places within comments, comments of a token. -/
import Derived.Test.YtjkcmcefmciinaaDoorLRef
namespace Go.Proofs.YtjkcmcefmciinaaDoor
open Go.RowKit
set_option linter.unusedVariables false
set_option linter.unusedSimpArgs false

/-- A piece of a text of two signs is these. -/
theorem str_two (s : List Int) (hz : ∀ i, 0 ≤ s.getD i 0 ∧ s.getD i 0 ≤ 255) (i : Nat) (h : i + 1 < s.length) (a b : Int) (ha : 0 ≤ a ∧ a ≤ 255) (hb : 0 ≤ b ∧ b ≤ 255) :
    (((strOfNums s).extract i (i + 2)).toList == [UInt8.ofNat a.toNat, UInt8.ofNat b.toNat]) = decide (s.getD i 0 = a ∧ s.getD (i + 1) 0 = b) := by
  rw [str_cut, str_list, show i + 2 - i = 2 by omega, drop_at (show i < s.length by omega), drop_at h]
  have h1 := hz i
  have h2 := hz (i + 1)
  generalize s.getD i 0 = x at h1
  generalize s.getD (i + 1) 0 = y at h2
  rw [Bool.eq_iff_iff]
  simp only [List.take, List.map_cons, List.map_nil, beq_iff_eq, List.cons.injEq, and_true, decide_eq_true_eq]
  exact ⟨fun h => ⟨u8_inj h1 ha h.1, u8_inj h2 hb h.2⟩, fun h => by rw [h.1, h.2]; exact ⟨rfl, rfl⟩⟩

/-- A piece of a text, its bounds as the walk spells them. -/
theorem run_cut (S : ByteArray) (i j : Nat) (ii jj : Int) (hi : ii = (i : Int)) (hj : jj = (j : Int)) (h1 : i ≤ j) (h2 : j ≤ S.size) :
    ∀ W, (Instr.slice 9 (.string S) (some (.int .i64 ii)) (some (.int .i64 jj)) none).run Tryd.prog W = .ok (.string (S.extract i j)) W := fun W => by
  subst hi hj
  rw [run_slice_string W 9 S .i64 .i64 (i : Int) (j : Int) Tryd.underlying9 (by omega) (by omega) (by omega)]
  simp

theorem run_cut_to (S : ByteArray) (i : Nat) (ii : Int) (hi : ii = (i : Int)) (h1 : i ≤ S.size) :
    ∀ W, (Instr.slice 9 (.string S) (some (.int .i64 ii)) none none).run Tryd.prog W = .ok (.string (S.extract i S.size)) W := fun W => by
  subst hi
  rw [run_slice_string_l W 9 S Tryd.underlying9 .i64 (i : Int) (by omega) (by omega)]
  simp

set_option maxHeartbeats 1000000 in
theorem rown_any (s : List Int) (frm to : Nat) (w : World) (hz : Hid (∀ i, 0 ≤ s.getD i 0 ∧ s.getD i 0 ≤ 255)) (hlen : (s.length : Int) ≤ 100000000) (hf : frm ≤ to) (ht : to ≤ s.length) :
    Calls Tryd.prog 41 #[.string (strOfNums s), .int .i64 (frm : Int), .int .i64 (to : Int)] w fun e w' => e = .returned (.tuple #[.string (strOfNums ((lown s frm to).getD [])), .bool (lown s frm to).isSome]) ∧ w = w' := by
  have hsz := strOfNums_size s
  have HA : Hid (∀ k, (h : k < s.length) → (((strOfNums s)[k]'(by rw [hsz]; exact h)).toNat : Int) = s.getD k 0) := fun k h => str_at s hz.out k _
  have HT : Hid (∀ k, k + 1 < s.length → (((strOfNums s).extract k (k + 2)).toList == [47, 47]) = decide (s.getD k 0 = 47 ∧ s.getD (k + 1) 0 = 47)) := fun k h => str_two s hz.out k h 47 47 (by omega) (by omega)
  have HX : Hid (∀ k, k + 2 ≤ to → (strOfNums s).extract (k + 2) to = strOfNums ((s.take to).drop (k + 2))) := fun k h => by
    rw [str_cut, List.drop_take]
  obtain ⟨R, hR⟩ : ∃ R, R = lown s frm to := ⟨_, rfl⟩
  rw [← hR]
  have HR : Hid (R = lown s frm to) := hR
  clear hR
  generalize strOfNums s = S at hsz HA HT HX
  go_enter Tryd.func41, Tryd.ntmps41
  go_wp2
  go_loopw [8] (fun v wr => ∃ k : Nat, v = .int .i64 (k : Int) ∧ k ≤ to ∧ Hid (lrun lblank s to (to - frm) frm = lrun lblank s to (to - k) k) ∧ wr = w) (fun v _ => to - (intOf v).toNat)
  case atStart => exact ⟨frm, rfl, hf, rfl, rfl⟩
  case round =>
    obtain ⟨k, rfl, hk, HQ, rfl⟩ := hrel
    have fin : Hid (lrun lblank s to (to - frm) frm = k) → Hid (R = if k + 2 ≤ to ∧ s.getD k 0 = 47 ∧ s.getD (k + 1) 0 = 47 then some ((s.take to).drop (k + 2)) else none) := by
      intro h
      show _ = _
      rw [HR.out]
      unfold lown
      rw [h.out]
    clear HR
    by_cases hkt : k < to
    · obtain ⟨c, hc⟩ : ∃ c, c = s.getD k 0 := ⟨_, rfl⟩
      have hat := HA.out k (by omega)
      have hcb := hz.out k
      have HQ' := HQ.out
      obtain ⟨m, hm⟩ : ∃ m, to - k = m + 1 := ⟨to - k - 1, by omega⟩
      rw [hm, lrun, show m = to - (k + 1) by omega] at HQ'
      rw [← hc] at hat hcb HQ' fin
      obtain ⟨c0, c255⟩ := hcb
      have HC : Hid (c = s.getD k 0) := hc
      clear hc hm HQ
      have q := fun W => rblank_any c W c0 c255
      by_cases hbl : lblank c = true
      · rw [if_pos ⟨hkt, hbl⟩] at HQ'
        rw [hbl] at q
        have HE : Hid _ := HQ'
        have Q : Hid _ := q
        clear HQ' q fin hbl
        go_wp2_with fail
        refine Calls.mono (Q.out _) ?_
        rintro e w1 ⟨rfl, rfl⟩
        go_wp2
        go_roundw
        case rel => first | exact ⟨k + 1, by go_num, by omega, HE, by first | rfl | trivial⟩ | ((repeat apply Exists.intro); exact ⟨⟨k + 1, by go_num, by omega, HE, by first | rfl | trivial⟩, rfl⟩)
        case measure => simp [intOf]; omega
      · have hbl' : lblank c = false := by simpa using hbl
        rw [if_neg (fun h => hbl h.2)] at HQ'
        have F := fin HQ'
        rw [hbl'] at q
        have Q : Hid _ := q
        clear HQ' q fin hbl hbl'
        by_cases h2 : k + 2 ≤ to
        · have htw := HT.out k (by omega)
          rw [← HC.out] at htw
          have hx := HX.out k h2
          have h2' : decide ((to : Int) < (k : Int) + 2) = false := by simp; omega
          have hs1 := run_cut S k (k + 2) (k : Int) ((k : Int) + 2) rfl (by omega) (by omega) (by omega)
          have hs2 := run_cut S (k + 2) to ((k : Int) + 2) (to : Int) (by omega) rfl h2 (by omega)
          by_cases h3 : c = 47 ∧ s.getD (k + 1) 0 = 47
          · rw [decide_eq_true h3] at htw
            have E : Hid (R = some ((s.take to).drop (k + 2))) := by have := F.out; rw [if_pos ⟨h2, h3⟩] at this; exact this
            clear F h3
            go_wp2_with fail
            refine Calls.mono (Q.out _) ?_
            rintro e w1 ⟨rfl, rfl⟩
            go_wp2
            go_ret2
            exact ⟨by rw [E.out, Option.getD_some, ← hx]; rfl, rfl⟩
          · rw [decide_eq_false h3] at htw
            have E : Hid (R = none) := by have := F.out; rw [if_neg (fun h => h3 h.2)] at this; exact this
            clear F h3
            go_wp2_with fail
            refine Calls.mono (Q.out _) ?_
            rintro e w1 ⟨rfl, rfl⟩
            go_wp2
            go_ret2
            exact ⟨by rw [E.out]; rfl, rfl⟩
        · have h2' : (to : Int) < (k : Int) + 2 := by omega
          have E : Hid (R = none) := by have := F.out; rw [if_neg (fun h => h2 h.1)] at this; exact this
          clear F
          go_wp2_with fail
          refine Calls.mono (Q.out _) ?_
          rintro e w1 ⟨rfl, rfl⟩
          go_wp2
          go_ret2
          exact ⟨by rw [E.out]; rfl, rfl⟩
    · obtain rfl : k = to := by omega
      have E : Hid (R = none) := by
        have hq := HQ.out
        rw [Nat.sub_self, lrun] at hq
        have := (fin hq).out
        rw [if_neg (by omega)] at this
        exact this
      clear HQ fin
      have h2' : (k : Int) < (k : Int) + 2 := by omega
      go_wp2
      go_ret2
      exact ⟨by rw [E.out]; rfl, rfl⟩

/-- A slice of numbers (int) that is read. -/
def Is (w : World) (a : Option Addr) (len cap : Nat) (ms : List Nat) : Prop :=
  ms.length = len ∧ len ≤ cap ∧ (a = none → cap = 0) ∧ (0 < len → ∃ b off, a = some ⟨b, off, none⟩ ∧ b < w.heap.size ∧ ∀ i, i < len → w.cell? ⟨b, off + i, none⟩ = some (.int .i64 ((ms.getD i 0 : Nat) : Int)))

theorem Is.below {w w' : World} {a : Option Addr} {len cap : Nat} {ms : List Nat} (h : Is w a len cap ms) {B : Nat} (hb : Below B w w') (hB : w.heap.size ≤ B) : Is w' a len cap ms := by
  obtain ⟨h1, h2, h3, h4⟩ := h
  refine ⟨h1, h2, h3, fun hp => ?_⟩
  obtain ⟨b, off, rfl, hlt, hc⟩ := h4 hp
  exact ⟨b, off, rfl, Nat.lt_of_lt_of_le hlt hb.size, fun i hi => (hb.cell (show b < B by omega)).trans (hc i hi)⟩

theorem Is.of_owns {w : World} {base n : Nat} {a : Option Addr} {len cap : Nat} {ms : List Nat} (h : w.ownsRow base 3 1 (.slice a len cap) n (ms.map fun m => Value.int .i64 ((m : Nat) : Int))) : Is w a len cap ms := by
  have hz := h.1
  simp at hz
  rcases h.2 with ⟨he, hn⟩ | ⟨g, c, cur, he, hg, hh, h1, h2, h3, h4⟩
  · simp at he
    obtain ⟨rfl, rfl, rfl⟩ := he
    have : ms = [] := List.eq_nil_of_length_eq_zero (by omega)
    subst this
    exact ⟨rfl, Nat.le_refl _, fun _ => rfl, fun h => absurd h (by omega)⟩
  · simp at he
    obtain ⟨rfl, rfl, rfl⟩ := he
    refine ⟨hz, h1, fun h => by simp at h, fun hp => ⟨g, 0, rfl, (h.lt g rfl).2, fun i hi => ?_⟩⟩
    have := h.cellAt i (by omega)
    rw [Nat.zero_add, this]
    simp [List.getElem?_eq_getElem (show i < ms.length by omega), List.getD]

theorem linside_short (l : List Nat) (k : Nat) (h : l.length ≤ 1) : linside l k = false := by
  match l, h with
  | [], _ => rfl
  | [a], _ => rfl
  | a :: b :: r, h => simp at h

theorem drop_atN {l : List Nat} {k : Nat} (h : k < l.length) : l.drop k = l.getD k 0 :: l.drop (k + 1) := by
  rw [List.drop_eq_getElem_cons h]
  simp [List.getD, List.getElem?_eq_getElem h]

set_option maxHeartbeats 1000000 in
theorem rinside_any {w : World} {a : Option Addr} {len cap : Nat} {ms : List Nat} (h : Hid (Is w a len cap ms)) (k : Nat) (hl6 : len ≤ 1000000) (hk6 : k ≤ 1000000) (HM : Hid (∀ i, ms.getD i 0 ≤ 1000000)) :
    Calls Tryd.prog 42 #[.slice a len cap, .int .i64 (k : Int)] w fun e w' => e = .returned (.bool (linside ms k)) ∧ w = w' := by
  have HL : Hid (ms.length = len) := h.out.1
  obtain ⟨R, hR⟩ : ∃ R, R = linside ms k := ⟨_, rfl⟩
  rw [← hR]
  have HR : Hid (R = linside (ms.drop 0) k) := hR
  clear hR
  go_enter Tryd.func42, Tryd.ntmps42
  go_wp2
  go_loopw [5] (fun v wr => ∃ i : Nat, v = .int .i64 (i : Int) ∧ i ≤ len + 1 ∧ Hid (R = linside (ms.drop i) k) ∧ wr = w) (fun v _ => len + 1 - (intOf v).toNat)
  case atStart => exact ⟨0, rfl, by omega, HR, rfl⟩
  case round =>
    obtain ⟨i, rfl, hi, HQ, rfl⟩ := hrel
    clear HR
    by_cases hil : i + 1 < len
    · obtain ⟨b, off, rfl, hlt, hc⟩ := h.out.2.2.2 (by omega)
      have c0 := hc i (by omega)
      have c1 := hc (i + 1) (by omega)
      have hm0 := HM.out i
      have hm1 := HM.out (i + 1)
      have HQ' := HQ.out
      rw [drop_atN (by rw [HL.out]; omega), drop_atN (by rw [HL.out]; omega), linside] at HQ'
      generalize ms.getD i 0 = x at c0 HQ' hm0
      generalize ms.getD (i + 1) 0 = y at c1 HQ' hm1
      have HQ2 : Hid _ := HQ'
      clear HQ HQ' hc
      have hil' : (i : Int) + 1 < (len : Int) := by omega
      by_cases h1 : x < k
      · have h1' : (x : Int) < (k : Int) := by omega
        by_cases h2 : k < y
        · have h2' : (k : Int) < (y : Int) := by omega
          have E : Hid (R = true) := by have := HQ2.out; rw [decide_eq_true ⟨h1, h2⟩, Bool.true_or] at this; exact this
          clear HQ2
          go_wp2
          go_ret
          exact ⟨by rw [E.out]; rfl, rfl⟩
        · have h2' : ¬ (k : Int) < (y : Int) := by omega
          have E : Hid (R = linside (ms.drop (i + 2)) k) := by have := HQ2.out; rw [decide_eq_false (fun h => h2 h.2), Bool.false_or] at this; exact this
          clear HQ2
          go_wp2
          go_roundw
          case rel => first | exact ⟨i + 2, by go_num, by omega, E, by first | rfl | trivial⟩ | ((repeat apply Exists.intro); exact ⟨⟨i + 2, by go_num, by omega, E, by first | rfl | trivial⟩, rfl⟩)
          case measure => simp [intOf]; omega
      · have h1' : ¬ (x : Int) < (k : Int) := by omega
        have E : Hid (R = linside (ms.drop (i + 2)) k) := by have := HQ2.out; rw [decide_eq_false (fun h => h1 h.1), Bool.false_or] at this; exact this
        clear HQ2
        go_wp2
        go_roundw
        case rel => first | exact ⟨i + 2, by go_num, by omega, E, by first | rfl | trivial⟩ | ((repeat apply Exists.intro); exact ⟨⟨i + 2, by go_num, by omega, E, by first | rfl | trivial⟩, rfl⟩)
        case measure => simp [intOf]; omega
    · have hil' : ¬ (i : Int) + 1 < (len : Int) := by omega
      have E : Hid (R = false) := by have := HQ.out; rw [linside_short _ _ (by rw [List.length_drop, HL.out]; omega)] at this; exact this
      clear HQ
      go_wp2
      go_ret
      exact ⟨by rw [E.out]; rfl, rfl⟩

end Go.Proofs.YtjkcmcefmciinaaDoor
