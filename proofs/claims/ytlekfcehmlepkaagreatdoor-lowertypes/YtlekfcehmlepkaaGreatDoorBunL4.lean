/- Put together by a program out of these texts of mine: LRef2, QNum, NRef. -/
import Derived.Deep.QuietTactic
import Derived.BigQuiet
import Derived.WalkSmall
import Derived.Test.YtlekfcehmlepkaaGreatDoorBunL1
import Derived.Test.YtlekfcehmlepkaaGreatDoorBunL3

namespace Go.Proofs.YtlekfcehmlepkaaGreatDoor
open Go.RowKit
set_option linter.unusedVariables false
set_option linter.unusedSimpArgs false

theorem str_two (s : List Int) (hz : ∀ i, 0 ≤ s.getD i 0 ∧ s.getD i 0 ≤ 255) (i : Nat) (h : i + 1 < s.length) (a b : Int) (ha : 0 ≤ a ∧ a ≤ 255) (hb : 0 ≤ b ∧ b ≤ 255) :
    (((strOfNums s).extract i (i + 2)).toList == [UInt8.ofNat a.toNat, UInt8.ofNat b.toNat]) = decide (s.getD i 0 = a ∧ s.getD (i + 1) 0 = b) := by
  rw [str_cut, str_list, show i + 2 - i = 2 by omega, drop_at (show i < s.length by omega), drop_at h]
  have h1 := hz i
  have h2 := hz (i + 1)
  generalize s.getD i 0 = x at h1
  generalize s.getD (i + 1) 0 = y at h2
  rw [Bool.eq_iff_iff]
  simp only [List.take, List.map_cons, List.map_nil, beq_iff_eq, List.cons.injEq, and_true, decide_eq_true_eq]
  exact ⟨fun h => ⟨u8_inj h1 ha h.1, u8_inj h2 hb h.2⟩, fun h => by rw [h.1, h.2]; exact ⟨rfl, rfl⟩⟩

theorem run_cut (S : ByteArray) (i j : Nat) (ii jj : Int) (hi : ii = (i : Int)) (hj : jj = (j : Int)) (h1 : i ≤ j) (h2 : j ≤ S.size) :
    ∀ W, (Instr.slice 9 (.string S) (some (.int .i64 ii)) (some (.int .i64 jj)) none).run Tryz.prog W = .ok (.string (S.extract i j)) W := fun W => by
  subst hi hj
  rw [run_slice_string W 9 S .i64 .i64 (i : Int) (j : Int) Tryz.underlying9 (by omega) (by omega) (by omega)]
  simp

theorem run_cut_to (S : ByteArray) (i : Nat) (ii : Int) (hi : ii = (i : Int)) (h1 : i ≤ S.size) :
    ∀ W, (Instr.slice 9 (.string S) (some (.int .i64 ii)) none none).run Tryz.prog W = .ok (.string (S.extract i S.size)) W := fun W => by
  subst hi
  rw [run_slice_string_l W 9 S Tryz.underlying9 .i64 (i : Int) (by omega) (by omega)]
  simp

set_option maxHeartbeats 1000000 in
theorem rown_any (s : List Int) (frm to : Nat) (w : World) (hz : Hid (∀ i, 0 ≤ s.getD i 0 ∧ s.getD i 0 ≤ 255)) (hlen : (s.length : Int) ≤ 100000000) (hf : frm ≤ to) (ht : to ≤ s.length) :
    Calls Tryz.prog 55 #[.string (strOfNums s), .int .i64 (frm : Int), .int .i64 (to : Int)] w fun e w' => e = .returned (.tuple #[.string (strOfNums ((lown s frm to).getD [])), .bool (lown s frm to).isSome]) ∧ w = w' := by
  have hsz := strOfNums_size s
  have HA : Hid (∀ k, (h : k < s.length) → (((strOfNums s)[k]'(by rw [hsz]; exact h)).toNat : Int) = s.getD k 0) := fun k h => str_at s hz.out k _
  have HT : Hid (∀ k, k + 1 < s.length → (((strOfNums s).extract k (k + 2)).toList == [47, 47]) = decide (s.getD k 0 = 47 ∧ s.getD (k + 1) 0 = 47)) := fun k h => str_two s hz.out k h 47 47 (by omega) (by omega)
  have HX : Hid (∀ k, k + 2 ≤ to → (strOfNums s).extract (k + 2) to = strOfNums ((s.take to).drop (k + 2))) := fun k h => by
    rw [str_cut, List.drop_take]
  obtain ⟨R, hR⟩ : ∃ R, R = lown s frm to := ⟨_, rfl⟩
  rw [← hR]
  have HR : Hid (R = lown s frm to) := hR
  clear hR
  generalize strOfNums s = S at hsz HA HT HX
  go_enter Tryz.func55, Tryz.ntmps55
  go_wp2
  go_loopw [8] (fun v wr => ∃ k : Nat, v = .int .i64 (k : Int) ∧ k ≤ to ∧ Hid (lrun lblank s to (to - frm) frm = lrun lblank s to (to - k) k) ∧ wr = w) (fun v _ => to - (intOf v).toNat)
  case atStart => exact ⟨frm, rfl, hf, rfl, rfl⟩
  case round =>
    obtain ⟨k, rfl, hk, HQ, rfl⟩ := hrel
    have fin : Hid (lrun lblank s to (to - frm) frm = k) → Hid (R = if k + 2 ≤ to ∧ s.getD k 0 = 47 ∧ s.getD (k + 1) 0 = 47 then some ((s.take to).drop (k + 2)) else none) := by
      intro h
      show _ = _
      rw [HR.out]
      unfold lown
      rw [h.out]
    clear HR
    by_cases hkt : k < to
    · obtain ⟨c, hc⟩ : ∃ c, c = s.getD k 0 := ⟨_, rfl⟩
      have hat := HA.out k (by omega)
      have hcb := hz.out k
      have HQ' := HQ.out
      obtain ⟨m, hm⟩ : ∃ m, to - k = m + 1 := ⟨to - k - 1, by omega⟩
      rw [hm, lrun, show m = to - (k + 1) by omega] at HQ'
      rw [← hc] at hat hcb HQ' fin
      obtain ⟨c0, c255⟩ := hcb
      have HC : Hid (c = s.getD k 0) := hc
      clear hc hm HQ
      have q := fun W => rblank_any c W c0 c255
      by_cases hbl : lblank c = true
      · rw [if_pos ⟨hkt, hbl⟩] at HQ'
        rw [hbl] at q
        have HE : Hid _ := HQ'
        have Q : Hid _ := q
        clear HQ' q fin hbl
        go_wp2_with fail
        refine Calls.mono (Q.out _) ?_
        rintro e w1 ⟨rfl, rfl⟩
        go_wp2
        go_roundw
        case rel => first | exact ⟨k + 1, by go_num, by omega, HE, by first | rfl | trivial⟩ | ((repeat apply Exists.intro); exact ⟨⟨k + 1, by go_num, by omega, HE, by first | rfl | trivial⟩, rfl⟩)
        case measure => simp [intOf]; omega
      · have hbl' : lblank c = false := by simpa using hbl
        rw [if_neg (fun h => hbl h.2)] at HQ'
        have F := fin HQ'
        rw [hbl'] at q
        have Q : Hid _ := q
        clear HQ' q fin hbl hbl'
        by_cases h2 : k + 2 ≤ to
        · have htw := HT.out k (by omega)
          rw [← HC.out] at htw
          have hx := HX.out k h2
          have h2' : decide ((to : Int) < (k : Int) + 2) = false := by simp; omega
          have hs1 := run_cut S k (k + 2) (k : Int) ((k : Int) + 2) rfl (by omega) (by omega) (by omega)
          have hs2 := run_cut S (k + 2) to ((k : Int) + 2) (to : Int) (by omega) rfl h2 (by omega)
          by_cases h3 : c = 47 ∧ s.getD (k + 1) 0 = 47
          · rw [decide_eq_true h3] at htw
            have E : Hid (R = some ((s.take to).drop (k + 2))) := by have := F.out; rw [if_pos ⟨h2, h3⟩] at this; exact this
            clear F h3
            go_wp2_with fail
            refine Calls.mono (Q.out _) ?_
            rintro e w1 ⟨rfl, rfl⟩
            go_wp2
            go_ret2
            exact ⟨by rw [E.out, Option.getD_some, ← hx]; rfl, rfl⟩
          · rw [decide_eq_false h3] at htw
            have E : Hid (R = none) := by have := F.out; rw [if_neg (fun h => h3 h.2)] at this; exact this
            clear F h3
            go_wp2_with fail
            refine Calls.mono (Q.out _) ?_
            rintro e w1 ⟨rfl, rfl⟩
            go_wp2
            go_ret2
            exact ⟨by rw [E.out]; rfl, rfl⟩
        · have h2' : (to : Int) < (k : Int) + 2 := by omega
          have E : Hid (R = none) := by have := F.out; rw [if_neg (fun h => h2 h.1)] at this; exact this
          clear F
          go_wp2_with fail
          refine Calls.mono (Q.out _) ?_
          rintro e w1 ⟨rfl, rfl⟩
          go_wp2
          go_ret2
          exact ⟨by rw [E.out]; rfl, rfl⟩
    · obtain rfl : k = to := by omega
      have E : Hid (R = none) := by
        have hq := HQ.out
        rw [Nat.sub_self, lrun] at hq
        have := (fin hq).out
        rw [if_neg (by omega)] at this
        exact this
      clear HQ fin
      have h2' : (k : Int) < (k : Int) + 2 := by omega
      go_wp2
      go_ret2
      exact ⟨by rw [E.out]; rfl, rfl⟩

def Is (w : World) (a : Option Addr) (len cap : Nat) (ms : List Nat) : Prop :=
  ms.length = len ∧ len ≤ cap ∧ (a = none → cap = 0) ∧ (0 < len → ∃ b off, a = some ⟨b, off, none⟩ ∧ b < w.heap.size ∧ ∀ i, i < len → w.cell? ⟨b, off + i, none⟩ = some (.int .i64 ((ms.getD i 0 : Nat) : Int)))

theorem Is.of_owns {w : World} {base n : Nat} {a : Option Addr} {len cap : Nat} {ms : List Nat} (h : w.ownsRow base 3 1 (.slice a len cap) n (ms.map fun m => Value.int .i64 ((m : Nat) : Int))) : Is w a len cap ms := by
  have hz := h.1
  simp at hz
  rcases h.2 with ⟨he, hn⟩ | ⟨g, c, cur, he, hg, hh, h1, h2, h3, h4⟩
  · simp at he
    obtain ⟨rfl, rfl, rfl⟩ := he
    have : ms = [] := List.eq_nil_of_length_eq_zero (by omega)
    subst this
    exact ⟨rfl, Nat.le_refl _, fun _ => rfl, fun h => absurd h (by omega)⟩
  · simp at he
    obtain ⟨rfl, rfl, rfl⟩ := he
    refine ⟨hz, h1, fun h => by simp at h, fun hp => ⟨g, 0, rfl, (h.lt g rfl).2, fun i hi => ?_⟩⟩
    have := h.cellAt i (by omega)
    rw [Nat.zero_add, this]
    simp [List.getElem?_eq_getElem (show i < ms.length by omega), List.getD]

theorem linside_short (l : List Nat) (k : Nat) (h : l.length ≤ 1) : linside l k = false := by
  match l, h with
  | [], _ => rfl
  | [a], _ => rfl
  | a :: b :: r, h => simp at h

theorem drop_atN {l : List Nat} {k : Nat} (h : k < l.length) : l.drop k = l.getD k 0 :: l.drop (k + 1) := by
  rw [List.drop_eq_getElem_cons h]
  simp [List.getD, List.getElem?_eq_getElem h]

set_option maxHeartbeats 1000000 in
theorem rinside_any {w : World} {a : Option Addr} {len cap : Nat} {ms : List Nat} (h : Hid (Is w a len cap ms)) (k : Nat) (hl6 : len ≤ 1000000) (hk6 : k ≤ 1000000) (HM : Hid (∀ i, ms.getD i 0 ≤ 1000000)) :
    Calls Tryz.prog 56 #[.slice a len cap, .int .i64 (k : Int)] w fun e w' => e = .returned (.bool (linside ms k)) ∧ w = w' := by
  have HL : Hid (ms.length = len) := h.out.1
  obtain ⟨R, hR⟩ : ∃ R, R = linside ms k := ⟨_, rfl⟩
  rw [← hR]
  have HR : Hid (R = linside (ms.drop 0) k) := hR
  clear hR
  go_enter Tryz.func56, Tryz.ntmps56
  go_wp2
  go_loopw [5] (fun v wr => ∃ i : Nat, v = .int .i64 (i : Int) ∧ i ≤ len + 1 ∧ Hid (R = linside (ms.drop i) k) ∧ wr = w) (fun v _ => len + 1 - (intOf v).toNat)
  case atStart => exact ⟨0, rfl, by omega, HR, rfl⟩
  case round =>
    obtain ⟨i, rfl, hi, HQ, rfl⟩ := hrel
    clear HR
    by_cases hil : i + 1 < len
    · obtain ⟨b, off, rfl, hlt, hc⟩ := h.out.2.2.2 (by omega)
      have c0 := hc i (by omega)
      have c1 := hc (i + 1) (by omega)
      have hm0 := HM.out i
      have hm1 := HM.out (i + 1)
      have HQ' := HQ.out
      rw [drop_atN (by rw [HL.out]; omega), drop_atN (by rw [HL.out]; omega), linside] at HQ'
      generalize ms.getD i 0 = x at c0 HQ' hm0
      generalize ms.getD (i + 1) 0 = y at c1 HQ' hm1
      have HQ2 : Hid _ := HQ'
      clear HQ HQ' hc
      have hil' : (i : Int) + 1 < (len : Int) := by omega
      by_cases h1 : x < k
      · have h1' : (x : Int) < (k : Int) := by omega
        by_cases h2 : k < y
        · have h2' : (k : Int) < (y : Int) := by omega
          have E : Hid (R = true) := by have := HQ2.out; rw [decide_eq_true ⟨h1, h2⟩, Bool.true_or] at this; exact this
          clear HQ2
          go_wp2
          go_ret
          exact ⟨by rw [E.out]; rfl, rfl⟩
        · have h2' : ¬ (k : Int) < (y : Int) := by omega
          have E : Hid (R = linside (ms.drop (i + 2)) k) := by have := HQ2.out; rw [decide_eq_false (fun h => h2 h.2), Bool.false_or] at this; exact this
          clear HQ2
          go_wp2
          go_roundw
          case rel => first | exact ⟨i + 2, by go_num, by omega, E, by first | rfl | trivial⟩ | ((repeat apply Exists.intro); exact ⟨⟨i + 2, by go_num, by omega, E, by first | rfl | trivial⟩, rfl⟩)
          case measure => simp [intOf]; omega
      · have h1' : ¬ (x : Int) < (k : Int) := by omega
        have E : Hid (R = linside (ms.drop (i + 2)) k) := by have := HQ2.out; rw [decide_eq_false (fun h => h1 h.1), Bool.false_or] at this; exact this
        clear HQ2
        go_wp2
        go_roundw
        case rel => first | exact ⟨i + 2, by go_num, by omega, E, by first | rfl | trivial⟩ | ((repeat apply Exists.intro); exact ⟨⟨i + 2, by go_num, by omega, E, by first | rfl | trivial⟩, rfl⟩)
        case measure => simp [intOf]; omega
    · have hil' : ¬ (i : Int) + 1 < (len : Int) := by omega
      have E : Hid (R = false) := by have := HQ.out; rw [linside_short _ _ (by rw [List.length_drop, HL.out]; omega)] at this; exact this
      clear HQ
      go_wp2
      go_ret
      exact ⟨by rw [E.out]; rfl, rfl⟩

end Go.Proofs.YtlekfcehmlepkaaGreatDoor

namespace Go.Proofs.YtlekfcehmlepkaaGreatDoor
open Go.RowKit
set_option linter.unusedVariables false

set_option maxHeartbeats 1000000 in
theorem rnum_10a (zs : List Int) (w : World) (hz : Hid (∀ i, 0 ≤ zs.getD i 0 ∧ zs.getD i 0 ≤ 255)) (hlen : (zs.length : Int) ≤ 100000000) (h0 : 0 < zs.length) (h1 : zs.length = 1) :
    Calls Tryz.prog 33 #[.string (strOfNums zs)] w fun e w' => e = .returned (.tuple #[.int .u64 (qnm 10 (zs) 0).1, .bool (qnm 10 (zs) 0).2]) ∧ Below w.heap.size w w' := by
  have hsz := strOfNums_size zs
  have HA : Hid (∀ k, (h : k < zs.length) → (((strOfNums zs)[k]'(by rw [hsz]; exact h)).toNat : Int) = zs.getD k 0) := fun k h => str_at zs hz.out k _
  have hdn : ((strOfNums zs).toList == []) = false := by
    cases zs with
    | nil => simp at h0
    | cons c r => exact str_ne c r
  have HZD := hz
  obtain ⟨R, hR⟩ : ∃ R, R = qnm 10 zs 0 := ⟨_, rfl⟩
  rw [← hR]
  have HR : Hid (R = qnm 10 (zs.drop 0) 0) := hR
  clear hR
  go_enter Tryz.func33, Tryz.ntmps33
  go_wp2
  go_loopw [6, 7] (fun v i wr => ∃ (n : Int) (k : Nat), v = .int .u64 n ∧ i = .int .i64 (k : Int) ∧ 0 ≤ n ∧ n ≤ 18446744073709551615 ∧ k ≤ zs.length ∧ Hid (R = qnm 10 (zs.drop k) n) ∧ wr = w) (fun _ i _ => zs.length - (intOf i).toNat)
  case atStart => exact ⟨0, 0, rfl, rfl, by omega, by omega, by omega, HR, rfl⟩
  case round =>
    obtain ⟨n, k, rfl, rfl, n0, n1, hkl, HQ, rfl⟩ := hrel
    by_cases hk : k < zs.length
    · have hat := HA.out k hk
      obtain ⟨c0, c255⟩ := HZD.out k
      have HQ' := HQ.out
      rw [drop_at hk, qnm] at HQ'
      generalize zs.getD k 0 = c at hat c0 c255 HQ'
      have q := fun W => rdigit_any c W c0 c255
      obtain ⟨d0, d99⟩ := dgt_bd c
      generalize dgt c = d at q d0 d99 HQ'
      have Q : Hid _ := q
      have HQ2 : Hid _ := HQ'
      clear HQ' HQ q HR
      by_cases hb : 10 ≤ d
      · have E : Hid (R = (0, false)) := by have := HQ2.out; rw [if_pos (Or.inl hb)] at this; exact this
        clear HQ2
        go_wp2_with fail
        refine Calls.mono (Q.out _) ?_
        rintro e w1 ⟨rfl, rfl⟩
        go_wp2
        go_ret2
        exact ⟨by rw [E.out]; rfl, Below.refl _ _⟩
      · by_cases ho : (18446744073709551615 - d) / 10 < n
        · have E : Hid (R = (0, false)) := by have := HQ2.out; rw [if_pos (Or.inr ho)] at this; exact this
          clear HQ2
          go_wp2_with fail
          refine Calls.mono (Q.out _) ?_
          rintro e w1 ⟨rfl, rfl⟩
          go_wp2
          go_ret2
          exact ⟨by rw [E.out]; rfl, Below.refl _ _⟩
        · have E : Hid (R = qnm 10 (zs.drop (k + 1)) (n * 10 + d)) := by have := HQ2.out; rw [if_neg (by omega)] at this; exact this
          clear HQ2
          go_wp2_with fail
          refine Calls.mono (Q.out _) ?_
          rintro e w1 ⟨rfl, rfl⟩
          go_wp2
          go_roundw
          case rel => exact ⟨n * 10 + d, k + 1, rfl, by go_num, by omega, by omega, by omega, E, by first | rfl | trivial⟩
          case measure => simp [intOf]; omega
    · obtain rfl : k = zs.length := by omega
      have E : Hid (R = (n, true)) := by show _ = _; rw [HQ.out, List.drop_eq_nil_of_le (Nat.le_refl _)]; rfl
      clear HQ HR
      go_wp2
      go_ret2
      exact ⟨by rw [E.out]; rfl, Below.refl _ _⟩

set_option maxHeartbeats 1000000 in
theorem rnum_10b (zs : List Int) (w : World) (hz : Hid (∀ i, 0 ≤ zs.getD i 0 ∧ zs.getD i 0 ≤ 255)) (hlen : (zs.length : Int) ≤ 100000000) (h0 : 0 < zs.length) (h1 : zs.length = 2) (hn : (zs.getD 0 0 == 48) = false) :
    Calls Tryz.prog 33 #[.string (strOfNums zs)] w fun e w' => e = .returned (.tuple #[.int .u64 (qnm 10 (zs) 0).1, .bool (qnm 10 (zs) 0).2]) ∧ Below w.heap.size w w' := by
  have hsz := strOfNums_size zs
  obtain ⟨cz, hcz⟩ : ∃ c, c = zs.getD 0 0 := ⟨_, rfl⟩
  have hat0 := str_at zs hz.out 0 (by rw [hsz]; omega)
  rw [← hcz] at hat0 hn
  obtain ⟨cz0, cz1⟩ := hz.out 0
  rw [← hcz] at cz0 cz1
  clear hcz
  have HA : Hid (∀ k, (h : k < zs.length) → (((strOfNums zs)[k]'(by rw [hsz]; exact h)).toNat : Int) = zs.getD k 0) := fun k h => str_at zs hz.out k _
  have hdn : ((strOfNums zs).toList == []) = false := by
    cases zs with
    | nil => simp at h0
    | cons c r => exact str_ne c r
  have HZD := hz
  obtain ⟨R, hR⟩ : ∃ R, R = qnm 10 zs 0 := ⟨_, rfl⟩
  rw [← hR]
  have HR : Hid (R = qnm 10 (zs.drop 0) 0) := hR
  clear hR
  go_enter Tryz.func33, Tryz.ntmps33
  go_wp2
  go_loopw [6, 7] (fun v i wr => ∃ (n : Int) (k : Nat), v = .int .u64 n ∧ i = .int .i64 (k : Int) ∧ 0 ≤ n ∧ n ≤ 18446744073709551615 ∧ k ≤ zs.length ∧ Hid (R = qnm 10 (zs.drop k) n) ∧ wr = w) (fun _ i _ => zs.length - (intOf i).toNat)
  case atStart => exact ⟨0, 0, rfl, rfl, by omega, by omega, by omega, HR, rfl⟩
  case round =>
    obtain ⟨n, k, rfl, rfl, n0, n1, hkl, HQ, rfl⟩ := hrel
    by_cases hk : k < zs.length
    · have hat := HA.out k hk
      obtain ⟨c0, c255⟩ := HZD.out k
      have HQ' := HQ.out
      rw [drop_at hk, qnm] at HQ'
      generalize zs.getD k 0 = c at hat c0 c255 HQ'
      have q := fun W => rdigit_any c W c0 c255
      obtain ⟨d0, d99⟩ := dgt_bd c
      generalize dgt c = d at q d0 d99 HQ'
      have Q : Hid _ := q
      have HQ2 : Hid _ := HQ'
      clear HQ' HQ q HR
      by_cases hb : 10 ≤ d
      · have E : Hid (R = (0, false)) := by have := HQ2.out; rw [if_pos (Or.inl hb)] at this; exact this
        clear HQ2
        go_wp2_with fail
        refine Calls.mono (Q.out _) ?_
        rintro e w1 ⟨rfl, rfl⟩
        go_wp2
        go_ret2
        exact ⟨by rw [E.out]; rfl, Below.refl _ _⟩
      · by_cases ho : (18446744073709551615 - d) / 10 < n
        · have E : Hid (R = (0, false)) := by have := HQ2.out; rw [if_pos (Or.inr ho)] at this; exact this
          clear HQ2
          go_wp2_with fail
          refine Calls.mono (Q.out _) ?_
          rintro e w1 ⟨rfl, rfl⟩
          go_wp2
          go_ret2
          exact ⟨by rw [E.out]; rfl, Below.refl _ _⟩
        · have E : Hid (R = qnm 10 (zs.drop (k + 1)) (n * 10 + d)) := by have := HQ2.out; rw [if_neg (by omega)] at this; exact this
          clear HQ2
          go_wp2_with fail
          refine Calls.mono (Q.out _) ?_
          rintro e w1 ⟨rfl, rfl⟩
          go_wp2
          go_roundw
          case rel => exact ⟨n * 10 + d, k + 1, rfl, by go_num, by omega, by omega, by omega, E, by first | rfl | trivial⟩
          case measure => simp [intOf]; omega
    · obtain rfl : k = zs.length := by omega
      have E : Hid (R = (n, true)) := by show _ = _; rw [HQ.out, List.drop_eq_nil_of_le (Nat.le_refl _)]; rfl
      clear HQ HR
      go_wp2
      go_ret2
      exact ⟨by rw [E.out]; rfl, Below.refl _ _⟩

set_option maxHeartbeats 1000000 in
theorem rnum_10c (zs : List Int) (w : World) (hz : Hid (∀ i, 0 ≤ zs.getD i 0 ∧ zs.getD i 0 ≤ 255)) (hlen : (zs.length : Int) ≤ 100000000) (h0 : 0 < zs.length) (h1 : 2 < zs.length) (hn : (zs.getD 0 0 == 48) = false) :
    Calls Tryz.prog 33 #[.string (strOfNums zs)] w fun e w' => e = .returned (.tuple #[.int .u64 (qnm 10 (zs) 0).1, .bool (qnm 10 (zs) 0).2]) ∧ Below w.heap.size w w' := by
  have hsz := strOfNums_size zs
  obtain ⟨cz, hcz⟩ : ∃ c, c = zs.getD 0 0 := ⟨_, rfl⟩
  have hat0 := str_at zs hz.out 0 (by rw [hsz]; omega)
  rw [← hcz] at hat0 hn
  obtain ⟨cz0, cz1⟩ := hz.out 0
  rw [← hcz] at cz0 cz1
  clear hcz
  have HA : Hid (∀ k, (h : k < zs.length) → (((strOfNums zs)[k]'(by rw [hsz]; exact h)).toNat : Int) = zs.getD k 0) := fun k h => str_at zs hz.out k _
  have hdn : ((strOfNums zs).toList == []) = false := by
    cases zs with
    | nil => simp at h0
    | cons c r => exact str_ne c r
  have HZD := hz
  obtain ⟨R, hR⟩ : ∃ R, R = qnm 10 zs 0 := ⟨_, rfl⟩
  rw [← hR]
  have HR : Hid (R = qnm 10 (zs.drop 0) 0) := hR
  clear hR
  go_enter Tryz.func33, Tryz.ntmps33
  go_wp2
  go_loopw [6, 7] (fun v i wr => ∃ (n : Int) (k : Nat), v = .int .u64 n ∧ i = .int .i64 (k : Int) ∧ 0 ≤ n ∧ n ≤ 18446744073709551615 ∧ k ≤ zs.length ∧ Hid (R = qnm 10 (zs.drop k) n) ∧ wr = w) (fun _ i _ => zs.length - (intOf i).toNat)
  case atStart => exact ⟨0, 0, rfl, rfl, by omega, by omega, by omega, HR, rfl⟩
  case round =>
    obtain ⟨n, k, rfl, rfl, n0, n1, hkl, HQ, rfl⟩ := hrel
    by_cases hk : k < zs.length
    · have hat := HA.out k hk
      obtain ⟨c0, c255⟩ := HZD.out k
      have HQ' := HQ.out
      rw [drop_at hk, qnm] at HQ'
      generalize zs.getD k 0 = c at hat c0 c255 HQ'
      have q := fun W => rdigit_any c W c0 c255
      obtain ⟨d0, d99⟩ := dgt_bd c
      generalize dgt c = d at q d0 d99 HQ'
      have Q : Hid _ := q
      have HQ2 : Hid _ := HQ'
      clear HQ' HQ q HR
      by_cases hb : 10 ≤ d
      · have E : Hid (R = (0, false)) := by have := HQ2.out; rw [if_pos (Or.inl hb)] at this; exact this
        clear HQ2
        go_wp2_with fail
        refine Calls.mono (Q.out _) ?_
        rintro e w1 ⟨rfl, rfl⟩
        go_wp2
        go_ret2
        exact ⟨by rw [E.out]; rfl, Below.refl _ _⟩
      · by_cases ho : (18446744073709551615 - d) / 10 < n
        · have E : Hid (R = (0, false)) := by have := HQ2.out; rw [if_pos (Or.inr ho)] at this; exact this
          clear HQ2
          go_wp2_with fail
          refine Calls.mono (Q.out _) ?_
          rintro e w1 ⟨rfl, rfl⟩
          go_wp2
          go_ret2
          exact ⟨by rw [E.out]; rfl, Below.refl _ _⟩
        · have E : Hid (R = qnm 10 (zs.drop (k + 1)) (n * 10 + d)) := by have := HQ2.out; rw [if_neg (by omega)] at this; exact this
          clear HQ2
          go_wp2_with fail
          refine Calls.mono (Q.out _) ?_
          rintro e w1 ⟨rfl, rfl⟩
          go_wp2
          go_roundw
          case rel => exact ⟨n * 10 + d, k + 1, rfl, by go_num, by omega, by omega, by omega, E, by first | rfl | trivial⟩
          case measure => simp [intOf]; omega
    · obtain rfl : k = zs.length := by omega
      have E : Hid (R = (n, true)) := by show _ = _; rw [HQ.out, List.drop_eq_nil_of_le (Nat.le_refl _)]; rfl
      clear HQ HR
      go_wp2
      go_ret2
      exact ⟨by rw [E.out]; rfl, Below.refl _ _⟩

set_option maxHeartbeats 1000000 in
theorem rnum_8a (zs : List Int) (w : World) (hz : Hid (∀ i, 0 ≤ zs.getD i 0 ∧ zs.getD i 0 ≤ 255)) (hlen : (zs.length : Int) ≤ 100000000) (h1 : zs.length = 2) (hv0 : zs.getD 0 0 = 48) :
    Calls Tryz.prog 33 #[.string (strOfNums zs)] w fun e w' => e = .returned (.tuple #[.int .u64 (qnm 8 (zs.drop 1) 0).1, .bool (qnm 8 (zs.drop 1) 0).2]) ∧ Below w.heap.size w w' := by
  have hsz := strOfNums_size zs
  have hat0 := str_at zs hz.out 0 (by rw [hsz]; omega)
  rw [hv0] at hat0
  have hex : (strOfNums zs).extract 1 zs.length = strOfNums (zs.drop 1) := by rw [str_cut, List.take_of_length_le (by simp)]
  have HZD : Hid (∀ i, 0 ≤ (zs.drop 1).getD i 0 ∧ (zs.drop 1).getD i 0 ≤ 255) := fun i => by rw [getD_drop']; exact hz.out _
  have hdl : (zs.drop 1).length = zs.length - 1 := List.length_drop
  generalize zs.drop 1 = D at hex HZD hdl
  rw [h1] at hex
  have hsd := strOfNums_size D
  have HA : Hid (∀ k, (h : k < D.length) → (((strOfNums D)[k]'(by rw [hsd]; exact h)).toNat : Int) = D.getD k 0) := fun k h => str_at D HZD.out k _
  have hdn : ((strOfNums D).toList == []) = false := by
    cases D with
    | nil => simp at hdl; omega
    | cons c r => exact str_ne c r
  obtain ⟨R, hR⟩ : ∃ R, R = qnm 8 D 0 := ⟨_, rfl⟩
  rw [← hR]
  have HR : Hid (R = qnm 8 (D.drop 0) 0) := hR
  clear hR
  go_enter Tryz.func33, Tryz.ntmps33
  go_wp2
  go_quiet (fail)
  go_wp2
  go_loopw [6, 7] (fun v i wr => ∃ (n : Int) (k : Nat), v = .int .u64 n ∧ i = .int .i64 (k : Int) ∧ 0 ≤ n ∧ n ≤ 18446744073709551615 ∧ k ≤ D.length ∧ Hid (R = qnm 8 (D.drop k) n) ∧ wr = w.drewN nq) (fun _ i _ => D.length - (intOf i).toNat)
  case atStart => exact ⟨0, 0, rfl, rfl, by omega, by omega, by omega, HR, rfl⟩
  case round =>
    obtain ⟨n, k, rfl, rfl, n0, n1, hkl, HQ, rfl⟩ := hrel
    by_cases hk : k < D.length
    · have hat := HA.out k hk
      obtain ⟨c0, c255⟩ := HZD.out k
      have HQ' := HQ.out
      rw [drop_at hk, qnm] at HQ'
      generalize D.getD k 0 = c at hat c0 c255 HQ'
      have q := fun W => rdigit_any c W c0 c255
      obtain ⟨d0, d99⟩ := dgt_bd c
      generalize dgt c = d at q d0 d99 HQ'
      have Q : Hid _ := q
      have HQ2 : Hid _ := HQ'
      clear HQ' HQ q HR
      by_cases hb : 8 ≤ d
      · have E : Hid (R = (0, false)) := by have := HQ2.out; rw [if_pos (Or.inl hb)] at this; exact this
        clear HQ2
        go_wp2_with fail
        refine Calls.mono (Q.out _) ?_
        rintro e w1 ⟨rfl, rfl⟩
        go_wp2
        go_ret2
        exact ⟨by rw [E.out]; rfl, below_drewN (Below.refl _ _) _⟩
      · by_cases ho : (18446744073709551615 - d) / 8 < n
        · have E : Hid (R = (0, false)) := by have := HQ2.out; rw [if_pos (Or.inr ho)] at this; exact this
          clear HQ2
          go_wp2_with fail
          refine Calls.mono (Q.out _) ?_
          rintro e w1 ⟨rfl, rfl⟩
          go_wp2
          go_ret2
          exact ⟨by rw [E.out]; rfl, below_drewN (Below.refl _ _) _⟩
        · have E : Hid (R = qnm 8 (D.drop (k + 1)) (n * 8 + d)) := by have := HQ2.out; rw [if_neg (by omega)] at this; exact this
          clear HQ2
          go_wp2_with fail
          refine Calls.mono (Q.out _) ?_
          rintro e w1 ⟨rfl, rfl⟩
          go_wp2
          go_roundw
          case rel => exact ⟨n * 8 + d, k + 1, rfl, by go_num, by omega, by omega, by omega, E, by first | rfl | trivial⟩
          case measure => simp [intOf]; omega
    · obtain rfl : k = D.length := by omega
      have E : Hid (R = (n, true)) := by show _ = _; rw [HQ.out, List.drop_eq_nil_of_le (Nat.le_refl _)]; rfl
      clear HQ HR
      go_wp2
      go_ret2
      exact ⟨by rw [E.out]; rfl, below_drewN (Below.refl _ _) _⟩

set_option maxHeartbeats 1000000 in
theorem rnum_8b (zs : List Int) (w : World) (hz : Hid (∀ i, 0 ≤ zs.getD i 0 ∧ zs.getD i 0 ≤ 255)) (hlen : (zs.length : Int) ≤ 100000000) (h1 : 2 < zs.length) (hv0 : zs.getD 0 0 = 48) (hn : (zs.getD 1 0 == 120) = false) (hm : (zs.getD 1 0 == 88) = false) :
    Calls Tryz.prog 33 #[.string (strOfNums zs)] w fun e w' => e = .returned (.tuple #[.int .u64 (qnm 8 (zs.drop 1) 0).1, .bool (qnm 8 (zs.drop 1) 0).2]) ∧ Below w.heap.size w w' := by
  have hsz := strOfNums_size zs
  have hat0 := str_at zs hz.out 0 (by rw [hsz]; omega)
  rw [hv0] at hat0
  obtain ⟨cz, hcz⟩ : ∃ c, c = zs.getD 1 0 := ⟨_, rfl⟩
  have hat1 := str_at zs hz.out 1 (by rw [hsz]; omega)
  rw [← hcz] at hat1 hn hm
  obtain ⟨cz0, cz1⟩ := hz.out 1
  rw [← hcz] at cz0 cz1
  clear hcz
  have hex : (strOfNums zs).extract 1 zs.length = strOfNums (zs.drop 1) := by rw [str_cut, List.take_of_length_le (by simp)]
  have HZD : Hid (∀ i, 0 ≤ (zs.drop 1).getD i 0 ∧ (zs.drop 1).getD i 0 ≤ 255) := fun i => by rw [getD_drop']; exact hz.out _
  have hdl : (zs.drop 1).length = zs.length - 1 := List.length_drop
  generalize zs.drop 1 = D at hex HZD hdl
  have hsd := strOfNums_size D
  have HA : Hid (∀ k, (h : k < D.length) → (((strOfNums D)[k]'(by rw [hsd]; exact h)).toNat : Int) = D.getD k 0) := fun k h => str_at D HZD.out k _
  have hdn : ((strOfNums D).toList == []) = false := by
    cases D with
    | nil => simp at hdl; omega
    | cons c r => exact str_ne c r
  obtain ⟨R, hR⟩ : ∃ R, R = qnm 8 D 0 := ⟨_, rfl⟩
  rw [← hR]
  have HR : Hid (R = qnm 8 (D.drop 0) 0) := hR
  clear hR
  go_enter Tryz.func33, Tryz.ntmps33
  go_wp2
  go_quiet (fail)
  go_wp2
  go_loopw [6, 7] (fun v i wr => ∃ (n : Int) (k : Nat), v = .int .u64 n ∧ i = .int .i64 (k : Int) ∧ 0 ≤ n ∧ n ≤ 18446744073709551615 ∧ k ≤ D.length ∧ Hid (R = qnm 8 (D.drop k) n) ∧ wr = w.drewN nq) (fun _ i _ => D.length - (intOf i).toNat)
  case atStart => exact ⟨0, 0, rfl, rfl, by omega, by omega, by omega, HR, rfl⟩
  case round =>
    obtain ⟨n, k, rfl, rfl, n0, n1, hkl, HQ, rfl⟩ := hrel
    by_cases hk : k < D.length
    · have hat := HA.out k hk
      obtain ⟨c0, c255⟩ := HZD.out k
      have HQ' := HQ.out
      rw [drop_at hk, qnm] at HQ'
      generalize D.getD k 0 = c at hat c0 c255 HQ'
      have q := fun W => rdigit_any c W c0 c255
      obtain ⟨d0, d99⟩ := dgt_bd c
      generalize dgt c = d at q d0 d99 HQ'
      have Q : Hid _ := q
      have HQ2 : Hid _ := HQ'
      clear HQ' HQ q HR
      by_cases hb : 8 ≤ d
      · have E : Hid (R = (0, false)) := by have := HQ2.out; rw [if_pos (Or.inl hb)] at this; exact this
        clear HQ2
        go_wp2_with fail
        refine Calls.mono (Q.out _) ?_
        rintro e w1 ⟨rfl, rfl⟩
        go_wp2
        go_ret2
        exact ⟨by rw [E.out]; rfl, below_drewN (Below.refl _ _) _⟩
      · by_cases ho : (18446744073709551615 - d) / 8 < n
        · have E : Hid (R = (0, false)) := by have := HQ2.out; rw [if_pos (Or.inr ho)] at this; exact this
          clear HQ2
          go_wp2_with fail
          refine Calls.mono (Q.out _) ?_
          rintro e w1 ⟨rfl, rfl⟩
          go_wp2
          go_ret2
          exact ⟨by rw [E.out]; rfl, below_drewN (Below.refl _ _) _⟩
        · have E : Hid (R = qnm 8 (D.drop (k + 1)) (n * 8 + d)) := by have := HQ2.out; rw [if_neg (by omega)] at this; exact this
          clear HQ2
          go_wp2_with fail
          refine Calls.mono (Q.out _) ?_
          rintro e w1 ⟨rfl, rfl⟩
          go_wp2
          go_roundw
          case rel => exact ⟨n * 8 + d, k + 1, rfl, by go_num, by omega, by omega, by omega, E, by first | rfl | trivial⟩
          case measure => simp [intOf]; omega
    · obtain rfl : k = D.length := by omega
      have E : Hid (R = (n, true)) := by show _ = _; rw [HQ.out, List.drop_eq_nil_of_le (Nat.le_refl _)]; rfl
      clear HQ HR
      go_wp2
      go_ret2
      exact ⟨by rw [E.out]; rfl, below_drewN (Below.refl _ _) _⟩

set_option maxHeartbeats 1000000 in
theorem rnum_16a (zs : List Int) (w : World) (hz : Hid (∀ i, 0 ≤ zs.getD i 0 ∧ zs.getD i 0 ≤ 255)) (hlen : (zs.length : Int) ≤ 100000000) (h1 : 2 < zs.length) (hv0 : zs.getD 0 0 = 48) (hv1 : zs.getD 1 0 = 120) :
    Calls Tryz.prog 33 #[.string (strOfNums zs)] w fun e w' => e = .returned (.tuple #[.int .u64 (qnm 16 (zs.drop 2) 0).1, .bool (qnm 16 (zs.drop 2) 0).2]) ∧ Below w.heap.size w w' := by
  have hsz := strOfNums_size zs
  have hat0 := str_at zs hz.out 0 (by rw [hsz]; omega)
  rw [hv0] at hat0
  have hat1 := str_at zs hz.out 1 (by rw [hsz]; omega)
  rw [hv1] at hat1
  have hex : (strOfNums zs).extract 2 zs.length = strOfNums (zs.drop 2) := by rw [str_cut, List.take_of_length_le (by simp)]
  have HZD : Hid (∀ i, 0 ≤ (zs.drop 2).getD i 0 ∧ (zs.drop 2).getD i 0 ≤ 255) := fun i => by rw [getD_drop']; exact hz.out _
  have hdl : (zs.drop 2).length = zs.length - 2 := List.length_drop
  generalize zs.drop 2 = D at hex HZD hdl
  have hsd := strOfNums_size D
  have HA : Hid (∀ k, (h : k < D.length) → (((strOfNums D)[k]'(by rw [hsd]; exact h)).toNat : Int) = D.getD k 0) := fun k h => str_at D HZD.out k _
  have hdn : ((strOfNums D).toList == []) = false := by
    cases D with
    | nil => simp at hdl; omega
    | cons c r => exact str_ne c r
  obtain ⟨R, hR⟩ : ∃ R, R = qnm 16 D 0 := ⟨_, rfl⟩
  rw [← hR]
  have HR : Hid (R = qnm 16 (D.drop 0) 0) := hR
  clear hR
  go_enter Tryz.func33, Tryz.ntmps33
  go_wp2
  go_quiet (fail)
  go_wp2
  go_loopw [6, 7] (fun v i wr => ∃ (n : Int) (k : Nat), v = .int .u64 n ∧ i = .int .i64 (k : Int) ∧ 0 ≤ n ∧ n ≤ 18446744073709551615 ∧ k ≤ D.length ∧ Hid (R = qnm 16 (D.drop k) n) ∧ wr = w.drewN nq) (fun _ i _ => D.length - (intOf i).toNat)
  case atStart => exact ⟨0, 0, rfl, rfl, by omega, by omega, by omega, HR, rfl⟩
  case round =>
    obtain ⟨n, k, rfl, rfl, n0, n1, hkl, HQ, rfl⟩ := hrel
    by_cases hk : k < D.length
    · have hat := HA.out k hk
      obtain ⟨c0, c255⟩ := HZD.out k
      have HQ' := HQ.out
      rw [drop_at hk, qnm] at HQ'
      generalize D.getD k 0 = c at hat c0 c255 HQ'
      have q := fun W => rdigit_any c W c0 c255
      obtain ⟨d0, d99⟩ := dgt_bd c
      generalize dgt c = d at q d0 d99 HQ'
      have Q : Hid _ := q
      have HQ2 : Hid _ := HQ'
      clear HQ' HQ q HR
      by_cases hb : 16 ≤ d
      · have E : Hid (R = (0, false)) := by have := HQ2.out; rw [if_pos (Or.inl hb)] at this; exact this
        clear HQ2
        go_wp2_with fail
        refine Calls.mono (Q.out _) ?_
        rintro e w1 ⟨rfl, rfl⟩
        go_wp2
        go_ret2
        exact ⟨by rw [E.out]; rfl, below_drewN (Below.refl _ _) _⟩
      · by_cases ho : (18446744073709551615 - d) / 16 < n
        · have E : Hid (R = (0, false)) := by have := HQ2.out; rw [if_pos (Or.inr ho)] at this; exact this
          clear HQ2
          go_wp2_with fail
          refine Calls.mono (Q.out _) ?_
          rintro e w1 ⟨rfl, rfl⟩
          go_wp2
          go_ret2
          exact ⟨by rw [E.out]; rfl, below_drewN (Below.refl _ _) _⟩
        · have E : Hid (R = qnm 16 (D.drop (k + 1)) (n * 16 + d)) := by have := HQ2.out; rw [if_neg (by omega)] at this; exact this
          clear HQ2
          go_wp2_with fail
          refine Calls.mono (Q.out _) ?_
          rintro e w1 ⟨rfl, rfl⟩
          go_wp2
          go_roundw
          case rel => exact ⟨n * 16 + d, k + 1, rfl, by go_num, by omega, by omega, by omega, E, by first | rfl | trivial⟩
          case measure => simp [intOf]; omega
    · obtain rfl : k = D.length := by omega
      have E : Hid (R = (n, true)) := by show _ = _; rw [HQ.out, List.drop_eq_nil_of_le (Nat.le_refl _)]; rfl
      clear HQ HR
      go_wp2
      go_ret2
      exact ⟨by rw [E.out]; rfl, below_drewN (Below.refl _ _) _⟩

set_option maxHeartbeats 1000000 in
theorem rnum_16b (zs : List Int) (w : World) (hz : Hid (∀ i, 0 ≤ zs.getD i 0 ∧ zs.getD i 0 ≤ 255)) (hlen : (zs.length : Int) ≤ 100000000) (h1 : 2 < zs.length) (hv0 : zs.getD 0 0 = 48) (hv1 : zs.getD 1 0 = 88) :
    Calls Tryz.prog 33 #[.string (strOfNums zs)] w fun e w' => e = .returned (.tuple #[.int .u64 (qnm 16 (zs.drop 2) 0).1, .bool (qnm 16 (zs.drop 2) 0).2]) ∧ Below w.heap.size w w' := by
  have hsz := strOfNums_size zs
  have hat0 := str_at zs hz.out 0 (by rw [hsz]; omega)
  rw [hv0] at hat0
  have hat1 := str_at zs hz.out 1 (by rw [hsz]; omega)
  rw [hv1] at hat1
  have hex : (strOfNums zs).extract 2 zs.length = strOfNums (zs.drop 2) := by rw [str_cut, List.take_of_length_le (by simp)]
  have HZD : Hid (∀ i, 0 ≤ (zs.drop 2).getD i 0 ∧ (zs.drop 2).getD i 0 ≤ 255) := fun i => by rw [getD_drop']; exact hz.out _
  have hdl : (zs.drop 2).length = zs.length - 2 := List.length_drop
  generalize zs.drop 2 = D at hex HZD hdl
  have hsd := strOfNums_size D
  have HA : Hid (∀ k, (h : k < D.length) → (((strOfNums D)[k]'(by rw [hsd]; exact h)).toNat : Int) = D.getD k 0) := fun k h => str_at D HZD.out k _
  have hdn : ((strOfNums D).toList == []) = false := by
    cases D with
    | nil => simp at hdl; omega
    | cons c r => exact str_ne c r
  obtain ⟨R, hR⟩ : ∃ R, R = qnm 16 D 0 := ⟨_, rfl⟩
  rw [← hR]
  have HR : Hid (R = qnm 16 (D.drop 0) 0) := hR
  clear hR
  go_enter Tryz.func33, Tryz.ntmps33
  go_wp2
  go_quiet (fail)
  go_wp2
  go_loopw [6, 7] (fun v i wr => ∃ (n : Int) (k : Nat), v = .int .u64 n ∧ i = .int .i64 (k : Int) ∧ 0 ≤ n ∧ n ≤ 18446744073709551615 ∧ k ≤ D.length ∧ Hid (R = qnm 16 (D.drop k) n) ∧ wr = w.drewN nq) (fun _ i _ => D.length - (intOf i).toNat)
  case atStart => exact ⟨0, 0, rfl, rfl, by omega, by omega, by omega, HR, rfl⟩
  case round =>
    obtain ⟨n, k, rfl, rfl, n0, n1, hkl, HQ, rfl⟩ := hrel
    by_cases hk : k < D.length
    · have hat := HA.out k hk
      obtain ⟨c0, c255⟩ := HZD.out k
      have HQ' := HQ.out
      rw [drop_at hk, qnm] at HQ'
      generalize D.getD k 0 = c at hat c0 c255 HQ'
      have q := fun W => rdigit_any c W c0 c255
      obtain ⟨d0, d99⟩ := dgt_bd c
      generalize dgt c = d at q d0 d99 HQ'
      have Q : Hid _ := q
      have HQ2 : Hid _ := HQ'
      clear HQ' HQ q HR
      by_cases hb : 16 ≤ d
      · have E : Hid (R = (0, false)) := by have := HQ2.out; rw [if_pos (Or.inl hb)] at this; exact this
        clear HQ2
        go_wp2_with fail
        refine Calls.mono (Q.out _) ?_
        rintro e w1 ⟨rfl, rfl⟩
        go_wp2
        go_ret2
        exact ⟨by rw [E.out]; rfl, below_drewN (Below.refl _ _) _⟩
      · by_cases ho : (18446744073709551615 - d) / 16 < n
        · have E : Hid (R = (0, false)) := by have := HQ2.out; rw [if_pos (Or.inr ho)] at this; exact this
          clear HQ2
          go_wp2_with fail
          refine Calls.mono (Q.out _) ?_
          rintro e w1 ⟨rfl, rfl⟩
          go_wp2
          go_ret2
          exact ⟨by rw [E.out]; rfl, below_drewN (Below.refl _ _) _⟩
        · have E : Hid (R = qnm 16 (D.drop (k + 1)) (n * 16 + d)) := by have := HQ2.out; rw [if_neg (by omega)] at this; exact this
          clear HQ2
          go_wp2_with fail
          refine Calls.mono (Q.out _) ?_
          rintro e w1 ⟨rfl, rfl⟩
          go_wp2
          go_roundw
          case rel => exact ⟨n * 16 + d, k + 1, rfl, by go_num, by omega, by omega, by omega, E, by first | rfl | trivial⟩
          case measure => simp [intOf]; omega
    · obtain rfl : k = D.length := by omega
      have E : Hid (R = (n, true)) := by show _ = _; rw [HQ.out, List.drop_eq_nil_of_le (Nat.le_refl _)]; rfl
      clear HQ HR
      go_wp2
      go_ret2
      exact ⟨by rw [E.out]; rfl, below_drewN (Below.refl _ _) _⟩

set_option maxHeartbeats 400000 in
theorem rnum_nil (w : World) : Calls Tryz.prog 33 #[.string (strOfNums [])] w fun e w' => e = .returned (.tuple #[.int .u64 0, .bool false]) ∧ w = w' := by
  have hne : ((strOfNums []).toList == []) = true := by rw [str_list]; rfl
  have hsz : (strOfNums []).size = 0 := strOfNums_size []
  generalize strOfNums [] = S at hne hsz
  go_enter Tryz.func33, Tryz.ntmps33
  go_wp2
  refine wp_loop_rounds 1 ?_
  rw [rounds_succ]
  go_wp2
  go_ret2
  exact ⟨rfl, rfl⟩

theorem rnum_any (zs : List Int) (w : World) (hz : Hid (∀ i, 0 ≤ zs.getD i 0 ∧ zs.getD i 0 ≤ 255)) (hlen : (zs.length : Int) ≤ 100000000) :
    Calls Tryz.prog 33 #[.string (strOfNums zs)] w fun e w' => e = .returned (.tuple #[.int .u64 (qnum zs).1, .bool (qnum zs).2]) ∧ Below w.heap.size w w' := by
  by_cases h0 : zs = []
  · subst h0
    exact (rnum_nil w).mono fun e w' ⟨h1, h2⟩ => ⟨h1, h2 ▸ Below.refl _ _⟩
  have hp : 0 < zs.length := List.length_pos_iff.2 h0
  unfold qnum
  by_cases h1 : zs.length = 1
  · rw [if_neg (by omega), if_neg (by omega), if_neg h0]
    exact rnum_10a zs w hz hlen hp h1
  by_cases hv : zs.getD 0 0 = 48
  · by_cases h2 : zs.length = 2
    · rw [if_neg (by omega), if_pos ⟨by omega, hv⟩]
      exact rnum_8a zs w hz hlen h2 hv
    · by_cases hx : zs.getD 1 0 = 120
      · rw [if_pos ⟨by omega, hv, Or.inl hx⟩]
        exact rnum_16a zs w hz hlen (by omega) hv hx
      by_cases hX : zs.getD 1 0 = 88
      · rw [if_pos ⟨by omega, hv, Or.inr hX⟩]
        exact rnum_16b zs w hz hlen (by omega) hv hX
      rw [if_neg (by omega), if_pos ⟨by omega, hv⟩]
      exact rnum_8b zs w hz hlen (by omega) hv (by simpa using hx) (by simpa using hX)
  · rw [if_neg (by omega), if_neg (by omega), if_neg h0]
    by_cases h2 : zs.length = 2
    · exact rnum_10b zs w hz hlen hp h2 (by simpa using hv)
    · exact rnum_10c zs w hz hlen hp (by omega) (by simpa using hv)

theorem str_app (a b : List Int) : strOfNums a ++ strOfNums b = strOfNums (a ++ b) := by
  unfold strOfNums
  rw [ByteArray.mk_append_mk, List.map_append]

theorem run_add (w : World) (a b : List Int) (h : a.length + b.length ≤ 9223372036854775807) : (Op.stringOp .add (strOfNums a) (strOfNums b)).run Tryz.prog w = .ok (.string (strOfNums (a ++ b))) w := by
  rw [run_string_add_sum w _ _ (by rw [strOfNums_size, strOfNums_size]; exact h), str_app]

end Go.Proofs.YtlekfcehmlepkaaGreatDoor

namespace Go.Proofs.YtlekfcehmlepkaaGreatDoor
open Go.RowKit
set_option linter.unusedVariables false
set_option linter.unusedSimpArgs false

theorem nident_big (s : List Int) (h : 200 < s.length ∨ s.length = 0) : nident s = false := by
  unfold nident
  rw [decide_eq_false (by omega)]
  simp

theorem nident_bad (s : List Int) (k : Nat) (hk : k < s.length) (h : lletter (s.getD k 0) = false) : nident s = false := by
  unfold nident
  have : s.all lletter = false := by
    rw [List.all_eq_false]
    refine ⟨s[k], List.getElem_mem hk, ?_⟩
    rw [show s.getD k 0 = s[k] by simp [List.getD, hk]] at h
    rw [h]; decide
  rw [this]; rfl

theorem nident_good (s : List Int) (h : ∀ k, k < s.length → lletter (s.getD k 0) = true) (h1 : 1 ≤ s.length) (h2 : s.length ≤ 200) : nident s = !lnumb (s.getD 0 0) := by
  unfold nident
  have : s.all lletter = true := by
    rw [List.all_eq_true]
    intro c hc
    obtain ⟨k, hk, rfl⟩ := List.getElem_of_mem hc
    have := h k hk
    rwa [show s.getD k 0 = s[k] by simp [List.getD, hk]] at this
  rw [this, decide_eq_true ⟨h1, h2⟩]; rfl

set_option maxHeartbeats 1000000 in
theorem rident_any (s : List Int) (w : World) (hz : Hid (∀ i, 0 ≤ s.getD i 0 ∧ s.getD i 0 ≤ 255)) (hlen : (s.length : Int) ≤ 9223372036854775807) :
    Calls Tryz.prog 110 #[.string (strOfNums s)] w fun e w' => e = .returned (.bool (nident s)) ∧ w = w' := by
  have hsz := strOfNums_size s
  have HA : Hid (∀ k, (h : k < s.length) → (((strOfNums s)[k]'(by rw [hsz]; exact h)).toNat : Int) = s.getD k 0) := fun k h => str_at s hz.out k _
  generalize strOfNums s = S at hsz HA
  go_enter Tryz.func110, Tryz.ntmps110
  go_wp2
  go_loopw [3] (fun v wr => ∃ k : Nat, v = .int .i64 (k : Int) ∧ k ≤ s.length ∧ Hid (∀ j, j < k → lletter (s.getD j 0) = true) ∧ w = wr) (fun v _ => s.length - (intOf v).toNat)
  case atStart => exact ⟨0, rfl, by omega, fun j hj => absurd hj (by omega), rfl⟩
  case round =>
    obtain ⟨k, rfl, hk, HJ, rfl⟩ := hrel
    by_cases hkl : k < s.length
    · have hat := HA.out k hkl
      have hcb := hz.out k
      obtain ⟨c, hc⟩ : ∃ c, c = s.getD k 0 := ⟨_, rfl⟩
      have HC : Hid (c = s.getD k 0) := hc
      rw [← hc] at hat hcb
      obtain ⟨c0, c255⟩ := hcb
      have q := fun W => rletter_any c W c0 c255
      clear hc
      by_cases hl : lletter c = true
      · rw [hl] at q
        have Q : Hid _ := q
        have HJ2 : Hid (∀ j, j < k + 1 → lletter (s.getD j 0) = true) := fun j hj => by
          by_cases e : j = k
          · rw [e, ← HC.out]; exact hl
          · exact HJ.out j (by omega)
        clear q hl HJ
        go_wp2_with fail
        refine Calls.mono (Q.out _) ?_
        rintro e w1 ⟨rfl, rfl⟩
        go_wp2
        go_roundw
        case rel => first | exact ⟨k + 1, by go_num, by omega, HJ2, by first | rfl | trivial⟩ | ((repeat apply Exists.intro); exact ⟨⟨k + 1, by go_num, by omega, HJ2, by first | rfl | trivial⟩, rfl⟩)
        case measure => simp [intOf]; omega
      · have hl' : lletter c = false := by simpa using hl
        rw [hl'] at q
        have Q : Hid _ := q
        have E : Hid (nident s = false) := nident_bad s k hkl (by rw [← HC.out]; exact hl')
        clear q hl hl' HJ
        go_wp2_with fail
        refine Calls.mono (Q.out _) ?_
        rintro e w1 ⟨rfl, rfl⟩
        go_wp2
        go_ret
        exact ⟨by rw [E.out]; rfl, rfl⟩
    · obtain rfl : k = s.length := by omega
      by_cases h0 : s.length = 0
      · have E : Hid (nident s = false) := nident_big s (.inr h0)
        have h1 : ¬ (1 : Int) ≤ (s.length : Int) := by omega
        clear HJ h0
        go_wp2
        go_ret
        exact ⟨by rw [E.out]; rfl, rfl⟩
      · have h1 : (1 : Int) ≤ (s.length : Int) := by omega
        by_cases h2 : s.length ≤ 200
        · have h2' : (s.length : Int) ≤ 200 := by omega
          have hat := HA.out 0 (by omega)
          have hcb := hz.out 0
          have E : Hid (nident s = !lnumb (s.getD 0 0)) := nident_good s HJ.out (by omega) h2
          generalize s.getD 0 0 = c at hat hcb E
          obtain ⟨c0, c255⟩ := hcb
          have Q : Hid _ := fun W => rnumber_any c W c0 c255
          clear HJ
          go_wp2_with fail
          refine Calls.mono (Q.out _) ?_
          rintro e w1 ⟨rfl, rfl⟩
          go_wp2
          go_ret
          exact ⟨by rw [E.out]; rfl, rfl⟩
        · have h2' : ¬ (s.length : Int) ≤ 200 := by omega
          have E : Hid (nident s = false) := nident_big s (.inl (by omega))
          clear HJ
          go_wp2
          go_ret
          exact ⟨by rw [E.out]; rfl, rfl⟩

end Go.Proofs.YtlekfcehmlepkaaGreatDoor
