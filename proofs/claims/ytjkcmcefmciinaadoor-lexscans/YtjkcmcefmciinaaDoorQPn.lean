/- The contracts of the program's own quote.splitBase and quote.Number, over the turned text. -/
import Derived.Test.YtjkcmcefmciinaaDoorQPt
namespace Go.Proofs.YtjkcmcefmciinaaDoor
open Go.RowKit
set_option linter.unusedVariables false
set_option linter.unusedSimpArgs false

theorem u8_beq (x a : Int) (hx : 0 ≤ x ∧ x ≤ 255) (ha : 0 ≤ a ∧ a ≤ 255) : (UInt8.ofNat x.toNat == UInt8.ofNat a.toNat) = decide (a = x) := by
  rw [Bool.eq_iff_iff]
  simp only [beq_iff_eq, decide_eq_true_eq]
  exact ⟨fun h => (u8_inj hx ha h).symm, fun h => by rw [h]⟩

/-- Does a text begin with two signs? -/
theorem hp_two (zs : List Int) (hz : ∀ i, 0 ≤ zs.getD i 0 ∧ zs.getD i 0 ≤ 255) (x y : Int) (hx : 0 ≤ x ∧ x ≤ 255) (hy : 0 ≤ y ∧ y ≤ 255) :
    Lib.hasPrefix (strOfNums zs).data.toList (strOfNums [x, y]).data.toList = decide (2 ≤ zs.length ∧ zs.getD 0 0 = x ∧ zs.getD 1 0 = y) := by
  rw [strOfNums_data, strOfNums_data]
  match zs, hz with
  | [], _ => simp [Lib.hasPrefix, List.isPrefixOf]
  | [a], _ => simp [Lib.hasPrefix, List.isPrefixOf]
  | a :: b :: r, hz =>
    have ha : 0 ≤ a ∧ a ≤ 255 := hz 0
    have hb : 0 ≤ b ∧ b ≤ 255 := hz 1
    simp only [Lib.hasPrefix, List.map_cons, List.map_nil, List.isPrefixOf, Bool.and_true, u8_beq x a hx ha, u8_beq y b hy hb]
    rw [Bool.eq_iff_iff]
    simp [List.getD]

theorem php (zs : List Int) (w : World) (hz : Hid (∀ i, 0 ≤ zs.getD i 0 ∧ zs.getD i 0 ≤ 255)) (x y : Int) (hx : 0 ≤ x ∧ x ≤ 255) (hy : 0 ≤ y ∧ y ≤ 255) :
    Calls Tryd.prog 34 #[.string (strOfNums zs), .string (strOfNums [x, y])] w fun e w' => e = .returned (.bool (decide (2 ≤ zs.length ∧ zs.getD 0 0 = x ∧ zs.getD 1 0 = y))) ∧ w = w' := by
  refine (Sh.strings_HasPrefix (strOfNums zs) (strOfNums [x, y]) w).mono ?_
  rintro e w' ⟨rfl, rfl⟩
  exact ⟨by rw [hp_two zs hz.out x y hx hy], rfl⟩

/-- The digits that must write a number, and their base. -/
def qsp (s : List Int) : List Int × Int :=
  if 2 ≤ s.length ∧ s.getD 0 0 = 48 ∧ (s.getD 1 0 = 120 ∨ s.getD 1 0 = 88) then (s.drop 2, 16)
  else if 1 < s.length ∧ s.getD 0 0 = 48 then (s.drop 1, 8) else (s, 10)

theorem qnum_qsp (s : List Int) : qnum s = if (qsp s).1 = [] then (0, false) else qnm (qsp s).2 (qsp s).1 0 := by
  unfold qnum qsp
  by_cases h1 : 2 ≤ s.length ∧ s.getD 0 0 = 48 ∧ (s.getD 1 0 = 120 ∨ s.getD 1 0 = 88)
  · rw [if_pos h1]
    by_cases h2 : 2 < s.length
    · rw [if_pos ⟨h2, h1.2⟩, if_neg]
      intro h
      have := congrArg List.length h
      simp only [List.length_drop, List.length_nil] at this
      omega
    · rw [if_neg (fun h => h2 h.1), if_pos ⟨by omega, h1.2.1⟩, if_pos (List.drop_eq_nil_of_le (by omega))]
      have hd : s.drop 1 = [s.getD 1 0] := by
        rw [drop_at (by omega), List.drop_eq_nil_of_le (by omega)]
      rw [hd, qnm, if_pos]
      left
      rcases h1.2.2 with h | h <;> (rw [h]; decide)
  · rw [if_neg h1, if_neg (fun h => h1 ⟨by omega, h.2⟩)]
    by_cases h2 : 1 < s.length ∧ s.getD 0 0 = 48
    · rw [if_pos h2, if_pos h2, if_neg]
      intro h
      have := congrArg List.length h
      simp only [List.length_drop, List.length_nil] at this
      omega
    · rw [if_neg h2, if_neg h2]

theorem psb_1 (S T : ByteArray) (n : Nat) (w : World) (hsz : S.size = n) (hn : 2 ≤ n) (hn2 : (n : Int) ≤ 100000000) (hex : S.extract 2 n = T) (P : Hid (∀ W, Calls Tryd.prog 34 #[.string S, .string { data := #[48, 120] }] W fun e w' => e = .returned (.bool true) ∧ W = w')) :
    Calls Tryd.prog 64 #[.string S] w fun e w' => e = .returned (.tuple #[.string T, .int .u64 16]) ∧ w = w' := by
  go_enter Tryd.func64, Tryd.ntmps64
  go_wp2_with fail
  refine Calls.mono (P.out _) ?_
  rintro e w1 ⟨rfl, rfl⟩
  go_wp2
  go_ret2
  exact ⟨rfl, rfl⟩

theorem psb_2 (S T : ByteArray) (n : Nat) (w : World) (hsz : S.size = n) (hn : 2 ≤ n) (hn2 : (n : Int) ≤ 100000000) (hex : S.extract 2 n = T) (P : Hid (∀ W, Calls Tryd.prog 34 #[.string S, .string { data := #[48, 120] }] W fun e w' => e = .returned (.bool false) ∧ W = w')) (Q : Hid (∀ W, Calls Tryd.prog 34 #[.string S, .string { data := #[48, 88] }] W fun e w' => e = .returned (.bool true) ∧ W = w')) :
    Calls Tryd.prog 64 #[.string S] w fun e w' => e = .returned (.tuple #[.string T, .int .u64 16]) ∧ w = w' := by
  go_enter Tryd.func64, Tryd.ntmps64
  go_wp2_with fail
  refine Calls.mono (P.out _) ?_
  rintro e w1 ⟨rfl, rfl⟩
  go_wp2_with fail
  refine Calls.mono (Q.out _) ?_
  rintro e w1 ⟨rfl, rfl⟩
  go_wp2
  go_ret2
  exact ⟨rfl, rfl⟩

theorem psb_3 (S T : ByteArray) (n : Nat) (w : World) (hsz : S.size = n) (hn : 1 < n) (hn2 : (n : Int) ≤ 100000000) (hat : ((S[0]'(by omega)).toNat : Int) = 48) (hex : S.extract 1 n = T) (P : Hid (∀ W, Calls Tryd.prog 34 #[.string S, .string { data := #[48, 120] }] W fun e w' => e = .returned (.bool false) ∧ W = w')) (Q : Hid (∀ W, Calls Tryd.prog 34 #[.string S, .string { data := #[48, 88] }] W fun e w' => e = .returned (.bool false) ∧ W = w')) :
    Calls Tryd.prog 64 #[.string S] w fun e w' => e = .returned (.tuple #[.string T, .int .u64 8]) ∧ w = w' := by
  go_enter Tryd.func64, Tryd.ntmps64
  go_wp2_with fail
  refine Calls.mono (P.out _) ?_
  rintro e w1 ⟨rfl, rfl⟩
  go_wp2_with fail
  refine Calls.mono (Q.out _) ?_
  rintro e w1 ⟨rfl, rfl⟩
  go_wp2
  go_ret2
  exact ⟨rfl, rfl⟩

theorem psb_4 (S : ByteArray) (n : Nat) (w : World) (hsz : S.size = n) (hn : n ≤ 1) (P : Hid (∀ W, Calls Tryd.prog 34 #[.string S, .string { data := #[48, 120] }] W fun e w' => e = .returned (.bool false) ∧ W = w')) (Q : Hid (∀ W, Calls Tryd.prog 34 #[.string S, .string { data := #[48, 88] }] W fun e w' => e = .returned (.bool false) ∧ W = w')) :
    Calls Tryd.prog 64 #[.string S] w fun e w' => e = .returned (.tuple #[.string S, .int .u64 10]) ∧ w = w' := by
  have hn1 : ¬ (1 : Int) < (n : Int) := by omega
  go_enter Tryd.func64, Tryd.ntmps64
  go_wp2_with fail
  refine Calls.mono (P.out _) ?_
  rintro e w1 ⟨rfl, rfl⟩
  go_wp2_with fail
  refine Calls.mono (Q.out _) ?_
  rintro e w1 ⟨rfl, rfl⟩
  go_wp2
  go_ret2
  exact ⟨rfl, rfl⟩

theorem psb_5 (S : ByteArray) (n : Nat) (c : Int) (w : World) (hsz : S.size = n) (hn : 1 < n) (hn2 : (n : Int) ≤ 100000000) (hat : ((S[0]'(by omega)).toNat : Int) = c) (hc : (c == 48) = false) (P : Hid (∀ W, Calls Tryd.prog 34 #[.string S, .string { data := #[48, 120] }] W fun e w' => e = .returned (.bool false) ∧ W = w')) (Q : Hid (∀ W, Calls Tryd.prog 34 #[.string S, .string { data := #[48, 88] }] W fun e w' => e = .returned (.bool false) ∧ W = w')) :
    Calls Tryd.prog 64 #[.string S] w fun e w' => e = .returned (.tuple #[.string S, .int .u64 10]) ∧ w = w' := by
  go_enter Tryd.func64, Tryd.ntmps64
  go_wp2_with fail
  refine Calls.mono (P.out _) ?_
  rintro e w1 ⟨rfl, rfl⟩
  go_wp2_with fail
  refine Calls.mono (Q.out _) ?_
  rintro e w1 ⟨rfl, rfl⟩
  go_wp2
  go_ret2
  exact ⟨rfl, rfl⟩

theorem psb_any (zs : List Int) (w : World) (hz : Hid (∀ i, 0 ≤ zs.getD i 0 ∧ zs.getD i 0 ≤ 255)) (hlen : (zs.length : Int) ≤ 100000000) :
    Calls Tryd.prog 64 #[.string (strOfNums zs)] w fun e w' => e = .returned (.tuple #[.string (strOfNums (qsp zs).1), .int .u64 (qsp zs).2]) ∧ w = w' := by
  have hsz := strOfNums_size zs
  have p := fun W => php zs W hz 48 120 (by omega) (by omega)
  have q := fun W => php zs W hz 48 88 (by omega) (by omega)
  rw [show strOfNums [48, 120] = ⟨#[48, 120]⟩ from rfl] at p
  rw [show strOfNums [48, 88] = ⟨#[48, 88]⟩ from rfl] at q
  by_cases h2 : 2 ≤ zs.length ∧ zs.getD 0 0 = 48 ∧ (zs.getD 1 0 = 120 ∨ zs.getD 1 0 = 88)
  · have hex : (strOfNums zs).extract 2 zs.length = strOfNums (zs.drop 2) := by rw [str_cut, List.take_of_length_le (by simp)]
    rw [qsp, if_pos h2]
    obtain ⟨hl, hv, h⟩ := h2
    by_cases hx : zs.getD 1 0 = 120
    · rw [show decide (2 ≤ zs.length ∧ zs.getD 0 0 = 48 ∧ zs.getD 1 0 = 120) = true from decide_eq_true ⟨hl, hv, hx⟩] at p
      exact psb_1 _ _ _ w hsz hl hlen hex p
    · rw [show decide (2 ≤ zs.length ∧ zs.getD 0 0 = 48 ∧ zs.getD 1 0 = 120) = false from decide_eq_false (fun h => hx h.2.2)] at p
      rw [show decide (2 ≤ zs.length ∧ zs.getD 0 0 = 48 ∧ zs.getD 1 0 = 88) = true from decide_eq_true ⟨hl, hv, h.resolve_left hx⟩] at q
      exact psb_2 _ _ _ w hsz hl hlen hex p q
  · rw [show decide (2 ≤ zs.length ∧ zs.getD 0 0 = 48 ∧ zs.getD 1 0 = 120) = false from decide_eq_false (fun h => h2 ⟨h.1, h.2.1, .inl h.2.2⟩)] at p
    rw [show decide (2 ≤ zs.length ∧ zs.getD 0 0 = 48 ∧ zs.getD 1 0 = 88) = false from decide_eq_false (fun h => h2 ⟨h.1, h.2.1, .inr h.2.2⟩)] at q
    rw [qsp, if_neg h2]
    by_cases h1 : 1 < zs.length
    · have hat := str_at zs hz.out 0 (by rw [hsz]; omega)
      by_cases hv : zs.getD 0 0 = 48
      · have hex : (strOfNums zs).extract 1 zs.length = strOfNums (zs.drop 1) := by rw [str_cut, List.take_of_length_le (by simp)]
        rw [if_pos ⟨h1, hv⟩]
        rw [hv] at hat
        exact psb_3 _ _ _ w hsz h1 hlen hat hex p q
      · rw [if_neg (fun h => hv h.2)]
        exact psb_5 _ _ _ w hsz h1 hlen hat (by simpa using hv) p q
    · rw [if_neg (fun h => h1 h.1)]
      exact psb_4 _ _ w hsz (by omega) p q

set_option maxHeartbeats 1000000 in
theorem pnum_10 (S : ByteArray) (D : List Int) (w : World) (hz : Hid (∀ i, 0 ≤ D.getD i 0 ∧ D.getD i 0 ≤ 255)) (hlen : (D.length : Int) ≤ 100000000) (hD : D ≠ [])
    (P : Hid (∀ W, Calls Tryd.prog 64 #[.string S] W fun e w' => e = .returned (.tuple #[.string (strOfNums D), .int .u64 10]) ∧ W = w')) :
    Calls Tryd.prog 53 #[.string S] w fun e w' => e = .returned (.tuple #[.int .u64 (qnm 10 D 0).1, .bool (qnm 10 D 0).2]) ∧ Below w.heap.size w w' := by
  have hsz := strOfNums_size D
  have hne : ((strOfNums D).toList == []) = false := by cases D with | nil => exact absurd rfl hD | cons a b => exact str_ne a b
  clear hD
  have HA : Hid (∀ k, (h : k < D.length) → (((strOfNums D)[k]'(by rw [hsz]; exact h)).toNat : Int) = D.getD k 0) := fun k h => str_at D hz.out k _
  have hmf : ∀ (fn : Fn) (first cap : Array Value) (w : World), (Instr.makeFunc fn first cap).run Tryd.prog w = .ok (.func fn first cap) w := fun _ _ _ _ => rfl
  obtain ⟨R, hR⟩ : ∃ R, R = qnm 10 D 0 := ⟨_, rfl⟩
  rw [← hR]
  have HR : Hid (R = qnm 10 (D.drop 0) 0) := hR
  clear hR
  generalize strOfNums D = DS at hsz hne HA P
  go_enter Tryd.func53, Tryd.ntmps53
  go_wp2_with fail
  refine Calls.mono (P.out _) ?_
  rintro e w1 ⟨rfl, rfl⟩
  go_wp2
  go_loopw [7, 22] (fun v i wr => ∃ (n : Int) (k : Nat), v = .int .u64 n ∧ i = .int .i64 (k : Int) ∧ 0 ≤ n ∧ n ≤ 18446744073709551615 ∧ k ≤ D.length ∧ Hid (R = qnm 10 (D.drop k) n) ∧ w.heap.size < wr.heap.size ∧ wr.cell? ⟨w.heap.size, 0, none⟩ = some (.int .u64 10) ∧ Below w.heap.size w wr) (fun _ i _ => D.length - (intOf i).toNat)
  case atStart => exact ⟨0, 0, rfl, rfl, by omega, by omega, by omega, HR, by simp, by simp, (Below.refl _ _).alloc (Nat.le_refl _) _⟩
  case round =>
    obtain ⟨n, k, rfl, rfl, n0, n1, hkl, HQ, hlt, hcell, hb⟩ := hrel
    by_cases hk : k < D.length
    · have hat := HA.out k hk
      obtain ⟨c0, c255⟩ := hz.out k
      have HQ' := HQ.out
      rw [drop_at hk, qnm] at HQ'
      generalize D.getD k 0 = c at hat c0 c255 HQ'
      have q := pclo_any c 10 w.heap.size wr c0 c255 (by omega) (by omega) hcell
      obtain ⟨d0, d99⟩ := dgt_bd c
      have HQ2 : Hid _ := HQ'
      clear HQ' HQ HR
      by_cases hbb : 10 ≤ dgt c
      · have E : Hid (R = (0, false)) := by have := HQ2.out; rw [if_pos (Or.inl hbb)] at this; exact this
        clear HQ2
        rw [show decide (dgt c < 10) = false by simpa using hbb] at q
        generalize pdv 10 c = d at q
        have Q : Hid _ := q
        clear q
        go_wp2_with fail
        refine Calls.mono Q.out ?_
        rintro e w1 ⟨rfl, hb1⟩
        go_wp2
        go_ret2
        exact ⟨by rw [E.out]; rfl, hb.trans (hb1.mono hb.size)⟩
      · have hd : dgt c < 10 := by omega
        rw [pdv_in hd (by omega), show decide (dgt c < 10) = true by simpa using hd] at q
        generalize dgt c = d at q d0 d99 HQ2 hbb hd
        have Q : Hid _ := q
        clear q
        by_cases ho : (18446744073709551615 - d) / 10 < n
        · have E : Hid (R = (0, false)) := by have := HQ2.out; rw [if_pos (Or.inr ho)] at this; exact this
          clear HQ2
          go_wp2_with fail
          refine Calls.mono Q.out ?_
          rintro e w1 ⟨rfl, hb1⟩
          go_wp2
          go_ret2
          exact ⟨by rw [E.out]; rfl, hb.trans (hb1.mono hb.size)⟩
        · have E : Hid (R = qnm 10 (D.drop (k + 1)) (n * 10 + d)) := by have := HQ2.out; rw [if_neg (by omega)] at this; exact this
          clear HQ2
          go_wp2_with fail
          refine Calls.mono Q.out ?_
          rintro e w1 ⟨rfl, hb1⟩
          go_wp2
          go_roundw
          case rel => first | exact ⟨n * 10 + d, k + 1, rfl, by go_num, by omega, by omega, by omega, E, Nat.lt_of_lt_of_le hlt hb1.size, (hb1.cell hlt).trans hcell, hb.trans (hb1.mono hb.size)⟩ | ((repeat apply Exists.intro); exact ⟨⟨n * 10 + d, k + 1, rfl, by go_num, by omega, by omega, by omega, E, Nat.lt_of_lt_of_le hlt hb1.size, (hb1.cell hlt).trans hcell, hb.trans (hb1.mono hb.size)⟩, rfl⟩)
          case measure => simp [intOf]; omega
    · obtain rfl : k = D.length := by omega
      have E : Hid (R = (n, true)) := by show _ = _; rw [HQ.out, List.drop_eq_nil_of_le (Nat.le_refl _)]; rfl
      clear HQ HR
      go_wp2
      go_ret2
      exact ⟨by rw [E.out]; rfl, hb⟩

set_option maxHeartbeats 1000000 in
theorem pnum_16 (S : ByteArray) (D : List Int) (w : World) (hz : Hid (∀ i, 0 ≤ D.getD i 0 ∧ D.getD i 0 ≤ 255)) (hlen : (D.length : Int) ≤ 100000000) (hD : D ≠ [])
    (P : Hid (∀ W, Calls Tryd.prog 64 #[.string S] W fun e w' => e = .returned (.tuple #[.string (strOfNums D), .int .u64 16]) ∧ W = w')) :
    Calls Tryd.prog 53 #[.string S] w fun e w' => e = .returned (.tuple #[.int .u64 (qnm 16 D 0).1, .bool (qnm 16 D 0).2]) ∧ Below w.heap.size w w' := by
  have hsz := strOfNums_size D
  have hne : ((strOfNums D).toList == []) = false := by cases D with | nil => exact absurd rfl hD | cons a b => exact str_ne a b
  clear hD
  have HA : Hid (∀ k, (h : k < D.length) → (((strOfNums D)[k]'(by rw [hsz]; exact h)).toNat : Int) = D.getD k 0) := fun k h => str_at D hz.out k _
  have hmf : ∀ (fn : Fn) (first cap : Array Value) (w : World), (Instr.makeFunc fn first cap).run Tryd.prog w = .ok (.func fn first cap) w := fun _ _ _ _ => rfl
  obtain ⟨R, hR⟩ : ∃ R, R = qnm 16 D 0 := ⟨_, rfl⟩
  rw [← hR]
  have HR : Hid (R = qnm 16 (D.drop 0) 0) := hR
  clear hR
  generalize strOfNums D = DS at hsz hne HA P
  go_enter Tryd.func53, Tryd.ntmps53
  go_wp2_with fail
  refine Calls.mono (P.out _) ?_
  rintro e w1 ⟨rfl, rfl⟩
  go_wp2
  go_loopw [7, 22] (fun v i wr => ∃ (n : Int) (k : Nat), v = .int .u64 n ∧ i = .int .i64 (k : Int) ∧ 0 ≤ n ∧ n ≤ 18446744073709551615 ∧ k ≤ D.length ∧ Hid (R = qnm 16 (D.drop k) n) ∧ w.heap.size < wr.heap.size ∧ wr.cell? ⟨w.heap.size, 0, none⟩ = some (.int .u64 16) ∧ Below w.heap.size w wr) (fun _ i _ => D.length - (intOf i).toNat)
  case atStart => exact ⟨0, 0, rfl, rfl, by omega, by omega, by omega, HR, by simp, by simp, (Below.refl _ _).alloc (Nat.le_refl _) _⟩
  case round =>
    obtain ⟨n, k, rfl, rfl, n0, n1, hkl, HQ, hlt, hcell, hb⟩ := hrel
    by_cases hk : k < D.length
    · have hat := HA.out k hk
      obtain ⟨c0, c255⟩ := hz.out k
      have HQ' := HQ.out
      rw [drop_at hk, qnm] at HQ'
      generalize D.getD k 0 = c at hat c0 c255 HQ'
      have q := pclo_any c 16 w.heap.size wr c0 c255 (by omega) (by omega) hcell
      obtain ⟨d0, d99⟩ := dgt_bd c
      have HQ2 : Hid _ := HQ'
      clear HQ' HQ HR
      by_cases hbb : 16 ≤ dgt c
      · have E : Hid (R = (0, false)) := by have := HQ2.out; rw [if_pos (Or.inl hbb)] at this; exact this
        clear HQ2
        rw [show decide (dgt c < 16) = false by simpa using hbb] at q
        generalize pdv 16 c = d at q
        have Q : Hid _ := q
        clear q
        go_wp2_with fail
        refine Calls.mono Q.out ?_
        rintro e w1 ⟨rfl, hb1⟩
        go_wp2
        go_ret2
        exact ⟨by rw [E.out]; rfl, hb.trans (hb1.mono hb.size)⟩
      · have hd : dgt c < 16 := by omega
        rw [pdv_in hd (by omega), show decide (dgt c < 16) = true by simpa using hd] at q
        generalize dgt c = d at q d0 d99 HQ2 hbb hd
        have Q : Hid _ := q
        clear q
        by_cases ho : (18446744073709551615 - d) / 16 < n
        · have E : Hid (R = (0, false)) := by have := HQ2.out; rw [if_pos (Or.inr ho)] at this; exact this
          clear HQ2
          go_wp2_with fail
          refine Calls.mono Q.out ?_
          rintro e w1 ⟨rfl, hb1⟩
          go_wp2
          go_ret2
          exact ⟨by rw [E.out]; rfl, hb.trans (hb1.mono hb.size)⟩
        · have E : Hid (R = qnm 16 (D.drop (k + 1)) (n * 16 + d)) := by have := HQ2.out; rw [if_neg (by omega)] at this; exact this
          clear HQ2
          go_wp2_with fail
          refine Calls.mono Q.out ?_
          rintro e w1 ⟨rfl, hb1⟩
          go_wp2
          go_roundw
          case rel => first | exact ⟨n * 16 + d, k + 1, rfl, by go_num, by omega, by omega, by omega, E, Nat.lt_of_lt_of_le hlt hb1.size, (hb1.cell hlt).trans hcell, hb.trans (hb1.mono hb.size)⟩ | ((repeat apply Exists.intro); exact ⟨⟨n * 16 + d, k + 1, rfl, by go_num, by omega, by omega, by omega, E, Nat.lt_of_lt_of_le hlt hb1.size, (hb1.cell hlt).trans hcell, hb.trans (hb1.mono hb.size)⟩, rfl⟩)
          case measure => simp [intOf]; omega
    · obtain rfl : k = D.length := by omega
      have E : Hid (R = (n, true)) := by show _ = _; rw [HQ.out, List.drop_eq_nil_of_le (Nat.le_refl _)]; rfl
      clear HQ HR
      go_wp2
      go_ret2
      exact ⟨by rw [E.out]; rfl, hb⟩

set_option maxHeartbeats 1000000 in
theorem pnum_8 (S : ByteArray) (D : List Int) (w : World) (hz : Hid (∀ i, 0 ≤ D.getD i 0 ∧ D.getD i 0 ≤ 255)) (hlen : (D.length : Int) ≤ 100000000) (hD : D ≠ [])
    (P : Hid (∀ W, Calls Tryd.prog 64 #[.string S] W fun e w' => e = .returned (.tuple #[.string (strOfNums D), .int .u64 8]) ∧ W = w')) :
    Calls Tryd.prog 53 #[.string S] w fun e w' => e = .returned (.tuple #[.int .u64 (qnm 8 D 0).1, .bool (qnm 8 D 0).2]) ∧ Below w.heap.size w w' := by
  have hsz := strOfNums_size D
  have hne : ((strOfNums D).toList == []) = false := by cases D with | nil => exact absurd rfl hD | cons a b => exact str_ne a b
  clear hD
  have HA : Hid (∀ k, (h : k < D.length) → (((strOfNums D)[k]'(by rw [hsz]; exact h)).toNat : Int) = D.getD k 0) := fun k h => str_at D hz.out k _
  have hmf : ∀ (fn : Fn) (first cap : Array Value) (w : World), (Instr.makeFunc fn first cap).run Tryd.prog w = .ok (.func fn first cap) w := fun _ _ _ _ => rfl
  obtain ⟨R, hR⟩ : ∃ R, R = qnm 8 D 0 := ⟨_, rfl⟩
  rw [← hR]
  have HR : Hid (R = qnm 8 (D.drop 0) 0) := hR
  clear hR
  generalize strOfNums D = DS at hsz hne HA P
  go_enter Tryd.func53, Tryd.ntmps53
  go_wp2_with fail
  refine Calls.mono (P.out _) ?_
  rintro e w1 ⟨rfl, rfl⟩
  go_wp2
  go_loopw [7, 22] (fun v i wr => ∃ (n : Int) (k : Nat), v = .int .u64 n ∧ i = .int .i64 (k : Int) ∧ 0 ≤ n ∧ n ≤ 18446744073709551615 ∧ k ≤ D.length ∧ Hid (R = qnm 8 (D.drop k) n) ∧ w.heap.size < wr.heap.size ∧ wr.cell? ⟨w.heap.size, 0, none⟩ = some (.int .u64 8) ∧ Below w.heap.size w wr) (fun _ i _ => D.length - (intOf i).toNat)
  case atStart => exact ⟨0, 0, rfl, rfl, by omega, by omega, by omega, HR, by simp, by simp, (Below.refl _ _).alloc (Nat.le_refl _) _⟩
  case round =>
    obtain ⟨n, k, rfl, rfl, n0, n1, hkl, HQ, hlt, hcell, hb⟩ := hrel
    by_cases hk : k < D.length
    · have hat := HA.out k hk
      obtain ⟨c0, c255⟩ := hz.out k
      have HQ' := HQ.out
      rw [drop_at hk, qnm] at HQ'
      generalize D.getD k 0 = c at hat c0 c255 HQ'
      have q := pclo_any c 8 w.heap.size wr c0 c255 (by omega) (by omega) hcell
      obtain ⟨d0, d99⟩ := dgt_bd c
      have HQ2 : Hid _ := HQ'
      clear HQ' HQ HR
      by_cases hbb : 8 ≤ dgt c
      · have E : Hid (R = (0, false)) := by have := HQ2.out; rw [if_pos (Or.inl hbb)] at this; exact this
        clear HQ2
        rw [show decide (dgt c < 8) = false by simpa using hbb] at q
        generalize pdv 8 c = d at q
        have Q : Hid _ := q
        clear q
        go_wp2_with fail
        refine Calls.mono Q.out ?_
        rintro e w1 ⟨rfl, hb1⟩
        go_wp2
        go_ret2
        exact ⟨by rw [E.out]; rfl, hb.trans (hb1.mono hb.size)⟩
      · have hd : dgt c < 8 := by omega
        rw [pdv_in hd (by omega), show decide (dgt c < 8) = true by simpa using hd] at q
        generalize dgt c = d at q d0 d99 HQ2 hbb hd
        have Q : Hid _ := q
        clear q
        by_cases ho : (18446744073709551615 - d) / 8 < n
        · have E : Hid (R = (0, false)) := by have := HQ2.out; rw [if_pos (Or.inr ho)] at this; exact this
          clear HQ2
          go_wp2_with fail
          refine Calls.mono Q.out ?_
          rintro e w1 ⟨rfl, hb1⟩
          go_wp2
          go_ret2
          exact ⟨by rw [E.out]; rfl, hb.trans (hb1.mono hb.size)⟩
        · have E : Hid (R = qnm 8 (D.drop (k + 1)) (n * 8 + d)) := by have := HQ2.out; rw [if_neg (by omega)] at this; exact this
          clear HQ2
          go_wp2_with fail
          refine Calls.mono Q.out ?_
          rintro e w1 ⟨rfl, hb1⟩
          go_wp2
          go_roundw
          case rel => first | exact ⟨n * 8 + d, k + 1, rfl, by go_num, by omega, by omega, by omega, E, Nat.lt_of_lt_of_le hlt hb1.size, (hb1.cell hlt).trans hcell, hb.trans (hb1.mono hb.size)⟩ | ((repeat apply Exists.intro); exact ⟨⟨n * 8 + d, k + 1, rfl, by go_num, by omega, by omega, by omega, E, Nat.lt_of_lt_of_le hlt hb1.size, (hb1.cell hlt).trans hcell, hb.trans (hb1.mono hb.size)⟩, rfl⟩)
          case measure => simp [intOf]; omega
    · obtain rfl : k = D.length := by omega
      have E : Hid (R = (n, true)) := by show _ = _; rw [HQ.out, List.drop_eq_nil_of_le (Nat.le_refl _)]; rfl
      clear HQ HR
      go_wp2
      go_ret2
      exact ⟨by rw [E.out]; rfl, hb⟩

set_option maxHeartbeats 1000000 in
theorem pnum_no (S T : ByteArray) (b : Int) (w : World) (hne : (T.toList == []) = true)
    (P : Hid (∀ W, Calls Tryd.prog 64 #[.string S] W fun e w' => e = .returned (.tuple #[.string T, .int .u64 b]) ∧ W = w')) :
    Calls Tryd.prog 53 #[.string S] w fun e w' => e = .returned (.tuple #[.int .u64 0, .bool false]) ∧ Below w.heap.size w w' := by
  go_enter Tryd.func53, Tryd.ntmps53
  go_wp2_with fail
  refine Calls.mono (P.out _) ?_
  rintro e w1 ⟨rfl, rfl⟩
  go_wp2
  go_ret2
  exact ⟨rfl, Below.refl _ _⟩

theorem pnum_any (zs : List Int) (w : World) (hz : Hid (∀ i, 0 ≤ zs.getD i 0 ∧ zs.getD i 0 ≤ 255)) (hlen : (zs.length : Int) ≤ 100000000) :
    Calls Tryd.prog 53 #[.string (strOfNums zs)] w fun e w' => e = .returned (.tuple #[.int .u64 (qnum zs).1, .bool (qnum zs).2]) ∧ Below w.heap.size w w' := by
  have p := fun W => psb_any zs W hz hlen
  rw [qnum_qsp]
  have hzd : ∀ j, Hid (∀ i, 0 ≤ (zs.drop j).getD i 0 ∧ (zs.drop j).getD i 0 ≤ 255) := fun j i => by rw [getD_drop']; exact hz.out _
  by_cases hD : (qsp zs).1 = []
  · rw [if_pos hD]
    exact pnum_no _ _ _ w (by rw [hD, str_list]; rfl) p
  rw [if_neg hD]
  revert p hD
  unfold qsp
  split
  · intro p hD; exact pnum_16 _ _ w (hzd 2) (by simp only [List.length_drop]; omega) hD p
  split
  · intro p hD; exact pnum_8 _ _ w (hzd 1) (by simp only [List.length_drop]; omega) hD p
  · intro p hD; exact pnum_10 _ _ w hz hlen hD p

end Go.Proofs.YtjkcmcefmciinaaDoor
