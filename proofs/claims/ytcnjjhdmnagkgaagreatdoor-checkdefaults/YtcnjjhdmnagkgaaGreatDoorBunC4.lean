/- Put together by a program out of these texts of mine: QPd, QSh, QPn, QShn, QPg, PAsk0, XTab. -/
import Derived.Deep.QuietTactic
import Derived.BigQuiet
import Derived.Shelf.Strings.Prefix
import Derived.Test.YtcnjjhdmnagkgaaGreatDoorProg
import Derived.Shelf.Strconv.Itoa1
import Derived.Shelf.LaysM
import Derived.Shelf.Strconv.Itoa2
import Derived.Lib.AppendIntMem
import Derived.Lib.ItoaLen
import Derived.Lib.LaidTab
import Derived.Deep.Cut
import Derived.Test.YtcnjjhdmnagkgaaGreatDoorBunC3

namespace Go.Proofs.YtcnjjhdmnagkgaaGreatDoor
open Go.RowKit
set_option linter.unusedVariables false
set_option linter.unusedSimpArgs false

def pdv (base c : Int) : Int := if dgt c = 99 then base else dgt c

theorem pdv_in {base c : Int} (h : dgt c < base) (hb : base ≤ 16) : pdv base c = dgt c := by unfold pdv; rw [if_neg (by omega)]

theorem Below.drewN'' (w : World) : ∀ n, Below w.heap.size w (w.drewN n)
  | 0 => Below.refl _ _
  | n + 1 => (Below.drewN'' w n).drew

set_option maxHeartbeats 1000000 in
theorem pclo_1 (c base : Int) (g : Nat) (w : World) (h0 : 48 ≤ c) (h1 : c ≤ 57) (b0 : 0 ≤ base) (b1 : base ≤ 16) (hc : w.cell? ⟨g, 0, none⟩ = some (.int .u64 base)) :
    Calls Tryz.prog 253 #[.int .u8 c, .pointer (some ⟨g, 0, none⟩)] w fun e w' => e = .returned (.tuple #[.int .u64 (c - 48), .bool (decide (c - 48 < base))]) ∧ ∃ n, w' = w.drewN n := by
  go_enter Tryz.func253, Tryz.ntmps253
  go_wp2
  go_quiet (fail)
  rename_i K _ hK
  refine hK _ _ ?_
  go_wp2
  go_ret2
  exact ⟨rfl, _, rfl⟩

set_option maxHeartbeats 1000000 in
theorem pclo_2 (c base : Int) (g : Nat) (w : World) (h0 : 97 ≤ c) (h1 : c ≤ 102) (b0 : 0 ≤ base) (b1 : base ≤ 16) (hc : w.cell? ⟨g, 0, none⟩ = some (.int .u64 base)) :
    Calls Tryz.prog 253 #[.int .u8 c, .pointer (some ⟨g, 0, none⟩)] w fun e w' => e = .returned (.tuple #[.int .u64 (c - 97 + 10), .bool (decide (c - 97 + 10 < base))]) ∧ ∃ n, w' = w.drewN n := by
  have e1 : ¬ c ≤ 57 := by omega
  go_enter Tryz.func253, Tryz.ntmps253
  go_wp2
  go_quiet (fail)
  rename_i K _ hK
  refine hK _ _ ?_
  go_wp2
  go_ret2
  exact ⟨rfl, _, rfl⟩

set_option maxHeartbeats 1000000 in
theorem pclo_3 (c base : Int) (g : Nat) (w : World) (h0 : 65 ≤ c) (h1 : c ≤ 70) (b0 : 0 ≤ base) (b1 : base ≤ 16) (hc : w.cell? ⟨g, 0, none⟩ = some (.int .u64 base)) :
    Calls Tryz.prog 253 #[.int .u8 c, .pointer (some ⟨g, 0, none⟩)] w fun e w' => e = .returned (.tuple #[.int .u64 (c - 65 + 10), .bool (decide (c - 65 + 10 < base))]) ∧ ∃ n, w' = w.drewN n := by
  have e2 : ¬ 97 ≤ c := by omega
  have e1 : ¬ c ≤ 57 := by omega
  go_enter Tryz.func253, Tryz.ntmps253
  go_wp2
  go_quiet (fail)
  rename_i K _ hK
  refine hK _ _ ?_
  go_wp2
  go_ret2
  exact ⟨rfl, _, rfl⟩

set_option maxHeartbeats 1000000 in
theorem pclo_4 (c base : Int) (g : Nat) (w : World) (h0 : 0 ≤ c) (h1 : c ≤ 255) (k1 : ¬ (48 ≤ c ∧ c ≤ 57)) (k2 : ¬ (97 ≤ c ∧ c ≤ 102)) (k3 : ¬ (65 ≤ c ∧ c ≤ 70)) (b0 : 0 ≤ base) (b1 : base ≤ 16) (hc : w.cell? ⟨g, 0, none⟩ = some (.int .u64 base)) :
    Calls Tryz.prog 253 #[.int .u8 c, .pointer (some ⟨g, 0, none⟩)] w fun e w' => e = .returned (.tuple #[.int .u64 base, .bool false]) ∧ ∃ n, w' = w.drewN n := by
  have hways : c < 48 ∨ (57 < c ∧ c < 65) ∨ (70 < c ∧ c < 97) ∨ 102 < c := by omega
  clear k1 k2 k3
  rcases hways with h | ⟨h, h'⟩ | ⟨h, h'⟩ | h
  all_goals
    go_enter Tryz.func253, Tryz.ntmps253
    go_wp2
    go_quiet (fail)
    first | (rename_i K _ hK; refine hK _ _ ?_) | (rename_i K _ hK _; refine hK _ _ ?_) | (rename_i K _ hK _ _; refine hK _ _ ?_) | (rename_i K _ hK _ _ _; refine hK _ _ ?_)
    go_wp2
    go_ret2
    exact ⟨by simp, _, rfl⟩

theorem pclo_any (c base : Int) (g : Nat) (w : World) (h0 : 0 ≤ c) (h1 : c ≤ 255) (b0 : 0 ≤ base) (b1 : base ≤ 16) (hc : w.cell? ⟨g, 0, none⟩ = some (.int .u64 base)) :
    Calls Tryz.prog 253 #[.int .u8 c, .pointer (some ⟨g, 0, none⟩)] w fun e w' => e = .returned (.tuple #[.int .u64 (pdv base c), .bool (decide (dgt c < base))]) ∧ Below w.heap.size w w' := by
  have fin : ∀ (x : Int) (y : Bool), x = pdv base c → y = decide (dgt c < base) → Calls Tryz.prog 253 #[.int .u8 c, .pointer (some ⟨g, 0, none⟩)] w (fun e w' => e = .returned (.tuple #[.int .u64 x, .bool y]) ∧ ∃ n, w' = w.drewN n) →
      Calls Tryz.prog 253 #[.int .u8 c, .pointer (some ⟨g, 0, none⟩)] w fun e w' => e = .returned (.tuple #[.int .u64 (pdv base c), .bool (decide (dgt c < base))]) ∧ Below w.heap.size w w' := by
    intro x y hx hy h
    refine h.mono ?_
    rintro e w' ⟨rfl, n, rfl⟩
    exact ⟨by rw [hx, hy], Below.drewN'' _ _⟩
  by_cases k1 : 48 ≤ c ∧ c ≤ 57
  · have e := dgt_1 k1
    exact fin _ _ (by unfold pdv; rw [e, if_neg (by omega)]) (by rw [e]) (pclo_1 c base g w k1.1 k1.2 b0 b1 hc)
  by_cases k2 : 97 ≤ c ∧ c ≤ 102
  · have e := dgt_2 k2
    exact fin _ _ (by unfold pdv; rw [e, if_neg (by omega)]; omega) (by rw [e, show c - 97 + 10 = c - 87 by omega]) (pclo_2 c base g w k2.1 k2.2 b0 b1 hc)
  by_cases k3 : 65 ≤ c ∧ c ≤ 70
  · have e := dgt_3 k3
    exact fin _ _ (by unfold pdv; rw [e, if_neg (by omega)]; omega) (by rw [e, show c - 65 + 10 = c - 55 by omega]) (pclo_3 c base g w k3.1 k3.2 b0 b1 hc)
  · have e := dgt_4 k1 k2 k3
    exact fin _ _ (by unfold pdv; rw [e, if_pos rfl]) (by rw [e]; simp; omega) (pclo_4 c base g w h0 h1 k1 k2 k3 b0 b1 hc)

end Go.Proofs.YtcnjjhdmnagkgaaGreatDoor

namespace Go.Proofs.YtcnjjhdmnagkgaaGreatDoor
open Go.Shelf

def Sh.lays99_ren : Go.Shelf.Ren := ⟨fun | 99 => 252 | 206 => 250 | n => n, fun | 9 => 9 | 4 => 4 | 3 => 3 | n => n, fun | n => n⟩

theorem Sh.lays99 : Go.Proofs.Lays.n99 Tryz.prog Sh.lays99_ren := {
  mixed := by kernel_rfl
  f99 := Tryz.func252.trans (congrArg some (by kernel_rfl))
  f206 := Tryz.func250.trans (congrArg some (by kernel_rfl))
  t3 := Tryz.underlying3
  a3 := Tryz.isAgg3
  z3 := Tryz.sizeOf3
  v3 := Tryz.zeroValue3
  t4 := Tryz.underlying4
  a4 := Tryz.isAgg4
  z4 := Tryz.sizeOf4
  v4 := Tryz.zeroValue4
  t9 := Tryz.underlying9
  a9 := Tryz.isAgg9
  z9 := Tryz.sizeOf9
  v9 := Tryz.zeroValue9 }

open Go.RowKit Go.Lib in
theorem Sh.strings_HasPrefix (s p : ByteArray) (w : World) :
    Calls Tryz.prog 252 #[.string s, .string p] w fun e w' => e = .returned (.bool (Lib.hasPrefix s.data.toList p.data.toList)) ∧ w' = w := Any.strings_HasPrefix Sh.lays99 s p w

end Go.Proofs.YtcnjjhdmnagkgaaGreatDoor

namespace Go.Proofs.YtcnjjhdmnagkgaaGreatDoor
open Go.RowKit
set_option linter.unusedVariables false
set_option linter.unusedSimpArgs false

theorem u8_beq (x a : Int) (hx : 0 ≤ x ∧ x ≤ 255) (ha : 0 ≤ a ∧ a ≤ 255) : (UInt8.ofNat x.toNat == UInt8.ofNat a.toNat) = decide (a = x) := by
  rw [Bool.eq_iff_iff]
  simp only [beq_iff_eq, decide_eq_true_eq]
  exact ⟨fun h => (u8_inj hx ha h).symm, fun h => by rw [h]⟩

theorem hp_two (zs : List Int) (hz : ∀ i, 0 ≤ zs.getD i 0 ∧ zs.getD i 0 ≤ 255) (x y : Int) (hx : 0 ≤ x ∧ x ≤ 255) (hy : 0 ≤ y ∧ y ≤ 255) :
    Lib.hasPrefix (strOfNums zs).data.toList (strOfNums [x, y]).data.toList = decide (2 ≤ zs.length ∧ zs.getD 0 0 = x ∧ zs.getD 1 0 = y) := by
  rw [strOfNums_data, strOfNums_data]
  match zs, hz with
  | [], _ => simp [Lib.hasPrefix, List.isPrefixOf]
  | [a], _ => simp [Lib.hasPrefix, List.isPrefixOf]
  | a :: b :: r, hz =>
    have ha : 0 ≤ a ∧ a ≤ 255 := hz 0
    have hb : 0 ≤ b ∧ b ≤ 255 := hz 1
    simp only [Lib.hasPrefix, List.map_cons, List.map_nil, List.isPrefixOf, Bool.and_true, u8_beq x a hx ha, u8_beq y b hy hb]
    rw [Bool.eq_iff_iff]
    simp [List.getD]

theorem php (zs : List Int) (w : World) (hz : Hid (∀ i, 0 ≤ zs.getD i 0 ∧ zs.getD i 0 ≤ 255)) (x y : Int) (hx : 0 ≤ x ∧ x ≤ 255) (hy : 0 ≤ y ∧ y ≤ 255) :
    Calls Tryz.prog 252 #[.string (strOfNums zs), .string (strOfNums [x, y])] w fun e w' => e = .returned (.bool (decide (2 ≤ zs.length ∧ zs.getD 0 0 = x ∧ zs.getD 1 0 = y))) ∧ w = w' := by
  refine (Sh.strings_HasPrefix (strOfNums zs) (strOfNums [x, y]) w).mono ?_
  rintro e w' ⟨rfl, rfl⟩
  exact ⟨by rw [hp_two zs hz.out x y hx hy], rfl⟩

def qsp (s : List Int) : List Int × Int :=
  if 2 ≤ s.length ∧ s.getD 0 0 = 48 ∧ (s.getD 1 0 = 120 ∨ s.getD 1 0 = 88) then (s.drop 2, 16)
  else if 1 < s.length ∧ s.getD 0 0 = 48 then (s.drop 1, 8) else (s, 10)

theorem qnum_qsp (s : List Int) : qnum s = if (qsp s).1 = [] then (0, false) else qnm (qsp s).2 (qsp s).1 0 := by
  unfold qnum qsp
  by_cases h1 : 2 ≤ s.length ∧ s.getD 0 0 = 48 ∧ (s.getD 1 0 = 120 ∨ s.getD 1 0 = 88)
  · rw [if_pos h1]
    by_cases h2 : 2 < s.length
    · rw [if_pos ⟨h2, h1.2⟩, if_neg]
      intro h
      have := congrArg List.length h
      simp only [List.length_drop, List.length_nil] at this
      omega
    · rw [if_neg (fun h => h2 h.1), if_pos ⟨by omega, h1.2.1⟩, if_pos (List.drop_eq_nil_of_le (by omega))]
      have hd : s.drop 1 = [s.getD 1 0] := by
        rw [drop_at (by omega), List.drop_eq_nil_of_le (by omega)]
      rw [hd, qnm, if_pos]
      left
      rcases h1.2.2 with h | h <;> (rw [h]; decide)
  · rw [if_neg h1, if_neg (fun h => h1 ⟨by omega, h.2⟩)]
    by_cases h2 : 1 < s.length ∧ s.getD 0 0 = 48
    · rw [if_pos h2, if_pos h2, if_neg]
      intro h
      have := congrArg List.length h
      simp only [List.length_drop, List.length_nil] at this
      omega
    · rw [if_neg h2, if_neg h2]

theorem psb_1 (S T : ByteArray) (n : Nat) (w : World) (hsz : S.size = n) (hn : 2 ≤ n) (hn2 : (n : Int) ≤ 100000000) (hex : S.extract 2 n = T) (P : Hid (∀ W, Calls Tryz.prog 252 #[.string S, .string { data := #[48, 120] }] W fun e w' => e = .returned (.bool true) ∧ W = w')) :
    Calls Tryz.prog 223 #[.string S] w fun e w' => e = .returned (.tuple #[.string T, .int .u64 16]) ∧ w = w' := by
  go_enter Tryz.func223, Tryz.ntmps223
  go_wp2_with fail
  refine Calls.mono (P.out _) ?_
  rintro e w1 ⟨rfl, rfl⟩
  go_wp2
  go_ret2
  exact ⟨rfl, rfl⟩

theorem psb_2 (S T : ByteArray) (n : Nat) (w : World) (hsz : S.size = n) (hn : 2 ≤ n) (hn2 : (n : Int) ≤ 100000000) (hex : S.extract 2 n = T) (P : Hid (∀ W, Calls Tryz.prog 252 #[.string S, .string { data := #[48, 120] }] W fun e w' => e = .returned (.bool false) ∧ W = w')) (Q : Hid (∀ W, Calls Tryz.prog 252 #[.string S, .string { data := #[48, 88] }] W fun e w' => e = .returned (.bool true) ∧ W = w')) :
    Calls Tryz.prog 223 #[.string S] w fun e w' => e = .returned (.tuple #[.string T, .int .u64 16]) ∧ w = w' := by
  go_enter Tryz.func223, Tryz.ntmps223
  go_wp2_with fail
  refine Calls.mono (P.out _) ?_
  rintro e w1 ⟨rfl, rfl⟩
  go_wp2_with fail
  refine Calls.mono (Q.out _) ?_
  rintro e w1 ⟨rfl, rfl⟩
  go_wp2
  go_ret2
  exact ⟨rfl, rfl⟩

theorem psb_3 (S T : ByteArray) (n : Nat) (w : World) (hsz : S.size = n) (hn : 1 < n) (hn2 : (n : Int) ≤ 100000000) (hat : ((S[0]'(by omega)).toNat : Int) = 48) (hex : S.extract 1 n = T) (P : Hid (∀ W, Calls Tryz.prog 252 #[.string S, .string { data := #[48, 120] }] W fun e w' => e = .returned (.bool false) ∧ W = w')) (Q : Hid (∀ W, Calls Tryz.prog 252 #[.string S, .string { data := #[48, 88] }] W fun e w' => e = .returned (.bool false) ∧ W = w')) :
    Calls Tryz.prog 223 #[.string S] w fun e w' => e = .returned (.tuple #[.string T, .int .u64 8]) ∧ w = w' := by
  go_enter Tryz.func223, Tryz.ntmps223
  go_wp2_with fail
  refine Calls.mono (P.out _) ?_
  rintro e w1 ⟨rfl, rfl⟩
  go_wp2_with fail
  refine Calls.mono (Q.out _) ?_
  rintro e w1 ⟨rfl, rfl⟩
  go_wp2
  go_ret2
  exact ⟨rfl, rfl⟩

theorem psb_4 (S : ByteArray) (n : Nat) (w : World) (hsz : S.size = n) (hn : n ≤ 1) (P : Hid (∀ W, Calls Tryz.prog 252 #[.string S, .string { data := #[48, 120] }] W fun e w' => e = .returned (.bool false) ∧ W = w')) (Q : Hid (∀ W, Calls Tryz.prog 252 #[.string S, .string { data := #[48, 88] }] W fun e w' => e = .returned (.bool false) ∧ W = w')) :
    Calls Tryz.prog 223 #[.string S] w fun e w' => e = .returned (.tuple #[.string S, .int .u64 10]) ∧ w = w' := by
  have hn1 : ¬ (1 : Int) < (n : Int) := by omega
  go_enter Tryz.func223, Tryz.ntmps223
  go_wp2_with fail
  refine Calls.mono (P.out _) ?_
  rintro e w1 ⟨rfl, rfl⟩
  go_wp2_with fail
  refine Calls.mono (Q.out _) ?_
  rintro e w1 ⟨rfl, rfl⟩
  go_wp2
  go_ret2
  exact ⟨rfl, rfl⟩

theorem psb_5 (S : ByteArray) (n : Nat) (c : Int) (w : World) (hsz : S.size = n) (hn : 1 < n) (hn2 : (n : Int) ≤ 100000000) (hat : ((S[0]'(by omega)).toNat : Int) = c) (hc : (c == 48) = false) (P : Hid (∀ W, Calls Tryz.prog 252 #[.string S, .string { data := #[48, 120] }] W fun e w' => e = .returned (.bool false) ∧ W = w')) (Q : Hid (∀ W, Calls Tryz.prog 252 #[.string S, .string { data := #[48, 88] }] W fun e w' => e = .returned (.bool false) ∧ W = w')) :
    Calls Tryz.prog 223 #[.string S] w fun e w' => e = .returned (.tuple #[.string S, .int .u64 10]) ∧ w = w' := by
  go_enter Tryz.func223, Tryz.ntmps223
  go_wp2_with fail
  refine Calls.mono (P.out _) ?_
  rintro e w1 ⟨rfl, rfl⟩
  go_wp2_with fail
  refine Calls.mono (Q.out _) ?_
  rintro e w1 ⟨rfl, rfl⟩
  go_wp2
  go_ret2
  exact ⟨rfl, rfl⟩

theorem psb_any (zs : List Int) (w : World) (hz : Hid (∀ i, 0 ≤ zs.getD i 0 ∧ zs.getD i 0 ≤ 255)) (hlen : (zs.length : Int) ≤ 100000000) :
    Calls Tryz.prog 223 #[.string (strOfNums zs)] w fun e w' => e = .returned (.tuple #[.string (strOfNums (qsp zs).1), .int .u64 (qsp zs).2]) ∧ w = w' := by
  have hsz := strOfNums_size zs
  have p := fun W => php zs W hz 48 120 (by omega) (by omega)
  have q := fun W => php zs W hz 48 88 (by omega) (by omega)
  rw [show strOfNums [48, 120] = ⟨#[48, 120]⟩ from rfl] at p
  rw [show strOfNums [48, 88] = ⟨#[48, 88]⟩ from rfl] at q
  by_cases h2 : 2 ≤ zs.length ∧ zs.getD 0 0 = 48 ∧ (zs.getD 1 0 = 120 ∨ zs.getD 1 0 = 88)
  · have hex : (strOfNums zs).extract 2 zs.length = strOfNums (zs.drop 2) := by rw [str_cut, List.take_of_length_le (by simp)]
    rw [qsp, if_pos h2]
    obtain ⟨hl, hv, h⟩ := h2
    by_cases hx : zs.getD 1 0 = 120
    · rw [show decide (2 ≤ zs.length ∧ zs.getD 0 0 = 48 ∧ zs.getD 1 0 = 120) = true from decide_eq_true ⟨hl, hv, hx⟩] at p
      exact psb_1 _ _ _ w hsz hl hlen hex p
    · rw [show decide (2 ≤ zs.length ∧ zs.getD 0 0 = 48 ∧ zs.getD 1 0 = 120) = false from decide_eq_false (fun h => hx h.2.2)] at p
      rw [show decide (2 ≤ zs.length ∧ zs.getD 0 0 = 48 ∧ zs.getD 1 0 = 88) = true from decide_eq_true ⟨hl, hv, h.resolve_left hx⟩] at q
      exact psb_2 _ _ _ w hsz hl hlen hex p q
  · rw [show decide (2 ≤ zs.length ∧ zs.getD 0 0 = 48 ∧ zs.getD 1 0 = 120) = false from decide_eq_false (fun h => h2 ⟨h.1, h.2.1, .inl h.2.2⟩)] at p
    rw [show decide (2 ≤ zs.length ∧ zs.getD 0 0 = 48 ∧ zs.getD 1 0 = 88) = false from decide_eq_false (fun h => h2 ⟨h.1, h.2.1, .inr h.2.2⟩)] at q
    rw [qsp, if_neg h2]
    by_cases h1 : 1 < zs.length
    · have hat := str_at zs hz.out 0 (by rw [hsz]; omega)
      by_cases hv : zs.getD 0 0 = 48
      · have hex : (strOfNums zs).extract 1 zs.length = strOfNums (zs.drop 1) := by rw [str_cut, List.take_of_length_le (by simp)]
        rw [if_pos ⟨h1, hv⟩]
        rw [hv] at hat
        exact psb_3 _ _ _ w hsz h1 hlen hat hex p q
      · rw [if_neg (fun h => hv h.2)]
        exact psb_5 _ _ _ w hsz h1 hlen hat (by simpa using hv) p q
    · rw [if_neg (fun h => h1 h.1)]
      exact psb_4 _ _ w hsz (by omega) p q

set_option maxHeartbeats 1000000 in
theorem pnum_10 (S : ByteArray) (D : List Int) (w : World) (hz : Hid (∀ i, 0 ≤ D.getD i 0 ∧ D.getD i 0 ≤ 255)) (hlen : (D.length : Int) ≤ 100000000) (hD : D ≠ [])
    (P : Hid (∀ W, Calls Tryz.prog 223 #[.string S] W fun e w' => e = .returned (.tuple #[.string (strOfNums D), .int .u64 10]) ∧ W = w')) :
    Calls Tryz.prog 175 #[.string S] w fun e w' => e = .returned (.tuple #[.int .u64 (qnm 10 D 0).1, .bool (qnm 10 D 0).2]) ∧ Below w.heap.size w w' := by
  have hsz := strOfNums_size D
  have hne : ((strOfNums D).toList == []) = false := by cases D with | nil => exact absurd rfl hD | cons a b => exact str_ne a b
  clear hD
  have HA : Hid (∀ k, (h : k < D.length) → (((strOfNums D)[k]'(by rw [hsz]; exact h)).toNat : Int) = D.getD k 0) := fun k h => str_at D hz.out k _
  have hmf : ∀ (fn : Fn) (first cap : Array Value) (w : World), (Instr.makeFunc fn first cap).run Tryz.prog w = .ok (.func fn first cap) w := fun _ _ _ _ => rfl
  obtain ⟨R, hR⟩ : ∃ R, R = qnm 10 D 0 := ⟨_, rfl⟩
  rw [← hR]
  have HR : Hid (R = qnm 10 (D.drop 0) 0) := hR
  clear hR
  generalize strOfNums D = DS at hsz hne HA P
  go_enter Tryz.func175, Tryz.ntmps175
  go_wp2_with fail
  refine Calls.mono (P.out _) ?_
  rintro e w1 ⟨rfl, rfl⟩
  go_wp2
  go_loopw [7, 22] (fun v i wr => ∃ (n : Int) (k : Nat), v = .int .u64 n ∧ i = .int .i64 (k : Int) ∧ 0 ≤ n ∧ n ≤ 18446744073709551615 ∧ k ≤ D.length ∧ Hid (R = qnm 10 (D.drop k) n) ∧ w.heap.size < wr.heap.size ∧ wr.cell? ⟨w.heap.size, 0, none⟩ = some (.int .u64 10) ∧ Below w.heap.size w wr) (fun _ i _ => D.length - (intOf i).toNat)
  case atStart => exact ⟨0, 0, rfl, rfl, by omega, by omega, by omega, HR, by simp, by simp, (Below.refl _ _).alloc (Nat.le_refl _) _⟩
  case round =>
    obtain ⟨n, k, rfl, rfl, n0, n1, hkl, HQ, hlt, hcell, hb⟩ := hrel
    by_cases hk : k < D.length
    · have hat := HA.out k hk
      obtain ⟨c0, c255⟩ := hz.out k
      have HQ' := HQ.out
      rw [drop_at hk, qnm] at HQ'
      generalize D.getD k 0 = c at hat c0 c255 HQ'
      have q := pclo_any c 10 w.heap.size wr c0 c255 (by omega) (by omega) hcell
      obtain ⟨d0, d99⟩ := dgt_bd c
      have HQ2 : Hid _ := HQ'
      clear HQ' HQ HR
      by_cases hbb : 10 ≤ dgt c
      · have E : Hid (R = (0, false)) := by have := HQ2.out; rw [if_pos (Or.inl hbb)] at this; exact this
        clear HQ2
        rw [show decide (dgt c < 10) = false by simpa using hbb] at q
        generalize pdv 10 c = d at q
        have Q : Hid _ := q
        clear q
        go_wp2_with fail
        refine Calls.mono Q.out ?_
        rintro e w1 ⟨rfl, hb1⟩
        go_wp2
        go_ret2
        exact ⟨by rw [E.out]; rfl, hb.trans (hb1.mono hb.size)⟩
      · have hd : dgt c < 10 := by omega
        rw [pdv_in hd (by omega), show decide (dgt c < 10) = true by simpa using hd] at q
        generalize dgt c = d at q d0 d99 HQ2 hbb hd
        have Q : Hid _ := q
        clear q
        by_cases ho : (18446744073709551615 - d) / 10 < n
        · have E : Hid (R = (0, false)) := by have := HQ2.out; rw [if_pos (Or.inr ho)] at this; exact this
          clear HQ2
          go_wp2_with fail
          refine Calls.mono Q.out ?_
          rintro e w1 ⟨rfl, hb1⟩
          go_wp2
          go_ret2
          exact ⟨by rw [E.out]; rfl, hb.trans (hb1.mono hb.size)⟩
        · have E : Hid (R = qnm 10 (D.drop (k + 1)) (n * 10 + d)) := by have := HQ2.out; rw [if_neg (by omega)] at this; exact this
          clear HQ2
          go_wp2_with fail
          refine Calls.mono Q.out ?_
          rintro e w1 ⟨rfl, hb1⟩
          go_wp2
          go_roundw
          case rel => first | exact ⟨n * 10 + d, k + 1, rfl, by go_num, by omega, by omega, by omega, E, Nat.lt_of_lt_of_le hlt hb1.size, (hb1.cell hlt).trans hcell, hb.trans (hb1.mono hb.size)⟩ | ((repeat apply Exists.intro); exact ⟨⟨n * 10 + d, k + 1, rfl, by go_num, by omega, by omega, by omega, E, Nat.lt_of_lt_of_le hlt hb1.size, (hb1.cell hlt).trans hcell, hb.trans (hb1.mono hb.size)⟩, rfl⟩)
          case measure => simp [intOf]; omega
    · obtain rfl : k = D.length := by omega
      have E : Hid (R = (n, true)) := by show _ = _; rw [HQ.out, List.drop_eq_nil_of_le (Nat.le_refl _)]; rfl
      clear HQ HR
      go_wp2
      go_ret2
      exact ⟨by rw [E.out]; rfl, hb⟩

set_option maxHeartbeats 1000000 in
theorem pnum_16 (S : ByteArray) (D : List Int) (w : World) (hz : Hid (∀ i, 0 ≤ D.getD i 0 ∧ D.getD i 0 ≤ 255)) (hlen : (D.length : Int) ≤ 100000000) (hD : D ≠ [])
    (P : Hid (∀ W, Calls Tryz.prog 223 #[.string S] W fun e w' => e = .returned (.tuple #[.string (strOfNums D), .int .u64 16]) ∧ W = w')) :
    Calls Tryz.prog 175 #[.string S] w fun e w' => e = .returned (.tuple #[.int .u64 (qnm 16 D 0).1, .bool (qnm 16 D 0).2]) ∧ Below w.heap.size w w' := by
  have hsz := strOfNums_size D
  have hne : ((strOfNums D).toList == []) = false := by cases D with | nil => exact absurd rfl hD | cons a b => exact str_ne a b
  clear hD
  have HA : Hid (∀ k, (h : k < D.length) → (((strOfNums D)[k]'(by rw [hsz]; exact h)).toNat : Int) = D.getD k 0) := fun k h => str_at D hz.out k _
  have hmf : ∀ (fn : Fn) (first cap : Array Value) (w : World), (Instr.makeFunc fn first cap).run Tryz.prog w = .ok (.func fn first cap) w := fun _ _ _ _ => rfl
  obtain ⟨R, hR⟩ : ∃ R, R = qnm 16 D 0 := ⟨_, rfl⟩
  rw [← hR]
  have HR : Hid (R = qnm 16 (D.drop 0) 0) := hR
  clear hR
  generalize strOfNums D = DS at hsz hne HA P
  go_enter Tryz.func175, Tryz.ntmps175
  go_wp2_with fail
  refine Calls.mono (P.out _) ?_
  rintro e w1 ⟨rfl, rfl⟩
  go_wp2
  go_loopw [7, 22] (fun v i wr => ∃ (n : Int) (k : Nat), v = .int .u64 n ∧ i = .int .i64 (k : Int) ∧ 0 ≤ n ∧ n ≤ 18446744073709551615 ∧ k ≤ D.length ∧ Hid (R = qnm 16 (D.drop k) n) ∧ w.heap.size < wr.heap.size ∧ wr.cell? ⟨w.heap.size, 0, none⟩ = some (.int .u64 16) ∧ Below w.heap.size w wr) (fun _ i _ => D.length - (intOf i).toNat)
  case atStart => exact ⟨0, 0, rfl, rfl, by omega, by omega, by omega, HR, by simp, by simp, (Below.refl _ _).alloc (Nat.le_refl _) _⟩
  case round =>
    obtain ⟨n, k, rfl, rfl, n0, n1, hkl, HQ, hlt, hcell, hb⟩ := hrel
    by_cases hk : k < D.length
    · have hat := HA.out k hk
      obtain ⟨c0, c255⟩ := hz.out k
      have HQ' := HQ.out
      rw [drop_at hk, qnm] at HQ'
      generalize D.getD k 0 = c at hat c0 c255 HQ'
      have q := pclo_any c 16 w.heap.size wr c0 c255 (by omega) (by omega) hcell
      obtain ⟨d0, d99⟩ := dgt_bd c
      have HQ2 : Hid _ := HQ'
      clear HQ' HQ HR
      by_cases hbb : 16 ≤ dgt c
      · have E : Hid (R = (0, false)) := by have := HQ2.out; rw [if_pos (Or.inl hbb)] at this; exact this
        clear HQ2
        rw [show decide (dgt c < 16) = false by simpa using hbb] at q
        generalize pdv 16 c = d at q
        have Q : Hid _ := q
        clear q
        go_wp2_with fail
        refine Calls.mono Q.out ?_
        rintro e w1 ⟨rfl, hb1⟩
        go_wp2
        go_ret2
        exact ⟨by rw [E.out]; rfl, hb.trans (hb1.mono hb.size)⟩
      · have hd : dgt c < 16 := by omega
        rw [pdv_in hd (by omega), show decide (dgt c < 16) = true by simpa using hd] at q
        generalize dgt c = d at q d0 d99 HQ2 hbb hd
        have Q : Hid _ := q
        clear q
        by_cases ho : (18446744073709551615 - d) / 16 < n
        · have E : Hid (R = (0, false)) := by have := HQ2.out; rw [if_pos (Or.inr ho)] at this; exact this
          clear HQ2
          go_wp2_with fail
          refine Calls.mono Q.out ?_
          rintro e w1 ⟨rfl, hb1⟩
          go_wp2
          go_ret2
          exact ⟨by rw [E.out]; rfl, hb.trans (hb1.mono hb.size)⟩
        · have E : Hid (R = qnm 16 (D.drop (k + 1)) (n * 16 + d)) := by have := HQ2.out; rw [if_neg (by omega)] at this; exact this
          clear HQ2
          go_wp2_with fail
          refine Calls.mono Q.out ?_
          rintro e w1 ⟨rfl, hb1⟩
          go_wp2
          go_roundw
          case rel => first | exact ⟨n * 16 + d, k + 1, rfl, by go_num, by omega, by omega, by omega, E, Nat.lt_of_lt_of_le hlt hb1.size, (hb1.cell hlt).trans hcell, hb.trans (hb1.mono hb.size)⟩ | ((repeat apply Exists.intro); exact ⟨⟨n * 16 + d, k + 1, rfl, by go_num, by omega, by omega, by omega, E, Nat.lt_of_lt_of_le hlt hb1.size, (hb1.cell hlt).trans hcell, hb.trans (hb1.mono hb.size)⟩, rfl⟩)
          case measure => simp [intOf]; omega
    · obtain rfl : k = D.length := by omega
      have E : Hid (R = (n, true)) := by show _ = _; rw [HQ.out, List.drop_eq_nil_of_le (Nat.le_refl _)]; rfl
      clear HQ HR
      go_wp2
      go_ret2
      exact ⟨by rw [E.out]; rfl, hb⟩

set_option maxHeartbeats 1000000 in
theorem pnum_8 (S : ByteArray) (D : List Int) (w : World) (hz : Hid (∀ i, 0 ≤ D.getD i 0 ∧ D.getD i 0 ≤ 255)) (hlen : (D.length : Int) ≤ 100000000) (hD : D ≠ [])
    (P : Hid (∀ W, Calls Tryz.prog 223 #[.string S] W fun e w' => e = .returned (.tuple #[.string (strOfNums D), .int .u64 8]) ∧ W = w')) :
    Calls Tryz.prog 175 #[.string S] w fun e w' => e = .returned (.tuple #[.int .u64 (qnm 8 D 0).1, .bool (qnm 8 D 0).2]) ∧ Below w.heap.size w w' := by
  have hsz := strOfNums_size D
  have hne : ((strOfNums D).toList == []) = false := by cases D with | nil => exact absurd rfl hD | cons a b => exact str_ne a b
  clear hD
  have HA : Hid (∀ k, (h : k < D.length) → (((strOfNums D)[k]'(by rw [hsz]; exact h)).toNat : Int) = D.getD k 0) := fun k h => str_at D hz.out k _
  have hmf : ∀ (fn : Fn) (first cap : Array Value) (w : World), (Instr.makeFunc fn first cap).run Tryz.prog w = .ok (.func fn first cap) w := fun _ _ _ _ => rfl
  obtain ⟨R, hR⟩ : ∃ R, R = qnm 8 D 0 := ⟨_, rfl⟩
  rw [← hR]
  have HR : Hid (R = qnm 8 (D.drop 0) 0) := hR
  clear hR
  generalize strOfNums D = DS at hsz hne HA P
  go_enter Tryz.func175, Tryz.ntmps175
  go_wp2_with fail
  refine Calls.mono (P.out _) ?_
  rintro e w1 ⟨rfl, rfl⟩
  go_wp2
  go_loopw [7, 22] (fun v i wr => ∃ (n : Int) (k : Nat), v = .int .u64 n ∧ i = .int .i64 (k : Int) ∧ 0 ≤ n ∧ n ≤ 18446744073709551615 ∧ k ≤ D.length ∧ Hid (R = qnm 8 (D.drop k) n) ∧ w.heap.size < wr.heap.size ∧ wr.cell? ⟨w.heap.size, 0, none⟩ = some (.int .u64 8) ∧ Below w.heap.size w wr) (fun _ i _ => D.length - (intOf i).toNat)
  case atStart => exact ⟨0, 0, rfl, rfl, by omega, by omega, by omega, HR, by simp, by simp, (Below.refl _ _).alloc (Nat.le_refl _) _⟩
  case round =>
    obtain ⟨n, k, rfl, rfl, n0, n1, hkl, HQ, hlt, hcell, hb⟩ := hrel
    by_cases hk : k < D.length
    · have hat := HA.out k hk
      obtain ⟨c0, c255⟩ := hz.out k
      have HQ' := HQ.out
      rw [drop_at hk, qnm] at HQ'
      generalize D.getD k 0 = c at hat c0 c255 HQ'
      have q := pclo_any c 8 w.heap.size wr c0 c255 (by omega) (by omega) hcell
      obtain ⟨d0, d99⟩ := dgt_bd c
      have HQ2 : Hid _ := HQ'
      clear HQ' HQ HR
      by_cases hbb : 8 ≤ dgt c
      · have E : Hid (R = (0, false)) := by have := HQ2.out; rw [if_pos (Or.inl hbb)] at this; exact this
        clear HQ2
        rw [show decide (dgt c < 8) = false by simpa using hbb] at q
        generalize pdv 8 c = d at q
        have Q : Hid _ := q
        clear q
        go_wp2_with fail
        refine Calls.mono Q.out ?_
        rintro e w1 ⟨rfl, hb1⟩
        go_wp2
        go_ret2
        exact ⟨by rw [E.out]; rfl, hb.trans (hb1.mono hb.size)⟩
      · have hd : dgt c < 8 := by omega
        rw [pdv_in hd (by omega), show decide (dgt c < 8) = true by simpa using hd] at q
        generalize dgt c = d at q d0 d99 HQ2 hbb hd
        have Q : Hid _ := q
        clear q
        by_cases ho : (18446744073709551615 - d) / 8 < n
        · have E : Hid (R = (0, false)) := by have := HQ2.out; rw [if_pos (Or.inr ho)] at this; exact this
          clear HQ2
          go_wp2_with fail
          refine Calls.mono Q.out ?_
          rintro e w1 ⟨rfl, hb1⟩
          go_wp2
          go_ret2
          exact ⟨by rw [E.out]; rfl, hb.trans (hb1.mono hb.size)⟩
        · have E : Hid (R = qnm 8 (D.drop (k + 1)) (n * 8 + d)) := by have := HQ2.out; rw [if_neg (by omega)] at this; exact this
          clear HQ2
          go_wp2_with fail
          refine Calls.mono Q.out ?_
          rintro e w1 ⟨rfl, hb1⟩
          go_wp2
          go_roundw
          case rel => first | exact ⟨n * 8 + d, k + 1, rfl, by go_num, by omega, by omega, by omega, E, Nat.lt_of_lt_of_le hlt hb1.size, (hb1.cell hlt).trans hcell, hb.trans (hb1.mono hb.size)⟩ | ((repeat apply Exists.intro); exact ⟨⟨n * 8 + d, k + 1, rfl, by go_num, by omega, by omega, by omega, E, Nat.lt_of_lt_of_le hlt hb1.size, (hb1.cell hlt).trans hcell, hb.trans (hb1.mono hb.size)⟩, rfl⟩)
          case measure => simp [intOf]; omega
    · obtain rfl : k = D.length := by omega
      have E : Hid (R = (n, true)) := by show _ = _; rw [HQ.out, List.drop_eq_nil_of_le (Nat.le_refl _)]; rfl
      clear HQ HR
      go_wp2
      go_ret2
      exact ⟨by rw [E.out]; rfl, hb⟩

set_option maxHeartbeats 1000000 in
theorem pnum_no (S T : ByteArray) (b : Int) (w : World) (hne : (T.toList == []) = true)
    (P : Hid (∀ W, Calls Tryz.prog 223 #[.string S] W fun e w' => e = .returned (.tuple #[.string T, .int .u64 b]) ∧ W = w')) :
    Calls Tryz.prog 175 #[.string S] w fun e w' => e = .returned (.tuple #[.int .u64 0, .bool false]) ∧ Below w.heap.size w w' := by
  go_enter Tryz.func175, Tryz.ntmps175
  go_wp2_with fail
  refine Calls.mono (P.out _) ?_
  rintro e w1 ⟨rfl, rfl⟩
  go_wp2
  go_ret2
  exact ⟨rfl, Below.refl _ _⟩

theorem pnum_any (zs : List Int) (w : World) (hz : Hid (∀ i, 0 ≤ zs.getD i 0 ∧ zs.getD i 0 ≤ 255)) (hlen : (zs.length : Int) ≤ 100000000) :
    Calls Tryz.prog 175 #[.string (strOfNums zs)] w fun e w' => e = .returned (.tuple #[.int .u64 (qnum zs).1, .bool (qnum zs).2]) ∧ Below w.heap.size w w' := by
  have p := fun W => psb_any zs W hz hlen
  rw [qnum_qsp]
  have hzd : ∀ j, Hid (∀ i, 0 ≤ (zs.drop j).getD i 0 ∧ (zs.drop j).getD i 0 ≤ 255) := fun j i => by rw [getD_drop']; exact hz.out _
  by_cases hD : (qsp zs).1 = []
  · rw [if_pos hD]
    exact pnum_no _ _ _ w (by rw [hD, str_list]; rfl) p
  rw [if_neg hD]
  revert p hD
  unfold qsp
  split
  · intro p hD; exact pnum_16 _ _ w (hzd 2) (by simp only [List.length_drop]; omega) hD p
  split
  · intro p hD; exact pnum_8 _ _ w (hzd 1) (by simp only [List.length_drop]; omega) hD p
  · intro p hD; exact pnum_10 _ _ w hz hlen hD p

end Go.Proofs.YtcnjjhdmnagkgaaGreatDoor

namespace Go.Proofs.YtcnjjhdmnagkgaaGreatDoor
open Go.Shelf

def Sh.lays283_ren : Go.Shelf.Ren := ⟨fun | 283 => 264 | n => n, fun | 3 => 3 | 9 => 9 | 4 => 4 | n => n, fun | n => n⟩

theorem Sh.lays283 : Go.Proofs.Lays.n283 Tryz.prog Sh.lays283_ren := {
  mixed := by kernel_rfl
  f283 := Tryz.func264.trans (congrArg some (by kernel_rfl))
  t3 := Tryz.underlying3
  a3 := Tryz.isAgg3
  z3 := Tryz.sizeOf3
  v3 := Tryz.zeroValue3
  t4 := Tryz.underlying4
  a4 := Tryz.isAgg4
  z4 := Tryz.sizeOf4
  v4 := Tryz.zeroValue4
  t9 := Tryz.underlying9
  a9 := Tryz.isAgg9
  z9 := Tryz.sizeOf9
  v9 := Tryz.zeroValue9 }

open Go.Lib in
theorem Sh.internal_strconv_small (i : Nat) (h : i < 100) (w : World) :
    Calls Tryz.prog 264 #[.int .i64 i] w fun e w' => e = .returned (.string ⟨(Lib.decDigits i).toArray⟩) ∧ w' = w := Any.internal_strconv_small Sh.lays283 i h w

def Sh.laysM284_ren : Go.Shelf.Ren := ⟨fun | 284 => 265 | 129 => 200 | 317 => 282 | 318 => 283 | n => n, fun | 53 => 77 | 3 => 3 | 212 => 351 | 0 => 0 | 4 => 4 | 46 => 134 | 5 => 5 | 9 => 9 | n => n, fun | 17 => 1 | n => n⟩

theorem Sh.laysM284 : Go.Proofs.LaysM.n284 Tryz.prog Sh.laysM284_ren := {
  mixed := by kernel_rfl
  f129 := Tryz.func200.trans (congrArg some (by kernel_rfl))
  f284 := Tryz.func265.trans (congrArg some (by kernel_rfl))
  f317 := Tryz.func282.trans (congrArg some (by kernel_rfl))
  f318 := Tryz.func283.trans (congrArg some (by kernel_rfl))
  t0 := Tryz.underlying0
  a0 := Tryz.isAgg0
  z0 := Tryz.sizeOf0
  v0 := Tryz.zeroValue0
  t3 := Tryz.underlying3
  a3 := Tryz.isAgg3
  z3 := Tryz.sizeOf3
  v3 := Tryz.zeroValue3
  t4 := Tryz.underlying4
  a4 := Tryz.isAgg4
  z4 := Tryz.sizeOf4
  v4 := Tryz.zeroValue4
  t5 := Tryz.underlying5
  a5 := Tryz.isAgg5
  z5 := Tryz.sizeOf5
  v5 := Tryz.zeroValue5
  t9 := Tryz.underlying9
  a9 := Tryz.isAgg9
  z9 := Tryz.sizeOf9
  v9 := Tryz.zeroValue9
  t46 := Tryz.underlying134
  a46 := Tryz.isAgg134
  z46 := Tryz.sizeOf134
  v46 := Tryz.zeroValue134
  t53 := Tryz.underlying77
  a53 := Tryz.isAgg77
  z53 := Tryz.sizeOf77
  v53 := Tryz.zeroValue77
  t212 := Tryz.underlying351
  a212 := Tryz.isAgg351
  z212 := Tryz.sizeOf351
  v212 := Tryz.zeroValue351
  g17 := by kernel_rfl
  i0 := by kernel_rfl
  i3 := by kernel_rfl
  i4 := by kernel_rfl
  i5 := by kernel_rfl
  i9 := by kernel_rfl
  i46 := by kernel_rfl
  i53 := by kernel_rfl
  i212 := by kernel_rfl
  m17 := by kernel_rfl }

open Go.Lib in
theorem Sh.internal_strconv_numDigits (u : Nat) (h1 : 1 ≤ u) (h2 : u < 18446744073709551616) (w : World) (htab : Lib.TabIs Tryz.prog w "internal/strconv.uint64pow10" .u64 Lib.pow10Tab) :
    Calls Tryz.prog 265 #[.int .u64 u] w fun e w' => e = .returned (.int .i64 (Lib.nDigits u)) ∧ w' = w := Any.internal_strconv_numDigits Sh.laysM284 u h1 h2 w htab

def Sh.lays285_ren : Go.Shelf.Ren := ⟨fun | 285 => 266 | n => n, fun | 37 => 32 | 53 => 77 | 3 => 3 | 4 => 4 | 51 => 275 | 9 => 9 | 5 => 5 | 0 => 0 | n => n, fun | n => n⟩

theorem Sh.lays285 : Go.Proofs.Lays.n285 Tryz.prog Sh.lays285_ren := {
  mixed := by kernel_rfl
  f285 := Tryz.func266.trans (congrArg some (by kernel_rfl))
  t0 := Tryz.underlying0
  a0 := Tryz.isAgg0
  z0 := Tryz.sizeOf0
  v0 := Tryz.zeroValue0
  t3 := Tryz.underlying3
  a3 := Tryz.isAgg3
  z3 := Tryz.sizeOf3
  v3 := Tryz.zeroValue3
  t4 := Tryz.underlying4
  a4 := Tryz.isAgg4
  z4 := Tryz.sizeOf4
  v4 := Tryz.zeroValue4
  t5 := Tryz.underlying5
  a5 := Tryz.isAgg5
  z5 := Tryz.sizeOf5
  v5 := Tryz.zeroValue5
  t9 := Tryz.underlying9
  a9 := Tryz.isAgg9
  z9 := Tryz.sizeOf9
  v9 := Tryz.zeroValue9
  t37 := Tryz.underlying32
  a37 := Tryz.isAgg32
  z37 := Tryz.sizeOf32
  v37 := Tryz.zeroValue32
  t51 := Tryz.underlying275
  a51 := Tryz.isAgg275
  z51 := Tryz.sizeOf275
  v51 := Tryz.zeroValue275
  t53 := Tryz.underlying77
  a53 := Tryz.isAgg77
  z53 := Tryz.sizeOf77
  v53 := Tryz.zeroValue77 }

open Go.RowKit Go.Sort Go.Lib in
theorem Sh.internal_strconv_formatBase10 (blk off cap : Nat) (u : Nat) (d : Array UInt8) (w : World) (hH : Holds (fun (b : UInt8) => Value.int .u8 (b.toNat : Int)) w blk off d) (hu : u < 10 ^ d.size) (hu64 : u < 18446744073709551616) (hsz : d.size < 4611686018427387904) :
    Calls Tryz.prog 266 #[.slice (some ⟨blk, off, none⟩) d.size cap, .int .u64 u] w fun e w' =>
      e = .returned (.tuple #[]) ∧ ∃ (n v' : Nat) (dk : Array UInt8), w' = (putRow (fun (b : UInt8) => Value.int .u8 (b.toNat : Int)) w blk off dk).drewN n ∧ FmtInv d.size u 0 v' dk := Any.internal_strconv_formatBase10 Sh.lays285 blk off cap u d w hH hu hu64 hsz

end Go.Proofs.YtcnjjhdmnagkgaaGreatDoor

namespace Go.Proofs.YtcnjjhdmnagkgaaGreatDoor
open Go.RowKit Go.Sort
set_option linter.unusedVariables false
set_option linter.unusedSimpArgs false

def PTab (w : World) : Prop := Lib.TabIs Tryz.prog w "internal/strconv.uint64pow10" .u64 Lib.pow10Tab

theorem PTab.below {w w' : World} (h : PTab w) {B : Nat} (hb : Below B w w') (hB : w.heap.size ≤ B) : PTab w' :=
  Lib.tabBelow_of_tabIs h w' (hb.mono hB)

theorem dec_qdg : ∀ (f u : Nat), u < 10 ^ (f + 1) → Lib.decDigits u = (qdg (f + 1) (u : Int)).map fun n => UInt8.ofNat n.toNat
  | 0, u, h => by
    have h10 : u < 10 := by simpa using h
    rw [qdg, if_pos (by omega), Lib.decDigits_one h10]
    simp only [List.map_cons, List.map_nil]
    congr 2
  | f + 1, u, h => by
    rw [qdg]
    by_cases h10 : u < 10
    · rw [if_pos (by omega), Lib.decDigits_one h10]
      simp only [List.map_cons, List.map_nil]
      congr 2
    · have := dec_qdg f (u / 10) (by rw [Nat.pow_succ] at h; omega)
      rw [if_neg (by omega), Lib.decDigits, dif_neg h10, this]
      simp only [List.map_append, List.map_cons, List.map_nil]
      congr 3

theorem dec_str (u : Nat) (h : u < 18446744073709551616) : (⟨(Lib.decDigits u).toArray⟩ : ByteArray) = strOfNums (qdg 20 (u : Int)) := by
  apply ByteArray.ext
  apply Array.ext'
  rw [strOfNums_data, dec_qdg 19 u (Nat.lt_of_lt_of_le h (by decide))]

set_option maxHeartbeats 1000000 in
theorem pfu_small (u : Nat) (hu : u < 100) (w : World) :
    Calls Tryz.prog 254 #[.int .u64 (u : Int), .int .i64 10] w fun e w' => e = .returned (.string ⟨(Lib.decDigits u).toArray⟩) ∧ Below w.heap.size w w' := by
  have hu' : (u : Int) < 100 := by omega
  have q := fun W => Sh.internal_strconv_small u hu W
  have Q : Hid _ := q
  clear q
  go_enter Tryz.func254, Tryz.ntmps254
  go_wp2_with fail
  refine Calls.mono (Q.out _) ?_
  rintro e w1 ⟨rfl, rfl⟩
  go_wp2
  go_ret
  exact ⟨rfl, Below.refl _ _⟩

set_option maxHeartbeats 2000000 in
set_option maxRecDepth 100000 in
theorem pfu_big (u : Nat) (hu : 100 ≤ u) (hu64 : u < 18446744073709551616) (w : World) (htab : PTab w) :
    Calls Tryz.prog 254 #[.int .u64 (u : Int), .int .i64 10] w fun e w' => e = .returned (.string ⟨(Lib.decDigits u).toArray⟩) ∧ Below w.heap.size w w' := by
  have hu1 : 1 ≤ u := by omega
  have hnd20 : Lib.nDigits u ≤ 20 := Lib.nDigits_le20 u hu64
  have hal : Tryz.prog.arrayLen 337 = 24 := by kernel_rfl
  have hsl : ∀ W, (Instr.sliceAt 337 (.pointer (some ⟨w.heap.size, 0, none⟩)) none (some (.int .i64 (Lib.nDigits u : Int))) none).run Tryz.prog W = .ok (.slice (some ⟨w.heap.size, 0, none⟩) (Lib.nDigits u) 24) W := fun W => by
    rw [run_sliceAt_array_h W 337 ⟨w.heap.size, 0, none⟩ (by kernel_rfl) .i64 (Lib.nDigits u : Int) (by omega) (by rw [hal]; omega)]
    go_simp
  have hH0 := Lib.holds_zero0 w 337 (Lib.nDigits u) (by omega)
  have hfmt := Sh.internal_strconv_formatBase10 w.heap.size 0 24 u (Array.replicate (Lib.nDigits u) 0) (w.alloc (.cells Lib.zeros24 337)) hH0 (by rw [Array.size_replicate]; exact Lib.lt_pow_nDigits u) hu64 (by rw [Array.size_replicate]; omega)
  rw [Array.size_replicate] at hfmt
  have HH0 := Lib.hid hH0
  have iu : ¬ (u : Int) < 100 := by omega
  have hnum := Sh.internal_strconv_numDigits u hu1 hu64 (w.alloc (.cells Lib.zeros24 337)) (Lib.tabIs_alloc htab _)
  have HN : Hid _ := hnum
  have HF : Hid _ := hfmt
  clear hH0 hal hnum hfmt
  go_enter Tryz.func254, Tryz.ntmps254
  go_wp2_with fail
  refine Calls.mono HN.out ?_
  rintro e w' ⟨rfl, rfl⟩
  go_wp2_with fail
  refine Calls.mono HF.out ?_
  rintro e w' ⟨rfl, k, v', dk, rfl, hF⟩
  have hcv : (convert 32 9 (.slice (some ⟨w.heap.size, 0, none⟩) (Lib.nDigits u) 24)).run Tryz.prog ((putRow (fun (b : UInt8) => Value.int .u8 (b.toNat : Int)) (w.alloc (.cells Lib.zeros24 337)) w.heap.size 0 dk).drewN k) = .ok (.string ⟨(Lib.decDigits u).toArray⟩) ((putRow (fun (b : UInt8) => Value.int .u8 (b.toNat : Int)) (w.alloc (.cells Lib.zeros24 337)) w.heap.size 0 dk).drewN k) := by
    have h := run_convert_bytes_back (P := Tryz.prog) ((putRow (fun (b : UInt8) => Value.int .u8 (b.toNat : Int)) (w.alloc (.cells Lib.zeros24 337)) w.heap.size 0 dk).drewN k) 32 9 5 ⟨w.heap.size, 0, none⟩ 24 (Lib.decDigits u) Tryz.underlying32 Tryz.underlying5 Tryz.underlying9 (fun j hj => by
      rw [Lib.row_is_numeral hF j hj, Lib.add_plain, World.cell?_drewN]
      exact cell?_putRow (fun (b : UInt8) => Value.int .u8 (b.toNat : Int)) _ w.heap.size 0 _ dk HH0.out (by rw [hF.size, Array.size_replicate]) j (by rw [hF.size]; rw [Lib.decDigits_length] at hj; exact hj))
    rw [Lib.decDigits_length] at h
    exact h
  obtain ⟨os, eo⟩ := Lib.fin_at w (.cells Lib.zeros24 337) dk k 0
  have hB : Below w.heap.size w ((putRow (fun (b : UInt8) => Value.int .u8 (b.toNat : Int)) (w.alloc (.cells Lib.zeros24 337)) w.heap.size 0 dk).drewN k) := by rw [eo]; exact Lib.below_grow _ w (Nat.le_refl _) k os
  generalize (putRow (fun (b : UInt8) => Value.int .u8 (b.toNat : Int)) (w.alloc (.cells Lib.zeros24 337)) w.heap.size 0 dk).drewN k = W2 at hcv hB ⊢
  clear eo HH0 HF HN
  go_wp2
  go_ret
  exact ⟨rfl, hB⟩

set_option maxHeartbeats 1000000 in
theorem pdig_any (N : Int) (w : World) (hT : Hid (PTab w)) (h0 : 0 ≤ N) (h1 : N ≤ 18446744073709551615) :
    Calls Tryz.prog 176 #[.int .u64 N] w fun e w' => e = .returned (.string (strOfNums (qdg 20 N))) ∧ Below w.heap.size w w' := by
  obtain ⟨u, rfl⟩ : ∃ u : Nat, N = (u : Int) := ⟨N.toNat, by omega⟩
  have q : Calls Tryz.prog 254 #[.int .u64 (u : Int), .int .i64 10] w fun e w' => e = .returned (.string (strOfNums (qdg 20 (u : Int)))) ∧ Below w.heap.size w w' := by
    rw [← dec_str u (by omega)]
    by_cases hu : u < 100
    · exact pfu_small u hu w
    · exact pfu_big u (by omega) (by omega) w hT.out
  generalize strOfNums (qdg 20 (u : Int)) = S at q ⊢
  have Q : Hid _ := q
  clear q
  go_enter Tryz.func176, Tryz.ntmps176
  go_wp2_with fail
  go_in
  go_wp2_with fail
  refine Calls.mono Q.out ?_
  rintro e w1 ⟨rfl, hb⟩
  go_wp2
  go_ret
  exact ⟨rfl, hb⟩

end Go.Proofs.YtcnjjhdmnagkgaaGreatDoor

namespace Go.Proofs.YtcnjjhdmnagkgaaGreatDoor
open Go.RowKit
set_option linter.unusedVariables false
set_option linter.unusedSimpArgs false

def TTab (w : World) : Prop := PTab w ∧ ∃ m, w.cell? ⟨2, 0, none⟩ = some (.int .i64 m)

theorem cell_lt7 {w : World} {p : Addr} {v : Value} (h : w.cell? p = some v) : p.block < w.heap.size := by
  rcases Nat.lt_or_ge p.block w.heap.size with h' | h'
  · exact h'
  · simp [World.cell?, Array.getElem?_eq_none h'] at h

theorem TTab.below {w w' : World} (h : TTab w) {B : Nat} (hb : Below B w w') (hB : w.heap.size ≤ B) : TTab w' := by
  obtain ⟨h1, m, h2⟩ := h
  exact ⟨h1.below hb hB, m, (hb.cell (Nat.lt_of_lt_of_le (cell_lt7 h2) hB)).trans h2⟩

def pwVal : Array Value := (nwords.map fun z => Value.string (strOfNums z)).toArray

def STab (w : World) : Prop := ∃ t fr, w.heap[0]? = some (.cells pwVal t fr)

def LoTab (w : World) : Prop := TTab w ∧ STab w

theorem LoTab.below {w w' : World} (h : LoTab w) {B : Nat} (hb : Below B w w') (hB : w.heap.size ≤ B) : LoTab w' :=
  ⟨h.1.below hb hB, by
    obtain ⟨t, fr, h2⟩ := h.2
    exact ⟨t, fr, (hb.block _ (Nat.lt_of_lt_of_le (Array.getElem?_eq_some_iff.1 h2).1 hB)).trans h2⟩⟩

theorem cells_of_strs {H : Type} {enc : TypeId × Value → H} {P : Program} {w : World} {base : Nat} {sp : Nat → Bool} {held : Bool} {fuel : Nat} {t e : TypeId} {n : Nat} {cs : List Value} {zs : List (List UInt8)} {p : List MemPlace}
    (ht : P.underlying t = some (.array n e)) (he : P.underlying e = some .string) (hce : P.cellsOf e = 1) (hct : P.cellsOf t = n)
    (h : DataW.trod enc P w base sp held fuel t cs = some (.agg (zs.map fun z => .lit (.string z)), p)) : cs = zs.map fun z => Value.string ⟨z.toArray⟩ := by
  cases fuel with
  | zero => simp [DataW.trod] at h
  | succ fuel =>
    simp only [DataW.trod, ht, hce, hct, Nat.mul_one] at h
    split at h
    · rename_i hl
      obtain ⟨xs, hm, hx⟩ := Option.map_eq_some_iff.1 h
      have hxs : xs.map (·.1) = zs.map fun z => (DataW.lit (.string z) : DataW H) := by
        have := congrArg Prod.fst hx
        simpa using this
      have hxl : xs.length = n := by simpa using Lib.mapM_length hm
      have hzl : zs.length = n := by
        have := congrArg List.length hxs
        simp at this
        omega
      apply List.ext_getElem?
      intro i
      by_cases hi : i < n
      · obtain ⟨b, hb, hf⟩ := Lib.mapM_at hm i i (by simp [hi])
        obtain ⟨z, hc, rfl, _⟩ := DataW.trod_string he hf
        have h1 : cs[i]? = some (.string z) := by
          have := congrArg (·[0]?) hc
          simpa [List.getElem?_take, List.getElem?_drop] using this
        have h2 : (xs.map (·.1))[i]? = some (DataW.lit (.string z.data.toList) : DataW H) := by simp [hb]
        rw [hxs] at h2
        simp only [List.getElem?_map, Option.map_eq_some_iff, DataW.lit.injEq, Lit.string.injEq] at h2
        obtain ⟨z', hz', rfl⟩ := h2
        simp [h1, hz']
      · rw [List.getElem?_eq_none (by omega), List.getElem?_eq_none (by simp; omega)]
    · cases h

theorem strs_of_head {P : Program} {W : World} {name : String} {zs : List (List UInt8)} {rest : List (String × DataW Unit)} {g : Nat} {t e : TypeId} {n : Nat}
    (hg : P.globalNamed name = some g) (hty : (P.globals[g]?).map (·.type) = some t) (ht : P.underlying t = some (.array n e)) (he : P.underlying e = some .string) (hce : P.cellsOf e = 1) (hct : P.cellsOf t = n)
    (h : laidMet P ((name, .agg (zs.map fun z => .lit (.string z))) :: rest) W) : ∃ t fr, W.heap[g]? = some (.cells (zs.map fun z => Value.string ⟨z.toArray⟩).toArray t fr) := by
  obtain ⟨ps, ⟨g', t', cs, fuel, p, q, hg', ht', hvar, hd, _, _⟩, _⟩ := h
  obtain rfl := Option.some.inj (hg.symm.trans hg')
  obtain rfl := Option.some.inj (hty.symm.trans ht')
  have h1 := cells_of_strs ht he hce hct hd
  have h2 : cs = (zs.map fun z => Value.string ⟨z.toArray⟩).toArray := by rw [← h1]
  rw [h2] at hvar
  simp only [World.var?, hg, Option.bind_some] at hvar
  split at hvar
  · rename_i cs' t' fr' hh
    obtain rfl := Option.some.inj hvar
    exact ⟨_, _, hh⟩
  · cases hvar

end Go.Proofs.YtcnjjhdmnagkgaaGreatDoor
