/- The contracts of the program's own digits: the closure that quote.digitsOf answers, quote.takeDigits, over the turned text. -/
import Derived.Test.YtjkcmcefmciinaaDoorQPs
import Derived.Deep.QuietTactic
import Derived.BigQuiet
namespace Go.Proofs.YtjkcmcefmciinaaDoor
open Go.RowKit
set_option linter.unusedVariables false
set_option linter.unusedSimpArgs false

/-- What the closure tells as a sign's worth: the base itself, if it is no digit. -/
def pdv (base c : Int) : Int := if dgt c = 99 then base else dgt c

theorem pdv_in {base c : Int} (h : dgt c < base) (hb : base ≤ 16) : pdv base c = dgt c := by unfold pdv; rw [if_neg (by omega)]

theorem pdv_bd (base c : Int) (h0 : 0 ≤ base) (h1 : base ≤ 16) : 0 ≤ pdv base c ∧ pdv base c ≤ 16 := by
  have h : dgt c = 99 ∨ (0 ≤ dgt c ∧ dgt c ≤ 15) := by unfold dgt; repeat' split <;> omega
  unfold pdv
  split <;> omega

theorem Below.drewN'' (w : World) : ∀ n, Below w.heap.size w (w.drewN n)
  | 0 => Below.refl _ _
  | n + 1 => (Below.drewN'' w n).drew

set_option maxHeartbeats 1000000 in
theorem pclo_1 (c base : Int) (g : Nat) (w : World) (h0 : 48 ≤ c) (h1 : c ≤ 57) (b0 : 0 ≤ base) (b1 : base ≤ 16) (hc : w.cell? ⟨g, 0, none⟩ = some (.int .u64 base)) :
    Calls Tryd.prog 68 #[.int .u8 c, .pointer (some ⟨g, 0, none⟩)] w fun e w' => e = .returned (.tuple #[.int .u64 (c - 48), .bool (decide (c - 48 < base))]) ∧ ∃ n, w' = w.drewN n := by
  go_enter Tryd.func68, Tryd.ntmps68
  go_wp2
  go_quiet (fail)
  rename_i K _ hK
  refine hK _ _ ?_
  go_wp2
  go_ret2
  exact ⟨rfl, _, rfl⟩

set_option maxHeartbeats 1000000 in
theorem pclo_2 (c base : Int) (g : Nat) (w : World) (h0 : 97 ≤ c) (h1 : c ≤ 102) (b0 : 0 ≤ base) (b1 : base ≤ 16) (hc : w.cell? ⟨g, 0, none⟩ = some (.int .u64 base)) :
    Calls Tryd.prog 68 #[.int .u8 c, .pointer (some ⟨g, 0, none⟩)] w fun e w' => e = .returned (.tuple #[.int .u64 (c - 97 + 10), .bool (decide (c - 97 + 10 < base))]) ∧ ∃ n, w' = w.drewN n := by
  have e1 : ¬ c ≤ 57 := by omega
  go_enter Tryd.func68, Tryd.ntmps68
  go_wp2
  go_quiet (fail)
  rename_i K _ hK
  refine hK _ _ ?_
  go_wp2
  go_ret2
  exact ⟨rfl, _, rfl⟩

set_option maxHeartbeats 1000000 in
theorem pclo_3 (c base : Int) (g : Nat) (w : World) (h0 : 65 ≤ c) (h1 : c ≤ 70) (b0 : 0 ≤ base) (b1 : base ≤ 16) (hc : w.cell? ⟨g, 0, none⟩ = some (.int .u64 base)) :
    Calls Tryd.prog 68 #[.int .u8 c, .pointer (some ⟨g, 0, none⟩)] w fun e w' => e = .returned (.tuple #[.int .u64 (c - 65 + 10), .bool (decide (c - 65 + 10 < base))]) ∧ ∃ n, w' = w.drewN n := by
  have e2 : ¬ 97 ≤ c := by omega
  have e1 : ¬ c ≤ 57 := by omega
  go_enter Tryd.func68, Tryd.ntmps68
  go_wp2
  go_quiet (fail)
  rename_i K _ hK
  refine hK _ _ ?_
  go_wp2
  go_ret2
  exact ⟨rfl, _, rfl⟩

set_option maxHeartbeats 1000000 in
theorem pclo_4 (c base : Int) (g : Nat) (w : World) (h0 : 0 ≤ c) (h1 : c ≤ 255) (k1 : ¬ (48 ≤ c ∧ c ≤ 57)) (k2 : ¬ (97 ≤ c ∧ c ≤ 102)) (k3 : ¬ (65 ≤ c ∧ c ≤ 70)) (b0 : 0 ≤ base) (b1 : base ≤ 16) (hc : w.cell? ⟨g, 0, none⟩ = some (.int .u64 base)) :
    Calls Tryd.prog 68 #[.int .u8 c, .pointer (some ⟨g, 0, none⟩)] w fun e w' => e = .returned (.tuple #[.int .u64 base, .bool false]) ∧ ∃ n, w' = w.drewN n := by
  have hways : c < 48 ∨ (57 < c ∧ c < 65) ∨ (70 < c ∧ c < 97) ∨ 102 < c := by omega
  clear k1 k2 k3
  rcases hways with h | ⟨h, h'⟩ | ⟨h, h'⟩ | h
  all_goals
    go_enter Tryd.func68, Tryd.ntmps68
    go_wp2
    go_quiet (fail)
    first | (rename_i K _ hK; refine hK _ _ ?_) | (rename_i K _ hK _; refine hK _ _ ?_) | (rename_i K _ hK _ _; refine hK _ _ ?_) | (rename_i K _ hK _ _ _; refine hK _ _ ?_)
    go_wp2
    go_ret2
    exact ⟨by simp, _, rfl⟩

theorem pclo_any (c base : Int) (g : Nat) (w : World) (h0 : 0 ≤ c) (h1 : c ≤ 255) (b0 : 0 ≤ base) (b1 : base ≤ 16) (hc : w.cell? ⟨g, 0, none⟩ = some (.int .u64 base)) :
    Calls Tryd.prog 68 #[.int .u8 c, .pointer (some ⟨g, 0, none⟩)] w fun e w' => e = .returned (.tuple #[.int .u64 (pdv base c), .bool (decide (dgt c < base))]) ∧ Below w.heap.size w w' := by
  have fin : ∀ (x : Int) (y : Bool), x = pdv base c → y = decide (dgt c < base) → Calls Tryd.prog 68 #[.int .u8 c, .pointer (some ⟨g, 0, none⟩)] w (fun e w' => e = .returned (.tuple #[.int .u64 x, .bool y]) ∧ ∃ n, w' = w.drewN n) →
      Calls Tryd.prog 68 #[.int .u8 c, .pointer (some ⟨g, 0, none⟩)] w fun e w' => e = .returned (.tuple #[.int .u64 (pdv base c), .bool (decide (dgt c < base))]) ∧ Below w.heap.size w w' := by
    intro x y hx hy h
    refine h.mono ?_
    rintro e w' ⟨rfl, n, rfl⟩
    exact ⟨by rw [hx, hy], Below.drewN'' _ _⟩
  by_cases k1 : 48 ≤ c ∧ c ≤ 57
  · have e := dgt_1 k1
    exact fin _ _ (by unfold pdv; rw [e, if_neg (by omega)]) (by rw [e]) (pclo_1 c base g w k1.1 k1.2 b0 b1 hc)
  by_cases k2 : 97 ≤ c ∧ c ≤ 102
  · have e := dgt_2 k2
    exact fin _ _ (by unfold pdv; rw [e, if_neg (by omega)]; omega) (by rw [e, show c - 97 + 10 = c - 87 by omega]) (pclo_2 c base g w k2.1 k2.2 b0 b1 hc)
  by_cases k3 : 65 ≤ c ∧ c ≤ 70
  · have e := dgt_3 k3
    exact fin _ _ (by unfold pdv; rw [e, if_neg (by omega)]; omega) (by rw [e, show c - 65 + 10 = c - 55 by omega]) (pclo_3 c base g w k3.1 k3.2 b0 b1 hc)
  · have e := dgt_4 k1 k2 k3
    exact fin _ _ (by unfold pdv; rw [e, if_pos rfl]) (by rw [e]; simp; omega) (pclo_4 c base g w h0 h1 k1 k2 k3 b0 b1 hc)

/-- What holds at takeDigits' label: k digits are read. -/
def DJ (w : World) (S : ByteArray) (zs : List Int) (base : Int) (most : Nat) (a' : Act) (w' : World) : Prop :=
  ∃ (n : Int) (k : Nat) (us : Nat → Value), a' = { tmps := #[.string S, .int .u32 base, .int .i64 (most : Int), undef, undef, undef, .int .u32 0, .int .i64 0, .func (.func 68) #[] #[.pointer (some ⟨w.heap.size, 0, none⟩)], .int .u32 n, .int .i64 (k : Int), us 11, us 12, us 13, us 14, us 15, us 16, us 17, us 18, us 19, us 20, us 21, us 22, us 23, us 24, us 25, us 26, us 27, us 28, us 29, us 30, us 31, us 32, us 33, us 34, us 35, us 36, us 37, us 38, us 39, us 40, us 41, us 42, us 43], defers := [] } ∧
    0 ≤ n ∧ k ≤ most ∧ k ≤ zs.length ∧ Hid (n < ((16 ^ k : Nat) : Int)) ∧ Hid (qrn base most zs 0 = ((qrn base (most - k) (zs.drop k) n).1, (qrn base (most - k) (zs.drop k) n).2 + k)) ∧ w.heap.size < w'.heap.size ∧ w'.cell? ⟨w.heap.size, 0, none⟩ = some (.int .u64 base) ∧ Below w.heap.size w w'

theorem DJ.mk {w : World} {S : ByteArray} {zs : List Int} {base : Int} {most : Nat} {a' : Act} {w' : World} (n : Int) (k : Nat) (us : Nat → Value) (_hu : us = fun k => a'.tmps.getD k undef)
    (h1 : a' = { tmps := #[.string S, .int .u32 base, .int .i64 (most : Int), undef, undef, undef, .int .u32 0, .int .i64 0, .func (.func 68) #[] #[.pointer (some ⟨w.heap.size, 0, none⟩)], .int .u32 n, .int .i64 (k : Int), us 11, us 12, us 13, us 14, us 15, us 16, us 17, us 18, us 19, us 20, us 21, us 22, us 23, us 24, us 25, us 26, us 27, us 28, us 29, us 30, us 31, us 32, us 33, us 34, us 35, us 36, us 37, us 38, us 39, us 40, us 41, us 42, us 43], defers := [] })
    (h2 : 0 ≤ n) (h3 : k ≤ most) (h4 : k ≤ zs.length) (h5 : n < ((16 ^ k : Nat) : Int)) (h6 : qrn base most zs 0 = ((qrn base (most - k) (zs.drop k) n).1, (qrn base (most - k) (zs.drop k) n).2 + k)) (h7 : w.heap.size < w'.heap.size) (h8 : w'.cell? ⟨w.heap.size, 0, none⟩ = some (.int .u64 base)) (h9 : Below w.heap.size w w') : DJ w S zs base most a' w' :=
  ⟨n, k, us, h1, h2, h3, h4, h5, h6, h7, h8, h9⟩

set_option maxHeartbeats 1000000 in
theorem pdgs_any (zs : List Int) (base : Int) (most : Nat) (w : World) (hz : Hid (∀ i, 0 ≤ zs.getD i 0 ∧ zs.getD i 0 ≤ 255)) (b0 : 0 ≤ base) (b1 : base ≤ 16) (hm : most ≤ 8) (hlen : (zs.length : Int) ≤ 9223372036854775807) :
    Calls Tryd.prog 72 #[.string (strOfNums zs), .int .u32 base, .int .i64 (most : Int)] w fun e w' => e = .returned (.tuple #[.int .u32 (qrn base most zs 0).1, .int .i64 ((qrn base most zs 0).2 : Int)]) ∧ Below w.heap.size w w' := by
  have hsz := strOfNums_size zs
  have hmf : ∀ (fn : Fn) (first cap : Array Value) (w : World), (Instr.makeFunc fn first cap).run Tryd.prog w = .ok (.func fn first cap) w := fun _ _ _ _ => rfl
  go_enter Tryd.func72, Tryd.ntmps72
  go_wp2
  refine wp_scope_loop 0 (DJ w (strOfNums zs) zs base most) (fun a' _ => most - (intOf (a'.tmps.getD 10 undef)).toNat) rfl ?_ ?_
  · intro HJ
    go_wp2
    go_step3
    rename_i hK
    refine hK _ _ ?_
    refine HJ.out _ _ ?_
    exact DJ.mk 0 0 _ rfl rfl (by omega) (by omega) (by omega) (by decide) (by simp) (by simp) (by simp) ((Below.refl _ _).alloc (Nat.le_refl _) _)
  · rintro a' w' ⟨n, k, us, rfl, n0, hkm, hkl, HN, HQ, hsz', hcell, hb⟩
    have hend : (zs.length ≤ k ∨ most - k = 0 ∨ base ≤ dgt (zs.getD k 0)) → Hid (qrn base most zs 0 = (n, k)) := by
      intro h
      have := HQ.out
      rw [qrn_stop base (most - k) zs k n h] at this
      rw [this]
      show _ = _
      simp
    by_cases h2 : k < most
    · by_cases h1 : k < zs.length
      · obtain ⟨c, hc⟩ : ∃ c, c = zs.getD k 0 := ⟨_, rfl⟩
        have hcb := hz.out k
        have hat := str_at zs hz.out k (by rw [hsz]; exact h1)
        rw [← hc] at hcb hat hend
        obtain ⟨c0, c255⟩ := hcb
        have HC : Hid (c = zs.getD k 0) := hc
        clear hc
        have q := pclo_any c base w.heap.size w' c0 c255 b0 b1 hcell
        have hd := dgt_bd c
        by_cases h3 : dgt c < base
        · have hstep : Hid (qrn base most zs 0 = ((qrn base (most - (k + 1)) (zs.drop (k + 1)) (n * base + dgt c)).1, (qrn base (most - (k + 1)) (zs.drop (k + 1)) (n * base + dgt c)).2 + (k + 1))) := by
            show _ = _
            have := HQ.out
            obtain ⟨f, hf⟩ : ∃ f, most - k = f + 1 := ⟨most - k - 1, by omega⟩
            rw [hf, qrn_step base f zs k n h1 (by rw [← HC.out]; exact h3), ← HC.out] at this
            rw [this, show most - (k + 1) = f by omega]
            simp only [Prod.mk.injEq, true_and]
            omega
          have e0 : 0 ≤ n * base := Int.mul_nonneg n0 b0
          have hn' : Hid (n * base + dgt c < ((16 ^ (k + 1) : Nat) : Int)) := by
            show _ < _
            have := HN.out
            have e : n * base ≤ n * 16 := Int.mul_le_mul_of_nonneg_left b1 n0
            rw [Nat.pow_succ]
            omega
          have hn8 : n * base + dgt c < 4294967296 := by
            have := hn'.out
            have h8 : 16 ^ (k + 1) ≤ 16 ^ 8 := Nat.pow_le_pow_right (by omega) (by omega)
            omega
          clear hend
          rw [pdv_in h3 b1, show decide (dgt c < base) = true by simpa using h3] at q
          generalize dgt c = d at q hd h3 hstep hn' hn8
          obtain ⟨m, hm'⟩ : ∃ m, m = n * base := ⟨_, rfl⟩
          rw [← hm'] at hstep hn' hn8 e0
          have Q : Hid _ := q
          clear q
          have hmm : n * base = m := hm'.symm
          clear hm'
          go_wp2_with fail
          refine Calls.mono Q.out ?_
          rintro e w1 ⟨rfl, hb1⟩
          go_wp2
          go_step3
          rw [show ((k : Int) + 1) = ((k + 1 : Nat) : Int) by omega]
          refine ⟨rfl, DJ.mk (m + d) (k + 1) _ rfl rfl (by omega) (by omega) (by omega) hn'.out hstep.out (Nat.lt_of_lt_of_le hsz' hb1.size) ((hb1.cell hsz').trans hcell) (hb.trans (hb1.mono hb.size)), ?_⟩
          simp [intOf]
          omega
        · have E := hend (.inr (.inr (by omega)))
          rw [show decide (dgt c < base) = false by simpa using h3] at q
          clear hend
          generalize pdv base c = d at q
          have Q : Hid _ := q
          clear q
          go_wp2_with fail
          refine Calls.mono Q.out ?_
          rintro e w1 ⟨rfl, hb1⟩
          go_wp2
          simp only [Exit.jump]
          go_ret2
          exact ⟨by rw [E.out]; rfl, hb.trans (hb1.mono hb.size)⟩
      · have E := hend (.inl (by omega))
        clear hend
        go_wp2
        simp only [Exit.jump]
        go_ret2
        exact ⟨by rw [E.out]; rfl, hb⟩
    · have E := hend (.inr (.inl (by omega)))
      clear hend
      go_wp2
      simp only [Exit.jump]
      go_ret2
      exact ⟨by rw [E.out]; rfl, hb⟩

end Go.Proofs.YtjkcmcefmciinaaDoor
