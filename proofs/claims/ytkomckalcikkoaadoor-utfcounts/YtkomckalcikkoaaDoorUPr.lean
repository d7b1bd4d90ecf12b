/- The contract of the program's own utf.Rune, over the turned text. -/
import Derived.Test.YtkomckalcikkoaaDoorUTab
import Derived.Deep.QuietTactic
import Derived.BigQuiet
namespace Go.Proofs.YtkomckalcikkoaaDoor
open Go.RowKit
set_option linter.unusedSimpArgs false

/-- What has come together behind k further bytes. -/
def uacc (x : Int) (z : List Int) : Nat → Int
  | 0 => x
  | k + 1 => uacc x z k * 64 + (z.getD (k + 1) 0 - 128)

theorem andn63 : ∀ a : Fin 256, bits .andNot .u8 (a.val : Int) 63 = ((a.val / 64 * 64 : Nat) : Int) := by decide +kernel

theorem and63 : ∀ a : Fin 256, bits .and .u8 (a.val : Int) 63 = ((a.val % 64 : Nat) : Int) := by decide +kernel

theorem bits_andn63 (x : Int) (h0 : 0 ≤ x) (h1 : x ≤ 255) : bits .andNot .u8 x 63 = x / 64 * 64 := by
  have := andn63 ⟨x.toNat, by omega⟩
  simp only at this
  rw [show ((x.toNat : Nat) : Int) = x by omega] at this
  rw [this]; omega

theorem bits_and63 (x : Int) (h0 : 0 ≤ x) (h1 : x ≤ 255) : bits .and .u8 x 63 = x % 64 := by
  have := and63 ⟨x.toNat, by omega⟩
  simp only at this
  rw [show ((x.toNat : Nat) : Int) = x by omega] at this
  rw [this]; omega

/-- What holds at the label: i further bytes are read. -/
def RJ (w : World) (b off len cap s : Nat) (x : Int) (zs : List Int) (a' : Act) (w' : World) : Prop :=
  ∃ (i : Nat) (y : Int) (n : Nat) (us : Nat → Value), w' = w.drewN n ∧ a' = { tmps := #[.slice (some ⟨b, off, none⟩) len cap, undef, .int .i32 0, .int .i64 0, .int .i64 (s : Int), .int .i32 y, .int .i64 ((i : Int) + 1), us 7, us 8, us 9, us 10, us 11, us 12, us 13, us 14, us 15, us 16, us 17, us 18, us 19, us 20, us 21, us 22, us 23, us 24, us 25, us 26, us 27, us 28, us 29, us 30, us 31, us 32, us 33, us 34, us 35, us 36, us 37, us 38, us 39, us 40, us 41, us 42, us 43, us 44, us 45, us 46, us 47, us 48, us 49, us 50, us 51, us 52, us 53, us 54, us 55, us 56, us 57, us 58, us 59, us 60, us 61, us 62, us 63, us 64], defers := [] } ∧
    i + 1 ≤ s ∧ i + 1 ≤ len ∧ 0 ≤ y ∧ Hid (y < 128 * 64 ^ i) ∧ Hid (y = uacc x zs i) ∧ Hid (∀ j, j < i → cont (zs.getD (j + 1) 0))

theorem Below.drewN' (w : World) : ∀ n, Below w.heap.size w (w.drewN n)
  | 0 => Below.refl _ _
  | n + 1 => (Below.drewN' w n).drew

theorem RJ.mk {w : World} {b off len cap s : Nat} {x : Int} {zs : List Int} {a' : Act} {w' : World} (i : Nat) (y : Int) (n : Nat) (us : Nat → Value) (h1 : w' = w.drewN n) (_hu : us = fun k => a'.tmps.getD k undef)
    (h2 : a' = { tmps := #[.slice (some ⟨b, off, none⟩) len cap, undef, .int .i32 0, .int .i64 0, .int .i64 (s : Int), .int .i32 y, .int .i64 ((i : Int) + 1), us 7, us 8, us 9, us 10, us 11, us 12, us 13, us 14, us 15, us 16, us 17, us 18, us 19, us 20, us 21, us 22, us 23, us 24, us 25, us 26, us 27, us 28, us 29, us 30, us 31, us 32, us 33, us 34, us 35, us 36, us 37, us 38, us 39, us 40, us 41, us 42, us 43, us 44, us 45, us 46, us 47, us 48, us 49, us 50, us 51, us 52, us 53, us 54, us 55, us 56, us 57, us 58, us 59, us 60, us 61, us 62, us 63, us 64], defers := [] })
    (h3 : i + 1 ≤ s) (h4 : i + 1 ≤ len) (h5 : 0 ≤ y) (h6 : y < 128 * 64 ^ i) (h7 : y = uacc x zs i) (h8 : ∀ j, j < i → cont (zs.getD (j + 1) 0)) : RJ w b off len cap s x zs a' w' :=
  ⟨i, y, n, us, h1, h2, h3, h4, h5, h6, h7, h8⟩

set_option maxHeartbeats 1000000 in
theorem prune_go {w : World} {b off len cap s : Nat} {c0 x hd : Int} {zs : List Int} {r : Int × Int} (hlen : (len : Int) ≤ 9223372036854775807) (hp : 0 < len) (b0 : 0 ≤ c0) (b1 : c0 ≤ 255) (hc0 : w.cell? ⟨b, off, none⟩ = some (.int .u8 c0))
    (ht : w.cell? ⟨0, (c0 / 8).toNat, none⟩ = some (.int .i64 (s : Int))) (hh : w.cell? ⟨1, s, none⟩ = some (.int .u8 hd)) (hs1 : 1 ≤ s) (hs4 : s ≤ 4) (hx : (c0 - hd) % 256 = x) (x0 : 0 ≤ x) (x1 : x < 128)
    (HC : Hid (∀ i, i < len → w.cell? ⟨b, off + i, none⟩ = some (.int .u8 (zs.getD i 0)))) (HZ : Hid (∀ i, 0 ≤ zs.getD i 0 ∧ zs.getD i 0 ≤ 255))
    (HG : Hid (s ≤ len → (∀ j, j + 1 < s → cont (zs.getD (j + 1) 0)) → usz (uacc x zs (s - 1)) = s → r = (uacc x zs (s - 1), (s : Int))))
    (H1 : Hid (len < s → r = (-1, 0))) (H2 : Hid (∀ j, j + 1 < s → ¬ cont (zs.getD (j + 1) 0) → r = (-1, 0))) (H3 : Hid (s ≤ len → (∀ j, j + 1 < s → cont (zs.getD (j + 1) 0)) → usz (uacc x zs (s - 1)) ≠ s → r = (-1, 0))) :
    Calls Tryd.prog 10 #[.slice (some ⟨b, off, none⟩) len cap] w fun e w' => e = .returned (.tuple #[.int .i32 r.1, .int .i64 r.2]) ∧ Below w.heap.size w w' := by
  have hlz : ((len : Int) == 0) = false := by simp; omega
  have hsz : ((s : Int) == 0) = false := by simp; omega
  go_enter Tryd.func10, Tryd.ntmps10
  go_wp2
  refine wp_scope_loop 0 (RJ w b off len cap s x zs) (fun a' _ => 10 - (intOf (a'.tmps.getD 6 undef)).toNat) rfl ?_ ?_
  · intro HJ
    go_wp2
    go_quiet (fail)
    rename_i K _ hK
    refine hK _ _ ?_
    go_wp2
    go_step3
    rename_i hK
    refine hK _ _ ?_
    refine HJ.out _ _ ?_
    exact RJ.mk 0 x nq _ rfl rfl rfl (by omega) (by omega) (by omega) (by omega) rfl (fun j hj => absurd hj (by omega))
  · rintro a' w' ⟨i, y, n, us, rfl, rfl, his, hil, y0, HY, HU, HJ⟩
    obtain ⟨k, hk⟩ : ∃ k : Nat, k = i + 1 := ⟨_, rfl⟩
    rw [show ((i : Int) + 1) = (k : Int) by omega]
    have HK : Hid (k = i + 1) := hk
    have hk4 : k ≤ 4 := by omega
    have hkl : k ≤ len := by omega
    have hks : k ≤ s := by omega
    clear hk his hil
    by_cases hend : k < s
    · by_cases hA : k = len
      · have e1 : ((k : Int) == (len : Int)) = true := by simp [hA]
        have E2 : Hid (r = (-1, 0)) := H1.out (by omega)
        go_wp2
        simp only [Exit.jump]
        go_ret2
        exact ⟨by rw [E2.out]; rfl, Below.drewN' _ _⟩
      · have hlt : k < len := by omega
        have e1 : ((k : Int) == (len : Int)) = false := by simp; omega
        obtain ⟨c, hc⟩ : ∃ c, c = zs.getD k 0 := ⟨_, rfl⟩
        have hcell := HC.out k hlt
        have hz := HZ.out k
        rw [← hc] at hcell hz
        have HCz : Hid (c = zs.getD k 0) := hc
        clear hc
        obtain ⟨c0', c255⟩ := hz
        have ha := bits_andn63 c c0' c255
        have hb := bits_and63 c c0' c255
        by_cases hco : cont c
        · have e2 : (c / 64 * 64 == 128) = true := by have := hco.1; have := hco.2; simp; omega
          have y1 : y < 524288 := by
            have := HY.out
            have h2 : i ≤ 2 := by have := HK.out; omega
            have h3 : i = 0 ∨ i = 1 ∨ i = 2 := by omega
            rcases h3 with rfl | rfl | rfl <;> omega
          have HY' : Hid (y * 64 + c % 64 < 128 * 64 ^ (i + 1)) := by
            show _ < _
            have := HY.out
            rw [Int.pow_succ]
            omega
          have HU' : Hid (y * 64 + c % 64 = uacc x zs (i + 1)) := by
            show _ = _
            rw [uacc, ← HU.out, ← HK.out, ← HCz.out]
            have := hco.1; have := hco.2
            omega
          have HJ' : Hid (∀ j, j < i + 1 → cont (zs.getD (j + 1) 0)) := by
            intro j hj
            by_cases hji : j = i
            · rw [hji, ← HK.out, ← HCz.out]; exact hco
            · exact HJ.out j (by omega)
          clear hco
          go_wp2
          go_step3
          have hk := HK.out
          rw [show ((k : Int) + 1) = (((i + 1 : Nat) : Int) + 1) by omega]
          refine ⟨rfl, RJ.mk (i + 1) _ n _ rfl rfl rfl (by omega) (by omega) (by omega) HY'.out HU'.out HJ'.out, ?_⟩
          simp [intOf]
          omega
        · have e2 : (c / 64 * 64 == 128) = false := by
            simp only [cont] at hco
            simp; omega
          have E2 : Hid (r = (-1, 0)) := by
            have hk := HK.out
            refine H2.out i (by omega) ?_
            rw [← hk, ← HCz.out]
            exact hco
          go_wp2
          simp only [Exit.jump]
          go_ret2
          exact ⟨by rw [E2.out]; rfl, Below.drewN' _ _⟩
    · have HS : Hid (i = s - 1) := by show _ = _; have := HK.out; omega
      have hsl : s ≤ len := by omega
      have HJ' : Hid (∀ j, j + 1 < s → cont (zs.getD (j + 1) 0)) := fun j hj => HJ.out j (by have := HS.out; omega)
      have HU' : Hid (y = uacc x zs (s - 1)) := by rw [← HS.out]; exact HU
      by_cases hu : usz y = s
      · have E2 : Hid (r = (y, (s : Int))) := by have := HG.out hsl HJ'.out; rw [← HU'.out] at this; exact this hu
        have q := fun W => sizeOf_any y W
        rw [hu] at q
        have Q : Hid _ := q
        clear q hu
        have e1 : ((s : Int) == (s : Int)) = true := by simp
        go_wp2_with fail
        refine Calls.mono (Q.out _) ?_
        rintro e w1 ⟨rfl, rfl⟩
        go_wp2
        simp only [Exit.jump]
        go_ret2
        exact ⟨by rw [E2.out]; rfl, Below.drewN' _ _⟩
      · have E2 : Hid (r = (-1, 0)) := by have := H3.out hsl HJ'.out; rw [← HU'.out] at this; exact this hu
        have q := fun W => sizeOf_any y W
        generalize usz y = t at q hu
        have e1 : ((t : Int) == (s : Int)) = false := by simpa using hu
        have Q : Hid _ := q
        clear q hu
        go_wp2_with fail
        refine Calls.mono (Q.out _) ?_
        rintro e w1 ⟨rfl, rfl⟩
        go_wp2
        simp only [Exit.jump]
        go_ret2
        exact ⟨by rw [E2.out]; rfl, Below.drewN' _ _⟩

theorem usz_ways (n : Int) : (usz n = 1 ↔ 0 ≤ n ∧ n < 128) ∧ (usz n = 2 ↔ 128 ≤ n ∧ n < 2048) ∧ (usz n = 3 ↔ 2048 ≤ n ∧ n < 65536 ∧ (n < 55296 ∨ 57343 < n)) ∧ (usz n = 4 ↔ 65536 ≤ n ∧ n ≤ 1114111) := by
  rw [usz_eq]
  by_cases hc : isCh n = true
  · have := (isCh_iff n).1 hc
    rw [if_pos hc]
    clear hc
    refine ⟨?_, ?_, ?_, ?_⟩ <;> (repeat' split) <;> omega
  · have : ¬ (0 ≤ n ∧ n ≤ 1114111 ∧ (n < 55296 ∨ 57343 < n)) := fun h => hc ((isCh_iff n).2 h)
    rw [if_neg hc]
    clear hc
    refine ⟨?_, ?_, ?_, ?_⟩ <;> omega

theorem ur_no {len a b c d : Int} (h1 : ¬ fit1 len a) (h2 : ¬ fit2 len a b) (h3 : ¬ fit3 len a b c) (h4 : ¬ fit4 len a b c d) : ur len a b c d = (-1, 0) := by
  rcases ur_ways len a b c d with h | h | h | h | h
  · exact absurd h.1 h1
  · exact absurd h.2.1 h2
  · exact absurd h.2.2.1 h3
  · exact absurd h.2.2.2.1 h4
  · exact h.2.2.2.2

set_option maxHeartbeats 1000000 in
theorem prune_nil {w : World} {a : Option Addr} {cap : Nat} :
    Calls Tryd.prog 10 #[.slice a 0 cap] w fun e w' => e = .returned (.tuple #[.int .i32 (-1), .int .i64 0]) ∧ w = w' := by
  go_enter Tryd.func10, Tryd.ntmps10
  go_wp2
  refine wp_scope_straight ?_
  go_wp2
  simp only [Exit.noGoto]
  go_ret2
  exact ⟨rfl, rfl⟩

set_option maxHeartbeats 1000000 in
theorem prune_no {w : World} {b off len cap : Nat} {c0 : Int} (hlen : (len : Int) ≤ 9223372036854775807) (hp : 0 < len) (b0 : 0 ≤ c0) (b1 : c0 ≤ 255) (hc0 : w.cell? ⟨b, off, none⟩ = some (.int .u8 c0))
    (ht : w.cell? ⟨0, (c0 / 8).toNat, none⟩ = some (.int .i64 0)) :
    Calls Tryd.prog 10 #[.slice (some ⟨b, off, none⟩) len cap] w fun e w' => e = .returned (.tuple #[.int .i32 (-1), .int .i64 0]) ∧ w = w' := by
  have hlz : ((len : Int) == 0) = false := by simp; omega
  go_enter Tryd.func10, Tryd.ntmps10
  go_wp2
  refine wp_scope_straight ?_
  go_wp2
  simp only [Exit.noGoto]
  go_ret2
  exact ⟨rfl, rfl⟩

theorem prune_bs {w : World} {a : Option Addr} {len cap : Nat} {zs : List Int} (hT : Tab w) (h : Hid (Bs w a len cap zs)) :
    Calls Tryd.prog 10 #[.slice a len cap] w fun e w' => e = .returned (.tuple #[.int .i32 (urune zs).1, .int .i64 (urune zs).2]) ∧ Below w.heap.size w w' := by
  obtain ⟨hl, hlen, hz, _, _, hrow⟩ := h.out
  by_cases hp : 0 < len
  · obtain ⟨b, off, rfl, _, hcell⟩ := hrow hp
    have hc0 := hcell 0 hp
    obtain ⟨b0, b1⟩ := hz 0
    obtain ⟨c0, hc⟩ : ∃ c, c = zs.getD 0 0 := ⟨_, rfl⟩
    have hz1 := hz 1; have hz2 := hz 2; have hz3 := hz 3
    have hll : (zs.length : Int) = (len : Int) := by omega
    have ways := ur_ways (len : Int) c0 (zs.getD 1 0) (zs.getD 2 0) (zs.getD 3 0)
    have hur : urune zs = ur (len : Int) c0 (zs.getD 1 0) (zs.getD 2 0) (zs.getD 3 0) := by rw [urune, hll, hc]
    rw [← hc] at hc0 b0 b1
    simp only [fit1, fit2, fit3, fit4, un2, un3, un4] at ways
    rw [← hur] at ways
    by_cases k1 : c0 < 128
    · refine prune_go (s := 1) (c0 := c0) (x := c0) (hd := 0) hlen hp b0 b1 hc0 (hT.size c0 b0 b1 1 (by omega)) (hT.2 1 (by omega)) (by omega) (by omega) (by omega) b0 k1 hcell hz ?_ ?_ ?_ ?_
      · intro _ _ _; show _ = (c0, 1); rcases ways with h | h | h | h | h
        · exact h.2
        all_goals omega
      · intro hh; omega
      · intro j hj; omega
      · intro _ _ hu; exact absurd ((usz_ways c0).1.2 ⟨b0, k1⟩) hu
    by_cases k0 : c0 < 192 ∨ 248 ≤ c0
    · have e : urune zs = (-1, 0) := by rcases ways with h | h | h | h | h; all_goals first | exact h.2.2.2.2 | omega
      rw [e]
      exact (prune_no hlen hp b0 b1 hc0 (hT.size c0 b0 b1 0 (by omega))).mono fun e w' ⟨h1, h2⟩ => ⟨h1, h2 ▸ Below.refl _ _⟩
    by_cases k2 : c0 < 224
    · have ea : uacc (c0 - 192) zs (2 - 1) = (c0 - 192) * 64 + (zs.getD 1 0 - 128) := rfl
      refine prune_go (s := 2) (c0 := c0) (x := c0 - 192) (hd := 192) hlen hp b0 b1 hc0 (hT.size c0 b0 b1 2 (by omega)) (hT.2 2 (by omega)) (by omega) (by omega) (by omega) (by omega) (by omega) hcell hz ?_ ?_ ?_ ?_
      · intro q1 q2 q3
        have r0 : cont (zs.getD 1 0) := q2 0 (by omega)
        rw [ea] at q3 ⊢
        have q4 := (usz_ways _).2.1.1 q3
        simp only [cont] at ways r0
        rcases ways with h | h | h | h | h
        all_goals first | omega | (rw [h.2.2]; congr 1; omega)
      · intro q1
        simp only [cont] at ways
        rcases ways with h | h | h | h | h
        all_goals first | omega | exact h.2.2.2.2
      · intro j hj hc
        have hj' : j = 0 := by omega
        simp only [cont] at ways hc
        rcases hj' with rfl <;> simp only [Nat.zero_add, Nat.reduceAdd] at hc <;> rcases ways with h | h | h | h | h
        all_goals first | omega | exact h.2.2.2.2
      · intro q1 q2 q3
        have r0 : cont (zs.getD 1 0) := q2 0 (by omega)
        rw [ea] at q3
        have q4 := fun h => q3 ((usz_ways _).2.1.2 h)
        simp only [cont] at ways r0
        rcases ways with h | h | h | h | h
        all_goals first | exact h.2.2.2.2 | (exact absurd (by omega) q4) | omega
    by_cases k3 : c0 < 240
    · have ea : uacc (c0 - 224) zs (3 - 1) = ((c0 - 224) * 64 + (zs.getD 1 0 - 128)) * 64 + (zs.getD 2 0 - 128) := rfl
      refine prune_go (s := 3) (c0 := c0) (x := c0 - 224) (hd := 224) hlen hp b0 b1 hc0 (hT.size c0 b0 b1 3 (by omega)) (hT.2 3 (by omega)) (by omega) (by omega) (by omega) (by omega) (by omega) hcell hz ?_ ?_ ?_ ?_
      · intro q1 q2 q3
        have r0 : cont (zs.getD 1 0) := q2 0 (by omega); have r1 : cont (zs.getD 2 0) := q2 1 (by omega)
        rw [ea] at q3 ⊢
        have q4 := (usz_ways _).2.2.1.1 q3
        simp only [cont] at ways r0 r1
        rcases ways with h | h | h | h | h
        all_goals first | omega | (rw [h.2.2.2]; congr 1; omega)
      · intro q1
        simp only [cont] at ways
        rcases ways with h | h | h | h | h
        all_goals first | omega | exact h.2.2.2.2
      · intro j hj hc
        have hj' : j = 0 ∨ j = 1 := by omega
        simp only [cont] at ways hc
        rcases hj' with rfl | rfl <;> simp only [Nat.zero_add, Nat.reduceAdd] at hc <;> rcases ways with h | h | h | h | h
        all_goals first | omega | exact h.2.2.2.2
      · intro q1 q2 q3
        have r0 : cont (zs.getD 1 0) := q2 0 (by omega); have r1 : cont (zs.getD 2 0) := q2 1 (by omega)
        rw [ea] at q3
        have q4 := fun h => q3 ((usz_ways _).2.2.1.2 h)
        simp only [cont] at ways r0 r1
        rcases ways with h | h | h | h | h
        all_goals first | exact h.2.2.2.2 | (exact absurd (by omega) q4) | omega
    · have ea : uacc (c0 - 240) zs (4 - 1) = (((c0 - 240) * 64 + (zs.getD 1 0 - 128)) * 64 + (zs.getD 2 0 - 128)) * 64 + (zs.getD 3 0 - 128) := rfl
      refine prune_go (s := 4) (c0 := c0) (x := c0 - 240) (hd := 240) hlen hp b0 b1 hc0 (hT.size c0 b0 b1 4 (by omega)) (hT.2 4 (by omega)) (by omega) (by omega) (by omega) (by omega) (by omega) hcell hz ?_ ?_ ?_ ?_
      · intro q1 q2 q3
        have r0 : cont (zs.getD 1 0) := q2 0 (by omega); have r1 : cont (zs.getD 2 0) := q2 1 (by omega); have r2 : cont (zs.getD 3 0) := q2 2 (by omega)
        rw [ea] at q3 ⊢
        have q4 := (usz_ways _).2.2.2.1 q3
        simp only [cont] at ways r0 r1 r2
        rcases ways with h | h | h | h | h
        all_goals first | omega | (rw [h.2.2.2.2]; congr 1; omega)
      · intro q1
        simp only [cont] at ways
        rcases ways with h | h | h | h | h
        all_goals first | omega | exact h.2.2.2.2
      · intro j hj hc
        have hj' : j = 0 ∨ j = 1 ∨ j = 2 := by omega
        simp only [cont] at ways hc
        rcases hj' with rfl | rfl | rfl <;> simp only [Nat.zero_add, Nat.reduceAdd] at hc <;> rcases ways with h | h | h | h | h
        all_goals first | omega | exact h.2.2.2.2
      · intro q1 q2 q3
        have r0 : cont (zs.getD 1 0) := q2 0 (by omega); have r1 : cont (zs.getD 2 0) := q2 1 (by omega); have r2 : cont (zs.getD 3 0) := q2 2 (by omega)
        rw [ea] at q3
        have q4 := fun h => q3 ((usz_ways _).2.2.2.2 h)
        simp only [cont] at ways r0 r1 r2
        rcases ways with h | h | h | h | h
        all_goals first | exact h.2.2.2.2 | (exact absurd (by omega) q4) | omega
  · obtain rfl : len = 0 := by omega
    obtain rfl : zs = [] := List.eq_nil_of_length_eq_zero hl
    rw [urune_nil]
    exact prune_nil.mono fun e w' ⟨h1, h2⟩ => ⟨h1, h2 ▸ Below.refl _ _⟩

end Go.Proofs.YtkomckalcikkoaaDoor
