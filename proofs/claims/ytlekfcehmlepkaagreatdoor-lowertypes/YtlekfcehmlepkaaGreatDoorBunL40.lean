/- Put together by a program out of these texts of mine: XAwk, KPln, XPln. -/
import Derived.Test.YtlekfcehmlepkaaGreatDoorBunL1
import Derived.Test.YtlekfcehmlepkaaGreatDoorBunL5
import Derived.Test.YtlekfcehmlepkaaGreatDoorBunL33
import Derived.Test.YtlekfcehmlepkaaGreatDoorBunL34
import Derived.Test.YtlekfcehmlepkaaGreatDoorBunL39

namespace Go.Proofs.YtlekfcehmlepkaaGreatDoor
open Go.RowKit
set_option linter.unusedVariables false
set_option linter.unusedSimpArgs false

theorem plain_mk {t : Tn} {k : Int} {tx : List Int} {n m a p : Int} {d : List Int} {ks : List Pn} (h : t.plain = .mk k tx n m a p d ks) : ∃ ad c kids, t = .mk k tx n m a p d ad c kids ∧ plains kids = ks := by
  obtain ⟨k', tx', n', m', a', p', d', ad, c, kids⟩ := t
  rw [Tn.plain] at h
  cases h
  exact ⟨ad, c, kids, rfl, rfl⟩

theorem plains_one {ks : List Tn} {x : Pn} (h : plains ks = [x]) : ∃ k, ks = [k] ∧ k.plain = x := by
  cases ks with
  | nil => rw [plains] at h; cases h
  | cons k r =>
    rw [plains] at h
    injection h with h1 h2
    cases r with
    | nil => exact ⟨k, rfl, h1⟩
    | cons k2 r => rw [plains] at h2; cases h2

theorem plains_none {ks : List Tn} (h : plains ks = []) : ks = [] := by
  cases ks with
  | nil => rfl
  | cons k r => rw [plains] at h; cases h

theorem tree_a {t : Tn} (h : t.plain = .mk 1 [] 0 0 0 0 [] [.mk 5 [65] 0 0 0 0 [] [.mk 9 [98] 1 0 1 12 [] [.mk 18 [105, 110, 116, 51, 50] 0 0 0 21 [] []]]]) : ∃ ad c ad2 c2 ad3 c3 ad4 c4, t = tA ad c (tM ad2 c2 (tF ad3 c3 (tT ad4 c4))) := by
  obtain ⟨ad, c, k1, rfl, h1⟩ := plain_mk h
  obtain ⟨t1, rfl, g1⟩ := plains_one h1
  obtain ⟨ad2, c2, k2, rfl, h2⟩ := plain_mk g1
  obtain ⟨t2, rfl, g2⟩ := plains_one h2
  obtain ⟨ad3, c3, k3, rfl, h3⟩ := plain_mk g2
  obtain ⟨t3, rfl, g3⟩ := plains_one h3
  obtain ⟨ad4, c4, k4, rfl, h4⟩ := plain_mk g3
  obtain rfl := plains_none h4
  exact ⟨ad, c, ad2, c2, ad3, c3, ad4, c4, rfl⟩

theorem srcA_bd : Hid (∀ i, 0 ≤ srcA.getD i 0 ∧ srcA.getD i 0 ≤ 255) := fun i => by
  rcases Nat.lt_or_ge i 35 with h | h
  · exact (show ∀ i, i < 35 → 0 ≤ srcA.getD i 0 ∧ srcA.getD i 0 ≤ 255 by decide) i h
  · rw [List.getD_eq_getElem?_getD, List.getElem?_eq_none h]
    decide

set_option maxRecDepth 20000 in
set_option maxHeartbeats 4000000 in
theorem lawake_any (W : World) (hT : Hid (LoTab W)) : Calls Tryz.prog 6 #[] W fun e W' => e = .returned (.bool true) ∧ Below W.heap.size W W' := by
  have QR : Hid _ := rgfile_any0 srcA sim_a W srcA_bd (by decide)
  rw [gfile_a] at QR
  rw [show strOfNums srcA = { data := #[109, 101, 115, 115, 97, 103, 101, 32, 65, 32, 123, 32, 111, 112, 116, 105, 111, 110, 97, 108, 32, 105, 110, 116, 51, 50, 32, 98, 32, 61, 32, 49, 59, 32, 125] } from by kernel_rfl] at QR
  have HT : Hid (LoTab W) := hT
  go_enter Tryz.func6, Tryz.ntmps6
  go_wp2_with fail
  refine Calls.mono QR.out ?_
  rintro e w1 ⟨t, rfl, htp, htk, _, hb1⟩
  obtain ⟨ad, c, ad2, c2, ad3, c3, ad4, c4, rfl⟩ := tree_a htp
  have HB1 : Hid (Below W.heap.size W w1) := hb1
  have QF : Hid _ := fun V (hV : Below w1.heap.size w1 V) => pFile_a htk V (show Hid _ from HT.out.below (hb1.trans (hV.mono hb1.size)) (Nat.le_refl _)) hV
  clear htp htk hb1 QR
  unfold tA Tn.val Tn.cells at QF ⊢
  simp only [List.length_cons, List.length_nil, Nat.zero_add, gA] at QF ⊢
  rw [show strOfNums [120] = { data := #[120] } from by kernel_rfl] at QF
  obtain ⟨D, HD⟩ : ∃ D, Hid (D = strOfNums []) := ⟨_, rfl⟩
  simp only [← HD.out] at QF ⊢
  obtain ⟨w2, hw2⟩ : ∃ w2, w2 = w1.alloc (.cells #[.int .i64 1, .string D, .int .i64 0, .int .i64 0, .int .i64 0, .int .i64 0, .string D, .slice ad 1 c] 28) := ⟨_, rfl⟩
  have o0 : Hid (Ob w2 w1.heap.size #[.int .i64 1, .string D, .int .i64 0, .int .i64 0, .int .i64 0, .int .i64 0, .string D, .slice ad 1 c] 28) := by rw [hw2]; exact Ob.new _ _ _
  have hb2 : Below w1.heap.size w1 w2 := by rw [hw2]; exact (Below.refl _ _).alloc (Nat.le_refl _) _
  have HB2 : Hid (Below W.heap.size W w2) := HB1.out.trans (hb2.mono HB1.out.size)
  have Q2 : Hid _ := QF.out w2 hb2
  clear QF hb2
  go_upto_region 2 with fail
  rw [← hw2]
  clear hw2
  obtain ⟨⟨a0, a1, a2, a3, a4, a5, a6, a7⟩, _, al⟩ := ob8 o0.out
  go_wp2_with fail
  refine Calls.mono Q2.out ?_
  rintro e w3 ⟨mb, mc, fb, fc, rfl, hb3, x1, x2, x3, x4⟩
  have HB3 : Hid (Below W.heap.size W w3) := HB2.out.trans (hb3.mono HB2.out.size)
  clear a0 a1 a2 a3 a4 a5 a6 a7 al o0 Q2 hb3 HB2 HB1
  obtain ⟨w4, hw4⟩ : ∃ w4, w4 = w3.alloc (.cells #[.string ⟨#[120]⟩, .string ⟨#[]⟩, .slice none 0 0, .slice none 0 0, .slice (some ⟨mb, 0, none⟩) 1 mc, .slice none 0 0, .slice none 0 0, .slice none 0 0, .string ⟨#[]⟩, .slice none 0 0, .slice none 0 0] 43) := ⟨_, rfl⟩
  have o1 : Hid (Ob w4 w3.heap.size #[.string ⟨#[120]⟩, .string ⟨#[]⟩, .slice none 0 0, .slice none 0 0, .slice (some ⟨mb, 0, none⟩) 1 mc, .slice none 0 0, .slice none 0 0, .slice none 0 0, .string ⟨#[]⟩, .slice none 0 0, .slice none 0 0] 43) := by rw [hw4]; exact Ob.new _ _ _
  have hb4 : Below w3.heap.size w3 w4 := by rw [hw4]; exact (Below.refl _ _).alloc (Nat.le_refl _) _
  have HB4 : Hid (Below W.heap.size W w4) := HB3.out.trans (hb4.mono HB3.out.size)
  have m1 : w4.cell? ⟨mb, 1, none⟩ = some (.slice (some ⟨fb, 0, none⟩) 1 fc) := (hb4.cell x1).trans (x3 1 _ rfl)
  have f3 : w4.cell? ⟨fb, 3, none⟩ = some (.int .i64 5) := (hb4.cell x2).trans (x4 3 _ rfl)
  have f9 : w4.cell? ⟨fb, 9, none⟩ = some (.string ⟨#[98]⟩) := (hb4.cell x2).trans (x4 9 _ rfl)
  have l1 : mb < w4.heap.size := Nat.lt_of_lt_of_le x1 hb4.size
  have l2 : fb < w4.heap.size := Nat.lt_of_lt_of_le x2 hb4.size
  have c0 := o1.out.cell 0 rfl
  have c4 := o1.out.cell 4 rfl
  have cl := o1.out.lt
  clear hb4 x1 x2 x3 x4 o1 HB3
  go_upto_region 3 with fail
  rw [← hw4]
  clear hw4
  go_wp2
  go_ret
  exact ⟨rfl, HB4.out⟩

def nplain (t : Int) : List Int := if 0 ≤ t ∧ t < 19 then nwords.getD t.toNat [] else []

set_option maxRecDepth 10000 in
set_option maxHeartbeats 2000000 in
theorem rplain_any (t : Int) (w : World) (hb : -9223372036854775808 ≤ t ∧ t ≤ 9223372036854775807) :
    Calls Tryz.prog 10 #[.int .i64 t] w fun e w' => e = .returned (.string (strOfNums (nplain t))) ∧ Below w.heap.size w w' := by
  have HC : Hid (∀ k z, nwords[k]? = some z → (w.alloc (.cells #[.string { data := #[] }, .string { data := #[100, 111, 117, 98, 108, 101] }, .string { data := #[102, 108, 111, 97, 116] }, .string { data := #[105, 110, 116, 54, 52] }, .string { data := #[117, 105, 110, 116, 54, 52] }, .string { data := #[105, 110, 116, 51, 50] }, .string { data := #[102, 105, 120, 101, 100, 54, 52] }, .string { data := #[102, 105, 120, 101, 100, 51, 50] }, .string { data := #[98, 111, 111, 108] }, .string { data := #[115, 116, 114, 105, 110, 103] }, .string { data := #[] }, .string { data := #[] }, .string { data := #[98, 121, 116, 101, 115] }, .string { data := #[117, 105, 110, 116, 51, 50] }, .string { data := #[] }, .string { data := #[115, 102, 105, 120, 101, 100, 51, 50] }, .string { data := #[115, 102, 105, 120, 101, 100, 54, 52] }, .string { data := #[115, 105, 110, 116, 51, 50] }, .string { data := #[115, 105, 110, 116, 54, 52] }] 9)).cell? ⟨w.heap.size, k, none⟩ = some (.string (strOfNums z))) := fun k z hz => lit_cell w _ nwords rfl k z hz
  have HBl : Hid (Below w.heap.size w (w.alloc (.cells #[.string { data := #[] }, .string { data := #[100, 111, 117, 98, 108, 101] }, .string { data := #[102, 108, 111, 97, 116] }, .string { data := #[105, 110, 116, 54, 52] }, .string { data := #[117, 105, 110, 116, 54, 52] }, .string { data := #[105, 110, 116, 51, 50] }, .string { data := #[102, 105, 120, 101, 100, 54, 52] }, .string { data := #[102, 105, 120, 101, 100, 51, 50] }, .string { data := #[98, 111, 111, 108] }, .string { data := #[115, 116, 114, 105, 110, 103] }, .string { data := #[] }, .string { data := #[] }, .string { data := #[98, 121, 116, 101, 115] }, .string { data := #[117, 105, 110, 116, 51, 50] }, .string { data := #[] }, .string { data := #[115, 102, 105, 120, 101, 100, 51, 50] }, .string { data := #[115, 102, 105, 120, 101, 100, 54, 52] }, .string { data := #[115, 105, 110, 116, 51, 50] }, .string { data := #[115, 105, 110, 116, 54, 52] }] 9))) := (Below.refl _ _).alloc (Nat.le_refl _) _
  obtain ⟨h1, h2⟩ := hb
  unfold nplain
  by_cases hn : t < 0
  · rw [if_neg (by omega)]
    have e0 : (strOfNums []) = ⟨#[]⟩ := rfl
    rw [e0]
    clear HC
    go_enter Tryz.func10, Tryz.ntmps10
    go_wp2
    go_ret
    exact ⟨rfl, HBl.out⟩
  · by_cases hm : t < 19
    · rw [if_pos (by omega)]
      have hk : t.toNat < nwords.length := by show _ < 19; omega
      obtain ⟨z, hz⟩ : ∃ z, nwords[t.toNat]? = some z := ⟨nwords[t.toNat], List.getElem?_eq_getElem hk⟩
      have hc := HC.out t.toNat z hz
      rw [List.getD_eq_getElem?_getD, hz, Option.getD_some]
      have g1 : 0 ≤ t := by omega
      have g2 : ¬ t ≥ 19 := by omega
      clear HC hz hk hn
      go_enter Tryz.func10, Tryz.ntmps10
      go_wp2
      go_ret
      exact ⟨rfl, HBl.out⟩
    · rw [if_neg (by omega)]
      have e0 : (strOfNums []) = ⟨#[]⟩ := rfl
      rw [e0]
      have g1 : t ≥ 19 := by omega
      clear HC
      go_enter Tryz.func10, Tryz.ntmps10
      go_wp2
      go_ret
      exact ⟨rfl, HBl.out⟩

set_option maxRecDepth 10000 in
set_option maxHeartbeats 2000000 in
theorem xplain_any (t : Int) (W : World) (hT : Hid (LoTab W)) (hb : -9223372036854775808 ≤ t ∧ t ≤ 9223372036854775807) :
    Calls Tryz.prog 7 #[.int .i64 t] W fun e W' => e = .returned (.string (strOfNums (nplain t))) ∧ W = W' := by
  have HC : Hid (∀ i z, nwords[i]? = some z → W.cell? ⟨0, i, none⟩ = some (.string (strOfNums z))) := fun i z hz => by
    obtain ⟨ty, fr, h⟩ := hT.out.2
    simp [World.cell?, h, pwVal, hz]
  have HL : Hid (0 < W.heap.size) := by
    obtain ⟨ty, fr, h⟩ := hT.out.2
    exact (Array.getElem?_eq_some_iff.1 h).1
  obtain ⟨h1, h2⟩ := hb
  unfold nplain
  have e0 : (strOfNums []) = ⟨#[]⟩ := rfl
  by_cases hn : t < 0
  · rw [if_neg (by omega), e0]
    go_enter Tryz.func7, Tryz.ntmps7
    go_wp2
    go_ret
    exact ⟨rfl, rfl⟩
  · by_cases hm : t < 19
    · rw [if_pos (by omega)]
      obtain ⟨k, rfl⟩ : ∃ k : Nat, t = (k : Int) := ⟨t.toNat, by omega⟩
      have hk : k < nwords.length := by show _ < 19; omega
      obtain ⟨z, hz⟩ : ∃ z, nwords[k]? = some z := ⟨nwords[k], List.getElem?_eq_getElem hk⟩
      have hc := HC.out k z hz
      have hl := HL.out
      rw [Int.toNat_natCast, List.getD_eq_getElem?_getD, hz, Option.getD_some]
      have g1 : ¬ ((k : Int) < 0) := by omega
      have g2 : ¬ ((k : Int) ≥ 19) := by omega
      have g3 : k < 19 := hk
      generalize strOfNums z = Z at hc
      clear hz hn hm hk
      go_enter Tryz.func7, Tryz.ntmps7
      go_wp2
      go_ret
      exact ⟨rfl, rfl⟩
    · rw [if_neg (by omega), e0]
      have g1 : t ≥ 19 := by omega
      go_enter Tryz.func7, Tryz.ntmps7
      go_wp2
      go_ret
      exact ⟨rfl, rfl⟩

theorem nplain_back (t : Int) (h : nplain t ≠ []) : (nword (nplain t) : Int) = t := by
  unfold nplain at h ⊢
  split at h
  · rename_i ht
    rw [if_pos ht]
    obtain ⟨k, rfl⟩ : ∃ k : Nat, t = (k : Int) := ⟨t.toNat, by omega⟩
    rw [Int.toNat_natCast] at h ⊢
    have hk : k < 19 := by omega
    have := (show ∀ k, k < 19 → nwords.getD k [] ≠ [] → nword (nwords.getD k []) = k by decide) k hk h
    rw [this]
  · exact absurd rfl h

theorem nplain_bd (t : Int) : byts (nplain t) := by
  unfold nplain
  split
  · rw [List.getD_eq_getElem?_getD]
    cases hz : nwords[t.toNat]? with
    | none => intro c hc; simp at hc
    | some z => exact nwords_bd z (List.mem_of_getElem? hz)
  · intro c hc; simp at hc

end Go.Proofs.YtlekfcehmlepkaaGreatDoor
