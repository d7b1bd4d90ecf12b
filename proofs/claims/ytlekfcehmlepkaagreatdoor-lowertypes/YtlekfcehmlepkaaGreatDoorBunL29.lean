/- Put together by a program out of these texts of mine: STk, STk2, STk3. -/
import Derived.Test.YtlekfcehmlepkaaGreatDoorBunL28

namespace Go.Proofs.YtlekfcehmlepkaaGreatDoor
open Go.RowKit
set_option linter.unusedVariables false
set_option linter.unusedSimpArgs false

noncomputable def tkbody : Code := Tryz.f23.body.getD .skip

noncomputable def tkX : Code := pR (pR (pR (pR (pR tkbody))))

noncomputable def tkloop : Code := pIn (pL (pR (pR tkX)))

noncomputable def tkend : Code := pR (pR (pR tkX))

noncomputable def tkhead : Code := pL (pIn tkloop)

noncomputable def tkB : Code := pIn (pR (pIn tkloop))

noncomputable def tkc15 : Code := pL tkB

noncomputable def tkc16 : Code := pL (pR tkB)

noncomputable def tkR20 : Code := pR (pR tkB)

def Qn (N : Act → World → Prop) : Exit → Act → World → Prop
  | .normal, a, w => N a w
  | _, _, _ => False

theorem wp_strong {c : Code} {a : Act} {w : World} {N : Act → World → Prop} {Q : Exit → Act → World → Prop} (h : c.wp Tryz.prog (Qn N) a w) (hN : ∀ a w, N a w → Q .normal a w) : c.wp Tryz.prog Q a w := fun b k cs => by
  obtain ⟨e, a', w', q, r⟩ := h b k cs
  refine ⟨e, a', w', ?_, r⟩
  cases e with
  | normal => exact hN a' w' q
  | _ => exact q.elim

theorem tkloop_eq : tkloop = .loop (.seq tkhead (.block 1 (.seq tkc15 (.seq tkc16 tkR20)))) := rfl

set_option maxRecDepth 100000 in
def RT (g rb nb : Nat) (a : Option Addr) (len cap : Nat) (pk : Int) (us : Nat → Value) : Act := { tmps := List.toArray (.slice a len cap :: us 1 :: .pointer (some ⟨rb, 0, none⟩) :: .int .i64 0 :: .int .i64 0 :: .pointer (some ⟨g, 0, none⟩) :: .pointer (some ⟨nb, 0, none⟩) :: us 7 :: .int .i64 pk :: us 9 :: us 10 :: us 11 :: us 12 :: us 13 :: us 14 :: us 15 :: us 16 :: us 17 :: us 18 :: us 19 :: us 20 :: us 21 :: us 22 :: us 23 :: us 24 :: us 25 :: us 26 :: us 27 :: us 28 :: us 29 :: us 30 :: us 31 :: us 32 :: us 33 :: us 34 :: us 35 :: us 36 :: us 37 :: us 38 :: us 39 :: us 40 :: us 41 :: us 42 :: us 43 :: us 44 :: us 45 :: us 46 :: us 47 :: us 48 :: us 49 :: us 50 :: us 51 :: us 52 :: us 53 :: us 54 :: us 55 :: us 56 :: us 57 :: us 58 :: us 59 :: us 60 :: us 61 :: us 62 :: us 63 :: us 64 :: us 65 :: us 66 :: us 67 :: us 68 :: us 69 :: us 70 :: us 71 :: us 72 :: us 73 :: us 74 :: us 75 :: us 76 :: us 77 :: us 78 :: us 79 :: us 80 :: us 81 :: us 82 :: us 83 :: us 84 :: us 85 :: us 86 :: us 87 :: us 88 :: us 89 :: us 90 :: us 91 :: us 92 :: us 93 :: us 94 :: us 95 :: us 96 :: us 97 :: us 98 :: us 99 :: us 100 :: us 101 :: us 102 :: []), defers := [] }

theorem RT.mk {g rb nb : Nat} {a : Option Addr} {len cap : Nat} {pk : Int} {a' : Act} (us : Nat → Value) (_hu : us = fun k => a'.tmps.getD k undef) (h : a' = RT g rb nb a len cap pk us) : ∃ us, a' = RT g rb nb a len cap pk us := ⟨us, h⟩

set_option maxRecDepth 100000 in
set_option maxHeartbeats 4000000 in
theorem tkh_err {w : World} {g : Nat} {a : Option Addr} {len cap : Nat} {ts : List Tq} {W : World} {s : Gs} {rb nb : Nat} {va : Option Addr} {vn vc : Nat} {ks : List Tn} {np : Int} {X : ByteArray} {pk : Int} (us : Nat → Value) (S0 : Hid (Sx w g a len cap ts w.heap.size (.slice none 0 0) [] W (s) [(nb, #[.int .i64 1, .string X, .int .i64 0, .int .i64 0, .int .i64 0, .int .i64 np, .string { data := #[] }, .slice va vn vc])] (.slice va vn vc) ks [])) (hd : ¬ s.e = 0) :
    ∀ Q : Exit → Act → World → Prop, (∀ a' W', Sx w g a len cap ts w.heap.size (.slice none 0 0) [] W' (s) [(nb, #[.int .i64 1, .string X, .int .i64 0, .int .i64 0, .int .i64 0, .int .i64 np, .string { data := #[] }, .slice va vn vc])] (.slice va vn vc) ks [] → (∃ us, a' = RT g rb nb a len cap (pk) us) → Q (.exit 0) a' W') → tkhead.wp Tryz.prog Q (RT g rb nb a len cap (pk) us) W := by
  intro Q hN
  have HN : Hid _ := hN
  clear hN
  obtain ⟨c0, c1, c2, c3, c4, c5⟩ := S0.out.gm.blk.cells
  have hgz := S0.out.gm.blk.size
  have e1 : (s.e == 0) = false := by simpa using hd
  unfold RT
  conv => arg 2; whnf
  go_wp2
  exact HN.out _ _ S0.out (RT.mk _ rfl rfl)

set_option maxRecDepth 100000 in
set_option maxHeartbeats 4000000 in
theorem tkh_end {w : World} {g : Nat} {a : Option Addr} {len cap : Nat} {ts : List Tq} {W : World} {s : Gs} {rb nb : Nat} {va : Option Addr} {vn vc : Nat} {ks : List Tn} {np : Int} {X : ByteArray} {pk : Int} (us : Nat → Value) (S0 : Hid (Sx w g a len cap ts w.heap.size (.slice none 0 0) [] W (s) [(nb, #[.int .i64 1, .string X, .int .i64 0, .int .i64 0, .int .i64 0, .int .i64 np, .string { data := #[] }, .slice va vn vc])] (.slice va vn vc) ks [])) (hd : s.e = 0 ∧ (gnow ts s).kind = 0) :
    ∀ Q : Exit → Act → World → Prop, (∀ a' W', Sx w g a len cap ts w.heap.size (.slice none 0 0) [] W' (s) [(nb, #[.int .i64 1, .string X, .int .i64 0, .int .i64 0, .int .i64 0, .int .i64 np, .string { data := #[] }, .slice va vn vc])] (.slice va vn vc) ks [] → (∃ us, a' = RT g rb nb a len cap (pk) us) → Q (.exit 0) a' W') → tkhead.wp Tryz.prog Q (RT g rb nb a len cap (pk) us) W := by
  intro Q hN
  have HN : Hid _ := hN
  clear hN
  obtain ⟨c0, c1, c2, c3, c4, c5⟩ := S0.out.gm.blk.cells
  have hgz := S0.out.gm.blk.size
  have e0 := hd.1
  rw [e0] at c4
  have HQn : Hid (∀ V, Gm V g a len cap ts s → Calls Tryz.prog 38 #[.pointer (some ⟨g, 0, none⟩)] V fun e w' => e = .returned (gnow ts s).val ∧ Below V.heap.size V w') := fun V hV => rgnow_any (show Hid (Gm V g a len cap ts s) from hV)
  obtain ⟨q, hq⟩ : ∃ q, q = gnow ts s := ⟨_, rfl⟩
  rw [← hq] at HQn hd
  clear hq
  obtain ⟨kind, text, n, pos, doc⟩ := q
  change Hid (∀ V, Gm V g a len cap ts s → Calls Tryz.prog 38 #[.pointer (some ⟨g, 0, none⟩)] V fun e w' => e = .returned (.agg #[.int .i64 kind, .string (strOfNums text), .int .u64 n, .int .i64 pos, .string (strOfNums doc)]) ∧ Below V.heap.size V w') at HQn
  simp only at hd
  have l0 := fun W => tq_fld0 (.int .i64 kind) (.string (strOfNums text)) (.int .u64 n) (.int .i64 pos) (.string (strOfNums doc)) W
  generalize strOfNums text = T1 at *
  generalize strOfNums doc = T2 at *
  have e4 : (kind != 0) = false := by simpa using hd.2
  clear hd e0
  unfold RT
  conv => arg 2; whnf
  have Qa : Hid _ := HQn.out _ S0.out.gm
  go_wp2_with fail
  refine Calls.mono Qa.out ?_
  rintro e w1 ⟨rfl, hbw1⟩
  have S1 : Hid (Sx w g a len cap ts w.heap.size (.slice none 0 0) [] w1 (s) [(nb, #[.int .i64 1, .string X, .int .i64 0, .int .i64 0, .int .i64 0, .int .i64 np, .string { data := #[] }, .slice va vn vc])] (.slice va vn vc) ks []) := S0.out.below hbw1
  clear hbw1 Qa
  go_wp2
  exact HN.out _ _ S1.out (RT.mk _ rfl rfl)

set_option maxRecDepth 100000 in
set_option maxHeartbeats 4000000 in
theorem tkh_on {w : World} {g : Nat} {a : Option Addr} {len cap : Nat} {ts : List Tq} {W : World} {s : Gs} {rb nb : Nat} {va : Option Addr} {vn vc : Nat} {ks : List Tn} {np : Int} {X : ByteArray} {pk : Int} (us : Nat → Value) (S0 : Hid (Sx w g a len cap ts w.heap.size (.slice none 0 0) [] W (s) [(nb, #[.int .i64 1, .string X, .int .i64 0, .int .i64 0, .int .i64 0, .int .i64 np, .string { data := #[] }, .slice va vn vc])] (.slice va vn vc) ks [])) (hd : s.e = 0 ∧ ¬ (gnow ts s).kind = 0) :
    ∀ Q : Exit → Act → World → Prop, (∀ a' W', Sx w g a len cap ts w.heap.size (.slice none 0 0) [] W' (s) [(nb, #[.int .i64 1, .string X, .int .i64 0, .int .i64 0, .int .i64 0, .int .i64 np, .string { data := #[] }, .slice va vn vc])] (.slice va vn vc) ks [] → (∃ us, a' = RT g rb nb a len cap (pk) us) → Q .normal a' W') → tkhead.wp Tryz.prog Q (RT g rb nb a len cap (pk) us) W := by
  intro Q hN
  have HN : Hid _ := hN
  clear hN
  obtain ⟨c0, c1, c2, c3, c4, c5⟩ := S0.out.gm.blk.cells
  have hgz := S0.out.gm.blk.size
  have e0 := hd.1
  rw [e0] at c4
  have HQn : Hid (∀ V, Gm V g a len cap ts s → Calls Tryz.prog 38 #[.pointer (some ⟨g, 0, none⟩)] V fun e w' => e = .returned (gnow ts s).val ∧ Below V.heap.size V w') := fun V hV => rgnow_any (show Hid (Gm V g a len cap ts s) from hV)
  obtain ⟨q, hq⟩ : ∃ q, q = gnow ts s := ⟨_, rfl⟩
  rw [← hq] at HQn hd
  clear hq
  obtain ⟨kind, text, n, pos, doc⟩ := q
  change Hid (∀ V, Gm V g a len cap ts s → Calls Tryz.prog 38 #[.pointer (some ⟨g, 0, none⟩)] V fun e w' => e = .returned (.agg #[.int .i64 kind, .string (strOfNums text), .int .u64 n, .int .i64 pos, .string (strOfNums doc)]) ∧ Below V.heap.size V w') at HQn
  simp only at hd
  have l0 := fun W => tq_fld0 (.int .i64 kind) (.string (strOfNums text)) (.int .u64 n) (.int .i64 pos) (.string (strOfNums doc)) W
  generalize strOfNums text = T1 at *
  generalize strOfNums doc = T2 at *
  have e4 : (kind != 0) = true := by simpa using hd.2
  clear hd e0
  unfold RT
  conv => arg 2; whnf
  have Qa : Hid _ := HQn.out _ S0.out.gm
  go_wp2_with fail
  refine Calls.mono Qa.out ?_
  rintro e w1 ⟨rfl, hbw1⟩
  have S1 : Hid (Sx w g a len cap ts w.heap.size (.slice none 0 0) [] w1 (s) [(nb, #[.int .i64 1, .string X, .int .i64 0, .int .i64 0, .int .i64 0, .int .i64 np, .string { data := #[] }, .slice va vn vc])] (.slice va vn vc) ks []) := S0.out.below hbw1
  clear hbw1 Qa
  go_wp2
  exact HN.out _ _ S1.out (RT.mk _ rfl rfl)

set_option maxRecDepth 100000 in
set_option maxHeartbeats 4000000 in
theorem tk15_true {w : World} {g : Nat} {a : Option Addr} {len cap : Nat} {ts : List Tq} {W : World} {s : Gs} {rb nb : Nat} {va : Option Addr} {vn vc : Nat} {ks : List Tn} {np : Int} {X : ByteArray} {pk : Int} (us : Nat → Value) (S0 : Hid (Sx w g a len cap ts w.heap.size (.slice none 0 0) [] W (s) [(nb, #[.int .i64 1, .string X, .int .i64 0, .int .i64 0, .int .i64 0, .int .i64 np, .string { data := #[] }, .slice va vn vc])] (.slice va vn vc) ks [])) (hd : gis ts [59] s = true) :
    ∀ Q : Exit → Act → World → Prop, (∀ a' W', Sx w g a len cap ts w.heap.size (.slice none 0 0) [] W' (gnext ts s) [(nb, #[.int .i64 1, .string X, .int .i64 0, .int .i64 0, .int .i64 0, .int .i64 np, .string { data := #[] }, .slice va vn vc])] (.slice va vn vc) ks [] → (∃ us, a' = RT g rb nb a len cap (pk) us) → Q (.exit 1) a' W') → tkc15.wp Tryz.prog Q (RT g rb nb a len cap (pk) us) W := by
  intro Q hN
  have HN : Hid _ := hN
  clear hN
  have Q0 : Hid _ := rgsign_any (show Hid (Gm W g a len cap ts (s)) from S0.out.gm) [59] b59
  rw [hd, gsign_on _ _ _ hd] at Q0
  unfold RT
  conv => arg 2; whnf
  go_wp2_with fail
  refine Calls.mono Q0.out ?_
  rintro e w1 ⟨rfl, hgw1, Hw1⟩
  have S1 : Hid (Sx w g a len cap ts w.heap.size (.slice none 0 0) [] w1 (gnext ts s) [(nb, #[.int .i64 1, .string X, .int .i64 0, .int .i64 0, .int .i64 0, .int .i64 np, .string { data := #[] }, .slice va vn vc])] (.slice va vn vc) ks []) := S0.out.call hgw1 Hw1
  clear hgw1 Hw1 Q0
  go_wp2
  exact HN.out _ _ S1.out (RT.mk _ rfl rfl)

set_option maxRecDepth 100000 in
set_option maxHeartbeats 4000000 in
theorem tk15_false {w : World} {g : Nat} {a : Option Addr} {len cap : Nat} {ts : List Tq} {W : World} {s : Gs} {rb nb : Nat} {va : Option Addr} {vn vc : Nat} {ks : List Tn} {np : Int} {X : ByteArray} {pk : Int} (us : Nat → Value) (S0 : Hid (Sx w g a len cap ts w.heap.size (.slice none 0 0) [] W (s) [(nb, #[.int .i64 1, .string X, .int .i64 0, .int .i64 0, .int .i64 0, .int .i64 np, .string { data := #[] }, .slice va vn vc])] (.slice va vn vc) ks [])) (hd : gis ts [59] s = false) :
    ∀ Q : Exit → Act → World → Prop, (∀ a' W', Sx w g a len cap ts w.heap.size (.slice none 0 0) [] W' (s) [(nb, #[.int .i64 1, .string X, .int .i64 0, .int .i64 0, .int .i64 0, .int .i64 np, .string { data := #[] }, .slice va vn vc])] (.slice va vn vc) ks [] → (∃ us, a' = RT g rb nb a len cap (pk) us) → Q .normal a' W') → tkc15.wp Tryz.prog Q (RT g rb nb a len cap (pk) us) W := by
  intro Q hN
  have HN : Hid _ := hN
  clear hN
  have Q0 : Hid _ := rgsign_any (show Hid (Gm W g a len cap ts (s)) from S0.out.gm) [59] b59
  rw [hd, gsign_off _ _ _ hd] at Q0
  unfold RT
  conv => arg 2; whnf
  go_wp2_with fail
  refine Calls.mono Q0.out ?_
  rintro e w1 ⟨rfl, hgw1, Hw1⟩
  have S1 : Hid (Sx w g a len cap ts w.heap.size (.slice none 0 0) [] w1 (s) [(nb, #[.int .i64 1, .string X, .int .i64 0, .int .i64 0, .int .i64 0, .int .i64 np, .string { data := #[] }, .slice va vn vc])] (.slice va vn vc) ks []) := S0.out.call hgw1 Hw1
  clear hgw1 Hw1 Q0
  go_wp2
  exact HN.out _ _ S1.out (RT.mk _ rfl rfl)

set_option maxRecDepth 100000 in
set_option maxHeartbeats 4000000 in
theorem tk16_no {w : World} {g : Nat} {a : Option Addr} {len cap : Nat} {ts : List Tq} {W : World} {s : Gs} {rb nb : Nat} {va : Option Addr} {vn vc : Nat} {ks : List Tn} {np : Int} {X : ByteArray} {pk : Int} (us : Nat → Value) (S0 : Hid (Sx w g a len cap ts w.heap.size (.slice none 0 0) [] W (s) [(nb, #[.int .i64 1, .string X, .int .i64 0, .int .i64 0, .int .i64 0, .int .i64 np, .string { data := #[] }, .slice va vn vc])] (.slice va vn vc) ks [])) (hd : gisw ts [112, 97, 99, 107, 97, 103, 101] s = false) :
    ∀ Q : Exit → Act → World → Prop, (∀ a' W', Sx w g a len cap ts w.heap.size (.slice none 0 0) [] W' (s) [(nb, #[.int .i64 1, .string X, .int .i64 0, .int .i64 0, .int .i64 0, .int .i64 np, .string { data := #[] }, .slice va vn vc])] (.slice va vn vc) ks [] → (∃ us, a' = RT g rb nb a len cap (pk) us) → Q .normal a' W') → tkc16.wp Tryz.prog Q (RT g rb nb a len cap (pk) us) W := by
  intro Q hN
  have HN : Hid _ := hN
  clear hN
  have Q0 : Hid _ := rgisWord_any (show Hid (Gm W g a len cap ts (s)) from S0.out.gm) [112, 97, 99, 107, 97, 103, 101] (show byts _ by unfold byts; decide)
  rw [hd] at Q0
  unfold RT
  conv => arg 2; whnf
  go_wp2_with fail
  refine Calls.mono Q0.out ?_
  rintro e w1 ⟨rfl, hbw1⟩
  have S1 : Hid (Sx w g a len cap ts w.heap.size (.slice none 0 0) [] w1 (s) [(nb, #[.int .i64 1, .string X, .int .i64 0, .int .i64 0, .int .i64 0, .int .i64 np, .string { data := #[] }, .slice va vn vc])] (.slice va vn vc) ks []) := S0.out.below hbw1
  clear hbw1 Q0
  go_wp2
  exact HN.out _ _ S1.out (RT.mk _ rfl rfl)

set_option maxRecDepth 100000 in
set_option maxHeartbeats 4000000 in
theorem tk16_one {w : World} {g : Nat} {a : Option Addr} {len cap : Nat} {ts : List Tq} {W : World} {s : Gs} {rb nb : Nat} {va : Option Addr} {vn vc : Nat} {ks : List Tn} {np : Int} {X : ByteArray} {pk : Int} (us : Nat → Value) (S0 : Hid (Sx w g a len cap ts w.heap.size (.slice none 0 0) [] W (s) [(nb, #[.int .i64 1, .string X, .int .i64 0, .int .i64 0, .int .i64 0, .int .i64 np, .string { data := #[] }, .slice va vn vc])] (.slice va vn vc) ks [])) (hd : gisw ts [112, 97, 99, 107, 97, 103, 101] s = true) (hp : pk = 0) :
    ∀ Q : Exit → Act → World → Prop, (∀ a' W', Sx w g a len cap ts w.heap.size (.slice none 0 0) [] W' (s) [(nb, #[.int .i64 1, .string X, .int .i64 0, .int .i64 0, .int .i64 0, .int .i64 np, .string { data := #[] }, .slice va vn vc])] (.slice va vn vc) ks [] → (∃ us, a' = RT g rb nb a len cap (1) us) → Q .normal a' W') → tkc16.wp Tryz.prog Q (RT g rb nb a len cap (pk) us) W := by
  intro Q hN
  have HN : Hid _ := hN
  clear hN
  have Q0 : Hid _ := rgisWord_any (show Hid (Gm W g a len cap ts (s)) from S0.out.gm) [112, 97, 99, 107, 97, 103, 101] (show byts _ by unfold byts; decide)
  rw [hd] at Q0
  subst hp
  unfold RT
  conv => arg 2; whnf
  go_wp2_with fail
  refine Calls.mono Q0.out ?_
  rintro e w1 ⟨rfl, hbw1⟩
  have S1 : Hid (Sx w g a len cap ts w.heap.size (.slice none 0 0) [] w1 (s) [(nb, #[.int .i64 1, .string X, .int .i64 0, .int .i64 0, .int .i64 0, .int .i64 np, .string { data := #[] }, .slice va vn vc])] (.slice va vn vc) ks []) := S0.out.below hbw1
  clear hbw1 Q0
  go_wp2
  exact HN.out _ _ S1.out (RT.mk _ rfl rfl)

set_option maxRecDepth 100000 in
set_option maxHeartbeats 4000000 in
theorem tk16_two {w : World} {g : Nat} {a : Option Addr} {len cap : Nat} {ts : List Tq} {W : World} {s : Gs} {rb nb : Nat} {va : Option Addr} {vn vc : Nat} {ks : List Tn} {np : Int} {X : ByteArray} {pk : Int} (us : Nat → Value) (S0 : Hid (Sx w g a len cap ts w.heap.size (.slice none 0 0) [] W (s) [(nb, #[.int .i64 1, .string X, .int .i64 0, .int .i64 0, .int .i64 0, .int .i64 np, .string { data := #[] }, .slice va vn vc])] (.slice va vn vc) ks [])) (hd : gisw ts [112, 97, 99, 107, 97, 103, 101] s = true) (hp : 1 ≤ pk ∧ pk ≤ 999999) :
    ∀ Q : Exit → Act → World → Prop, (∀ a' W', Sx w g a len cap ts w.heap.size (.slice none 0 0) [] W' (gfail ts 80 s) [(nb, #[.int .i64 1, .string X, .int .i64 0, .int .i64 0, .int .i64 0, .int .i64 np, .string { data := #[] }, .slice va vn vc])] (.slice va vn vc) ks [] → (∃ us, a' = RT g rb nb a len cap (pk + 1) us) → Q .normal a' W') → tkc16.wp Tryz.prog Q (RT g rb nb a len cap (pk) us) W := by
  intro Q hN
  have HN : Hid _ := hN
  clear hN
  have Q0 : Hid _ := rgisWord_any (show Hid (Gm W g a len cap ts (s)) from S0.out.gm) [112, 97, 99, 107, 97, 103, 101] (show byts _ by unfold byts; decide)
  rw [hd] at Q0
  have hw : IntKind.i64.wrap (pk + 1) = pk + 1 := wrap_small (by omega) (by omega)
  have hg1 : decide (1 < pk + 1) = true := by simp; omega
  have hg2 : (1 : Int) < pk + 1 := by omega
  unfold RT
  conv => arg 2; whnf
  go_wp2_with fail
  refine Calls.mono Q0.out ?_
  rintro e w1 ⟨rfl, hbw1⟩
  have S1 : Hid (Sx w g a len cap ts w.heap.size (.slice none 0 0) [] w1 (s) [(nb, #[.int .i64 1, .string X, .int .i64 0, .int .i64 0, .int .i64 0, .int .i64 np, .string { data := #[] }, .slice va vn vc])] (.slice va vn vc) ks []) := S0.out.below hbw1
  clear hbw1 Q0
  have Q1 : Hid _ := rgfail_any (show Hid (Gm w1 g a len cap ts (s)) from S1.out.gm) 80 (by decide) (by decide)
  go_wp2_with fail
  refine Calls.mono Q1.out ?_
  rintro e w2 ⟨rfl, hgw2, Hw2⟩
  have S2 : Hid (Sx w g a len cap ts w.heap.size (.slice none 0 0) [] w2 (gfail ts 80 s) [(nb, #[.int .i64 1, .string X, .int .i64 0, .int .i64 0, .int .i64 0, .int .i64 np, .string { data := #[] }, .slice va vn vc])] (.slice va vn vc) ks []) := S1.out.call hgw2 Hw2
  clear hgw2 Hw2 Q1
  go_wp2
  exact HN.out _ _ S2.out (RT.mk _ rfl rfl)

set_option maxRecDepth 100000 in
set_option maxHeartbeats 4000000 in
theorem tk200 {w : World} {g : Nat} {a : Option Addr} {len cap : Nat} {ts : List Tq} {W : World} {s : Gs} {rb nb : Nat} {va : Option Addr} {vn vc : Nat} {ks : List Tn} {np : Int} {X : ByteArray} {pk : Int} (HSim : Hid (Sim ts)) (us : Nat → Value) (S0 : Hid (Sx w g a len cap ts w.heap.size (.slice none 0 0) [] W (s) [(nb, #[.int .i64 1, .string X, .int .i64 0, .int .i64 0, .int .i64 0, .int .i64 np, .string { data := #[] }, .slice va vn vc])] (.slice va vn vc) ks [])) (hop : s.op = 0) (hn1 : ks.length + 1 ≤ 2000000) :
    ∀ Q : Exit → Act → World → Prop, (∀ a' W', (∃ t vd vf ve, t.plain = (gitem ts (gbody ts 31) 31 s).1 ∧ Sx w g a len cap ts w.heap.size (.slice none 0 0) [] W' ((gitem ts (gbody ts 31) 31 s).2) [(nb, #[.int .i64 1, .string X, .int .i64 0, .int .i64 0, .int .i64 0, .int .i64 np, .string { data := #[] }, .slice vd vf ve])] (.slice vd vf ve) (ks ++ [t]) [] ∧ ∃ us, a' = RT g rb nb a len cap (pk) us) → Q .normal a' W') → tkR20.wp Tryz.prog Q (RT g rb nb a len cap (pk) us) W := by
  intro Q hN
  refine wp_strong ?_ hN
  clear hN Q
  have hq0 : nb < W.heap.size := S0.out.ltAt 0 nb rfl
  have hg := Nat.lt_of_lt_of_le S0.out.gb S0.out.bw
  have hqg : nb ≠ g := by have := S0.out.geAt 0 nb rfl; omega
  have QI : Hid _ := rgitem_any0 (show Hid (Gm W.drew g a len cap ts s) from (S0.out.drew 1).gm) 31 (by rw [hop]; decide) (rgbody_all0 HSim.out 31 (by decide)) HSim
  obtain ⟨⟨ca00, ca01, ca02, ca03, ca04, ca05, ca06, ca07⟩, cb00, cb01, cb02, cb03, cb04, cb05, cb06, cb07⟩ := eight_cells (S0.out.eight 0 nb rfl)
  unfold RT
  conv => arg 2; whnf
  go_wp2_with fail
  go_region_law (first
    | (go_simp; go_at_call 43; refine Calls.mono QI.out ?_; rintro e w7 hN7; obtain ⟨t, rfl, htp, h7⟩ := (S0.out.drew 1).got hN7; have S7 : Hid (Sx w g a len cap ts w.heap.size (.slice none 0 0) [] w7 ((gitem ts (gbody ts 31) 31 s).2) [(nb, #[.int .i64 1, .string X, .int .i64 0, .int .i64 0, .int .i64 0, .int .i64 np, .string { data := #[] }, .slice va vn vc])] (.slice va vn vc) ks [t]) := h7; have HTP : Hid (t.plain = (gitem ts (gbody ts 31) 31 s).1) := htp; have hz7 : nb < w7.heap.size := S7.out.ltAt 0 nb rfl; clear hN7 h7 htp; obtain ⟨⟨ca00, ca01, ca02, ca03, ca04, ca05, ca06, ca07⟩, cb00, cb01, cb02, cb03, cb04, cb05, cb06, cb07⟩ := eight_cells (S7.out.eight 0 nb rfl); obtain ⟨k2, tx2, n2, m2, a2, p2, dc2, ad2, cap2, ks2⟩ := t; simp only [Tn.val, Tn.cells]; obtain ⟨X2, hX2⟩ : ∃ X2, X2 = strOfNums tx2 := ⟨_, rfl⟩; obtain ⟨D2, hD2⟩ : ∃ D2, D2 = strOfNums dc2 := ⟨_, rfl⟩; rw [← hX2, ← hD2]; have HX2 : Hid (X2 = strOfNums tx2) := hX2; have HD2 : Hid (D2 = strOfNums dc2) := hD2; clear hX2 hD2)
    | (refine Sx.append_step (b := w7.heap.size) (cp := 1) (c := #[.int .i64 k2, .string X2, .int .i64 n2, .int .i64 m2, .int .i64 a2, .int .i64 p2, .string D2, .slice ad2 ks2.length cap2]) (S7.out.alloc _) (by rw [HX2.out, HD2.out]; rfl) (by rfl) (.tmp 76) (.tmp 79) (by rfl) (by rfl) (by rfl) hn1 ?_; intro vd ve w9 h9; have S9 : Hid _ := h9; have hz9 : nb < w9.heap.size := h9.ltAt 0 nb rfl; obtain ⟨⟨ca00, ca01, ca02, ca03, ca04, ca05, ca06, ca07⟩, cb00, cb01, cb02, cb03, cb04, cb05, cb06, cb07⟩ := eight_cells (h9.eight 0 nb rfl); clear h9))
  all_goals
    have S10 := S9.out.set 0 nb _ rfl 7 (.slice vd (ks.length + 1) ve)
    go_wp2
    exact ⟨_, vd, ks.length + 1, ve, HTP.out, S10, RT.mk _ rfl rfl⟩

theorem tkloop_any0 {w : World} {g : Nat} {a : Option Addr} {len cap : Nat} {ts : List Tq} {W : World} {rb nb : Nat} {np : Int} {X : ByteArray} {act : Act} {R : List Pn × Gs} (HSim : Hid (Sim ts)) (HE : Ends ts) (hLb : len ≤ 1000000)
    (hI : (fun (a' : Act) (W' : World) => ∃ (us : Nat → Value) (f : Nat) (s' : Gs) (ks : List Tn) (va : Option Addr) (vn vc pk : Nat), a' = RT g rb nb a len cap ((pk : Nat) : Int) us ∧ Hid (Sx w g a len cap ts w.heap.size (.slice none 0 0) [] W' (s') [(nb, #[.int .i64 1, .string X, .int .i64 0, .int .i64 0, .int .i64 0, .int .i64 np, .string { data := #[] }, .slice va vn vc])] (.slice va vn vc) ks []) ∧ Hid (R = gfilel ts f s' pk (plains ks)) ∧ gmeas2 len s' < f ∧ s'.op = 0 ∧ (s'.e = 0 → ks.length ≤ s'.i) ∧ ks.length ≤ len ∧ (s'.e = 0 → pk ≤ s'.i) ∧ pk ≤ len) act W) (Q : Exit → Act → World → Prop) (hQ : ∀ a' W', (∃ (us : Nat → Value) (ks : List Tn) (va : Option Addr) (vn vc : Nat) (pk : Int), a' = RT g rb nb a len cap pk us ∧ Sx w g a len cap ts w.heap.size (.slice none 0 0) [] W' (R.2) [(nb, #[.int .i64 1, .string X, .int .i64 0, .int .i64 0, .int .i64 0, .int .i64 np, .string { data := #[] }, .slice va vn vc])] (.slice va vn vc) ks [] ∧ R.1 = plains ks) → Q (.exit 0) a' W') : tkloop.wp Tryz.prog Q act W := by
  rw [tkloop_eq]
  refine wp_loop (fun (a' : Act) (W' : World) => ∃ (us : Nat → Value) (f : Nat) (s' : Gs) (ks : List Tn) (va : Option Addr) (vn vc pk : Nat), a' = RT g rb nb a len cap ((pk : Nat) : Int) us ∧ Hid (Sx w g a len cap ts w.heap.size (.slice none 0 0) [] W' (s') [(nb, #[.int .i64 1, .string X, .int .i64 0, .int .i64 0, .int .i64 0, .int .i64 np, .string { data := #[] }, .slice va vn vc])] (.slice va vn vc) ks []) ∧ Hid (R = gfilel ts f s' pk (plains ks)) ∧ gmeas2 len s' < f ∧ s'.op = 0 ∧ (s'.e = 0 → ks.length ≤ s'.i) ∧ ks.length ≤ len ∧ (s'.e = 0 → pk ≤ s'.i) ∧ pk ≤ len) (fun _ W' => gmeas len W' g) hI ?_
  rintro a' W' ⟨us, f, s', ks, va, vn, vc, pk, rfl, S0, HJ, hf, hop, hki, hkl, hpi, hpl⟩
  obtain ⟨f, rfl⟩ : ∃ f', f = f' + 1 := ⟨f - 1, by omega⟩
  have HJ' := HJ.out
  rw [gfilel] at HJ'
  have hlt := S0.out.gm.lt
  by_cases he : s'.e = 0
  · by_cases hk : (gnow ts s').kind = 0
    · rw [if_pos (Or.inr hk)] at HJ'
      refine wp_seq (tkh_end us S0 ⟨he, hk⟩ _ ?_)
      rintro a' W2 S2 ⟨us2, rfl⟩
      exact hQ _ _ ⟨us2, ks, va, vn, vc, _, rfl, by rw [HJ']; exact S2, by rw [HJ']⟩
    · rw [if_neg (fun h => h.elim (fun h => h he) hk)] at HJ'
      have hki' := hki he
      have hpi' := hpi he
      have hf2 : 1 + (len - s'.i) < f + 1 := by unfold gmeas2 at hf; rw [if_pos he] at hf; exact hf
      refine wp_seq (tkh_on us S0 ⟨he, hk⟩ _ ?_)
      rintro a' W2 S2 ⟨us2, rfl⟩
      refine wp_block ?_
      cases hd : gis ts [59] s' with
      | true =>
        rw [if_pos hd] at HJ'
        refine wp_seq (tk15_true us2 S2 hd _ ?_)
        rintro a' W3 S3 ⟨us3, rfl⟩
        simp only [Exit.inBlock, if_true, Exit.then]
        have hMo := mnext HE hk
        have hl3 := S3.gm.lt
        refine ⟨⟨us3, f, gnext ts s', ks, va, vn, vc, pk, rfl, S3, HJ', ?_, by rw [hMo.op, hop]; rfl, fun h3 => by have := (hMo.e h3).2; omega, hkl, fun h3 => by have := (hMo.e h3).2; omega, hpl⟩, ?_⟩
        · unfold gmeas2
          split
          · rename_i h3
            have := (hMo.e h3).2
            omega
          · omega
        · rw [S3.gm.meas, S0.out.gm.meas]
          unfold gmeas2
          rw [if_pos he]
          split
          · rename_i h3
            have := (hMo.e h3).2
            omega
          · omega
      | false =>
        rw [if_neg (by rw [hd]; decide)] at HJ'
        refine wp_seq (tk15_false us2 S2 hd _ ?_)
        rintro a' W3 S3 ⟨us3, rfl⟩
        have fin : ∀ (s1 : Gs) (pk1 : Nat) (W4 : World) (us4 : Nat → Value), s1.op = 0 → Mo s' s1 0 0 → (pk1 = pk ∨ pk1 = pk + 1) → R = gfilel ts f (gitem ts (gbody ts 31) 31 (s1)).2 pk1 (plains ks ++ [(gitem ts (gbody ts 31) 31 (s1)).1]) → Sx w g a len cap ts w.heap.size (.slice none 0 0) [] W4 (s1) [(nb, #[.int .i64 1, .string X, .int .i64 0, .int .i64 0, .int .i64 0, .int .i64 np, .string { data := #[] }, .slice va vn vc])] (.slice va vn vc) ks [] →
            ∀ Q' : Exit → Act → World → Prop, (∀ a' W5, (∃ (us : Nat → Value) (f : Nat) (s' : Gs) (ks : List Tn) (va : Option Addr) (vn vc pk : Nat), a' = RT g rb nb a len cap ((pk : Nat) : Int) us ∧ Hid (Sx w g a len cap ts w.heap.size (.slice none 0 0) [] W5 (s') [(nb, #[.int .i64 1, .string X, .int .i64 0, .int .i64 0, .int .i64 0, .int .i64 np, .string { data := #[] }, .slice va vn vc])] (.slice va vn vc) ks []) ∧ Hid (R = gfilel ts f s' pk (plains ks)) ∧ gmeas2 len s' < f ∧ s'.op = 0 ∧ (s'.e = 0 → ks.length ≤ s'.i) ∧ ks.length ≤ len ∧ (s'.e = 0 → pk ≤ s'.i) ∧ pk ≤ len) → gmeas len W5 g < gmeas len W' g → Q' .normal a' W5) → tkR20.wp Tryz.prog Q' (RT g rb nb a len cap (((pk1 : Nat) : Int)) us4) W4 := by
          intro s1 pk1 W4 us4 ho1 hM1 hpk hR1 S4 Q' hQ'
          refine tk200 HSim us4 S4 ho1 (by omega) Q' ?_
          rintro a' W5 ⟨t, vd, vf, ve, hP, S5, us5, rfl⟩
          have hMo := hM1.trans (mitem HE (mbody HE 31) 31 s1)
          have hl5 := S5.gm.lt
          refine hQ' _ _ ⟨us5, f, _, ks ++ [t], vd, vf, ve, pk1, rfl, S5, ?_, ?_, ?_, ?_, ?_, ?_, ?_⟩ ?_
          · show _ = _
            rw [plains_append, plains, plains, hP]
            exact hR1
          · unfold gmeas2
            split
            · rename_i h3
              have := (hMo.e h3).2
              omega
            · omega
          · rw [hMo.op, hop]; rfl
          · intro h3
            have := (hMo.e h3).2
            simp
            omega
          · simp
            omega
          · intro h3
            have := (hMo.e h3).2
            omega
          · omega
          · rw [S5.gm.meas, S0.out.gm.meas]
            unfold gmeas2
            rw [if_pos he]
            split
            · rename_i h3
              have := (hMo.e h3).2
              omega
            · omega
        cases hp : gisw ts [112, 97, 99, 107, 97, 103, 101] s' with
        | false =>
          refine wp_seq (tk16_no us3 S3 hp _ ?_)
          rintro a' W4 S4 ⟨us4, rfl⟩
          refine fin s' pk W4 us4 hop (Mo.refl s') (Or.inl rfl) (by have h := HJ'; simp only [hp, Bool.false_eq_true, if_false, false_and] at h; exact h) S4 _ ?_
          intro a' W5 h5 h6
          exact ⟨h5, h6⟩
        | true =>
          rcases Nat.eq_zero_or_pos pk with h0 | h0
          · subst h0
            refine wp_seq (tk16_one us3 S3 hp rfl _ ?_)
            rintro a' W4 S4 ⟨us4, rfl⟩
            refine fin s' 1 W4 us4 hop (Mo.refl s') (Or.inr rfl) (by have h := HJ'; simp only [hp, if_true, true_and, Nat.zero_add, Nat.lt_irrefl, if_false] at h; exact h) S4 _ ?_
            intro a' W5 h5 h6
            exact ⟨h5, h6⟩
          · refine wp_seq (tk16_two us3 S3 hp ⟨by omega, by omega⟩ _ ?_)
            rintro a' W4 S4 ⟨us4, rfl⟩
            refine fin (gfail ts 80 s') (pk + 1) W4 us4 (by rw [(mfail ts 80 (by decide) s' 0).op, hop]; rfl) (mfail ts 80 (by decide) s' 0) (Or.inr rfl) (by have h := HJ'; simp only [hp, if_true, true_and, show 1 < pk + 1 by omega] at h; exact h) S4 _ ?_
            intro a' W5 h5 h6
            exact ⟨h5, h6⟩
  · rw [if_pos (Or.inl he)] at HJ'
    refine wp_seq (tkh_err us S0 he _ ?_)
    rintro a' W2 S2 ⟨us2, rfl⟩
    exact hQ _ _ ⟨us2, ks, va, vn, vc, _, rfl, by rw [HJ']; exact S2, by rw [HJ']⟩

theorem nd3_ret {fn : Func} {R : Ending → World → Prop} {a : Act} {w : World} {p u v : Tmp} (h : fn.results = #[.cell p 28, .tmp u, .tmp v]) (g : Nat) (v0 v1 v2 v3 v4 v5 v6 v7 : Value) (hp : a.tmps.getD p undef = .pointer (some ⟨g, 0, none⟩))
    (hg : w.heap[g]? = some (.cells #[v0, v1, v2, v3, v4, v5, v6, v7] 28 (0, 0))) (hd : a.defers = []) (hR : R (.returned (.tuple #[.agg #[v0, v1, v2, v3, v4, v5, v6, v7], a.tmps.getD u undef, a.tmps.getD v undef])) w) : bodyPost Tryz.prog fn R .ret a w := by
  refine bodyPost_ret (v := .tuple #[.agg #[v0, v1, v2, v3, v4, v5, v6, v7], a.tmps.getD u undef, a.tmps.getD v undef]) ?_ hd hR
  have hp' : a.tmps[p]?.getD undef = .pointer (some ⟨g, 0, none⟩) := by simpa using hp
  have hl := run_loadVar_row (P := Tryz.prog) w g 28 28 #[v0, v1, v2, v3, v4, v5, v6, v7] (0, 0) _ hg Tryz.underlying28 rfl (by kernel_rfl)
  simp [results, h, hp', asAddr, hl]

theorem drew_set (W : World) (p : Addr) (u : Value) : (W.setCell p u).drew = W.drew.setCell p u := rfl

def TokRet (u : World) (m : Pn × Int × Int) (e : Ending) (w' : World) : Prop :=
  ∃ t : Tn, e = .returned (.tuple #[t.val, .int .i64 m.2.1, .int .i64 m.2.2]) ∧ t.plain = m.1 ∧ TnOk w' t ∧ (∀ b ∈ t.blocks, u.heap.size ≤ b ∧ b < w'.heap.size) ∧ Below u.heap.size u w'

theorem tok_end {u w : World} {g : Nat} {a : Option Addr} {len cap : Nat} {ts : List Tq} {W : World} {s : Gs} {B : List (Nat × Array Value)} {v : Value} {ks us : List Tn} {t : Tn} {rb : Nat} {act : Act} {m : Pn × Int × Int} {a0 a1 a2 a3 a4 a5 a6 a7 : Value} (S : Sx w g a len cap ts w.heap.size (.slice none 0 0) [] W s B v ks (t :: us))
    (HRb : W.heap[rb]? = some (.cells #[a0, a1, a2, a3, a4, a5, a6, a7] 28 (0, 0))) (hrb : rb < w.heap.size) (hrg : rb ≠ g) (hbe : u.heap.size ≤ rb ∧ u.heap.size ≤ g ∧ Below u.heap.size u w) (act' : Act) (x0 x1 x2 x3 x4 x5 x6 x7 : Value) (hact : act' = act) (hx : t.cells = [x0, x1, x2, x3, x4, x5, x6, x7])
    (fn : Func) (hres : fn.results = #[.cell 2 28, .tmp 3, .tmp 4]) (hp : act.tmps.getD 2 undef = .pointer (some ⟨rb, 0, none⟩)) (hd : act.defers = []) (hm : t.plain = m.1 ∧ act.tmps.getD 3 undef = .int .i64 m.2.1 ∧ act.tmps.getD 4 undef = .int .i64 m.2.2) :
    bodyPost Tryz.prog fn (TokRet u m) .ret act ((((((((W.setCell ⟨rb, 0, none⟩ x0).setCell ⟨rb, 1, none⟩ x1).setCell ⟨rb, 2, none⟩ x2).setCell ⟨rb, 3, none⟩ x3).setCell ⟨rb, 4, none⟩ x4).setCell ⟨rb, 5, none⟩ x5).setCell ⟨rb, 6, none⟩ x6).setCell ⟨rb, 7, none⟩ x7) := by
  have hh := eight_put HRb x0 x1 x2 x3 x4 x5 x6 x7
  obtain ⟨q1, q2⟩ := S.ut t (by simp)
  have hown := eight_own W rb x0 x1 x2 x3 x4 x5 x6 x7
  have hsz := hbe.2.2.size
  refine nd3_ret hres rb _ _ _ _ _ _ _ _ hp hh hd ⟨t, by rw [Tn.val, hx, hm.2.1, hm.2.2], hm.1, q1.moved hown (fun b hb e => ?_), fun b hb => ⟨?_, ?_⟩, ?_⟩
  · simp only [Option.some.injEq] at e
    have := (q2 b hb).1
    omega
  · have := (q2 b hb).1
    omega
  · have := (q2 b hb).2.1
    simp only [set_size]
    exact this
  · have hfr := S.fr.grown
    refine ⟨?_, ?_, ?_, ?_, ?_⟩
    · exact hown.os.trans (hfr.os.trans hbe.2.2.os)
    · exact hown.tape.trans (hfr.tape.trans hbe.2.2.tape)
    · exact hown.output.trans (hfr.output.trans hbe.2.2.output)
    · exact Nat.le_trans hsz (Nat.le_trans hfr.size hown.size)
    · intro k hk
      have hk2 : k < w.heap.size := Nat.lt_of_lt_of_le hk hsz
      exact (hown.block k (Nat.lt_of_lt_of_le hk2 hfr.size) (by simp; omega)).trans ((hfr.block k hk2 (by simp; omega)).trans (hbe.2.2.block k hk))

set_option maxRecDepth 100000 in
set_option maxHeartbeats 4000000 in
theorem tke_err {u : World} {w : World} {g : Nat} {a : Option Addr} {len cap : Nat} {ts : List Tq} {W : World} {t1 : Gs} {rb nb : Nat} {va : Option Addr} {vn vc : Nat} {ks : List Tn} {np : Int} {X : ByteArray} {pk : Int} (us : Nat → Value) (S0 : Hid (Sx w g a len cap ts w.heap.size (.slice none 0 0) [] W (t1) [(nb, #[.int .i64 1, .string X, .int .i64 0, .int .i64 0, .int .i64 0, .int .i64 np, .string { data := #[] }, .slice va vn vc])] (.slice va vn vc) ks [])) (HRb : Hid (W.heap[rb]? = some (.cells #[.int .i64 0, .string { data := #[] }, .int .i64 0, .int .i64 0, .int .i64 0, .int .i64 0, .string { data := #[] }, .slice none 0 0] 28 (0, 0)))) (hrb : rb < w.heap.size) (hrg : rb ≠ g) (hbe : u.heap.size ≤ rb ∧ u.heap.size ≤ g ∧ Below u.heap.size u w) (hd : ¬ t1.e = 0) :
    tkend.wp Tryz.prog (bodyPost Tryz.prog Tryz.f23 (TokRet u (pnil, t1.pa, t1.e))) (RT g rb nb a len cap (pk) us) W := by
  have hgz := S0.out.gm.blk.size
  obtain ⟨c0, c1, c2, c3, c4, c5⟩ := S0.out.gm.blk.cells
  have hq0 : nb < W.heap.size := S0.out.ltAt 0 nb rfl
  have hzr : rb < W.heap.size := (Array.getElem?_eq_some_iff.1 HRb.out).1
  have hgb := S0.out.gb
  have hnbw := S0.out.geAt 0 nb rfl
  have hn1 : rb ≠ nb := by omega
  have hn2 : nb ≠ rb := by omega
  obtain ⟨⟨ra0, ra1, ra2, ra3, ra4, ra5, ra6, ra7⟩, rz0, rz1, rz2, rz3, rz4, rz5, rz6, rz7⟩ := eight_cells (HRb.out)
  obtain ⟨⟨ca00, ca01, ca02, ca03, ca04, ca05, ca06, ca07⟩, cb00, cb01, cb02, cb03, cb04, cb05, cb06, cb07⟩ := eight_cells (S0.out.eight 0 nb rfl)
  have e1 : (t1.e != 0) = true := by simpa using hd
  clear hd
  unfold RT
  conv => arg 2; whnf
  go_wp2
  go_region
  all_goals
    go_wp2
    simp only [drew_set]
    refine tok_end (t := Tn.mk 0 [] 0 0 0 0 [] none 0 []) (show Sx w g a len cap ts w.heap.size (.slice none 0 0) [] W.drew t1 _ _ _ _ from (S0.out.drew 1).tree _ (leaf_ok _ (by unfold i64b; omega) (fun c hc => by simp at hc) (by simp) (by unfold i64b; omega)) (fun b hb => by simp [Tn.blocks, blocksL] at hb)) (show W.drew.heap[rb]? = _ from HRb.out) hrb hrg hbe _ (.int .i64 0) (.string { data := #[] }) (.int .i64 0) (.int .i64 0) (.int .i64 0) (.int .i64 0) (.string { data := #[] }) (.slice none 0 0) rfl rfl _ rfl rfl rfl ⟨rfl, rfl, rfl⟩

set_option maxRecDepth 100000 in
set_option maxHeartbeats 4000000 in
theorem tke_big {u : World} {w : World} {g : Nat} {a : Option Addr} {len cap : Nat} {ts : List Tq} {W : World} {t1 : Gs} {rb nb : Nat} {va : Option Addr} {vn vc : Nat} {ks : List Tn} {np : Int} {X : ByteArray} {pk : Int} (us : Nat → Value) (S0 : Hid (Sx w g a len cap ts w.heap.size (.slice none 0 0) [] W (t1) [(nb, #[.int .i64 1, .string X, .int .i64 0, .int .i64 0, .int .i64 0, .int .i64 np, .string { data := #[] }, .slice va vn vc])] (.slice va vn vc) ks [])) (HRb : Hid (W.heap[rb]? = some (.cells #[.int .i64 0, .string { data := #[] }, .int .i64 0, .int .i64 0, .int .i64 0, .int .i64 0, .string { data := #[] }, .slice none 0 0] 28 (0, 0)))) (hrb : rb < w.heap.size) (hrg : rb ≠ g) (hbe : u.heap.size ≤ rb ∧ u.heap.size ≤ g ∧ Below u.heap.size u w) (hd : t1.e = 0 ∧ 20000 < t1.n) :
    tkend.wp Tryz.prog (bodyPost Tryz.prog Tryz.f23 (TokRet u (pnil, 0, 2))) (RT g rb nb a len cap (pk) us) W := by
  have hgz := S0.out.gm.blk.size
  obtain ⟨c0, c1, c2, c3, c4, c5⟩ := S0.out.gm.blk.cells
  have hq0 : nb < W.heap.size := S0.out.ltAt 0 nb rfl
  have hzr : rb < W.heap.size := (Array.getElem?_eq_some_iff.1 HRb.out).1
  have hgb := S0.out.gb
  have hnbw := S0.out.geAt 0 nb rfl
  have hn1 : rb ≠ nb := by omega
  have hn2 : nb ≠ rb := by omega
  obtain ⟨⟨ra0, ra1, ra2, ra3, ra4, ra5, ra6, ra7⟩, rz0, rz1, rz2, rz3, rz4, rz5, rz6, rz7⟩ := eight_cells (HRb.out)
  obtain ⟨⟨ca00, ca01, ca02, ca03, ca04, ca05, ca06, ca07⟩, cb00, cb01, cb02, cb03, cb04, cb05, cb06, cb07⟩ := eight_cells (S0.out.eight 0 nb rfl)
  have e1 : (t1.e != 0) = false := by simpa using hd.1
  have e0 := hd.1
  have hn := S0.out.gm.n
  have hbig : (20000 : Int) < t1.n := hd.2
  rw [e0] at c4
  clear e0 hd e1
  unfold RT
  conv => arg 2; whnf
  go_wp2
  refine tok_end (t := Tn.mk 0 [] 0 0 0 0 [] none 0 []) (S0.out.tree _ (leaf_ok _ (by unfold i64b; omega) (fun c hc => by simp at hc) (by simp) (by unfold i64b; omega)) (fun b hb => by simp [Tn.blocks, blocksL] at hb)) HRb.out hrb hrg hbe _ (.int .i64 0) (.string { data := #[] }) (.int .i64 0) (.int .i64 0) (.int .i64 0) (.int .i64 0) (.string { data := #[] }) (.slice none 0 0) rfl rfl _ rfl rfl rfl ⟨rfl, rfl, rfl⟩

set_option maxRecDepth 100000 in
set_option maxHeartbeats 4000000 in
theorem tke_ok {u : World} {w : World} {g : Nat} {a : Option Addr} {len cap : Nat} {ts : List Tq} {W : World} {t1 : Gs} {rb nb : Nat} {va : Option Addr} {vn vc : Nat} {ks : List Tn} {np : Int} {X : ByteArray} {pk : Int} (us : Nat → Value) (S0 : Hid (Sx w g a len cap ts w.heap.size (.slice none 0 0) [] W (t1) [(nb, #[.int .i64 1, .string X, .int .i64 0, .int .i64 0, .int .i64 0, .int .i64 np, .string { data := #[] }, .slice va vn vc])] (.slice va vn vc) ks [])) (HRb : Hid (W.heap[rb]? = some (.cells #[.int .i64 0, .string { data := #[] }, .int .i64 0, .int .i64 0, .int .i64 0, .int .i64 0, .string { data := #[] }, .slice none 0 0] 28 (0, 0)))) (hrb : rb < w.heap.size) (hrg : rb ≠ g) (hbe : u.heap.size ≤ rb ∧ u.heap.size ≤ g ∧ Below u.heap.size u w) (hd : t1.e = 0 ∧ ¬ 20000 < t1.n) {tx : List Int} (HX : Hid (X = strOfNums tx)) (HTx : Hid (byts tx ∧ tx.length ≤ 100000)) (hnp : i64b np) {pl : List Pn} (hpl : plains ks = pl) :
    tkend.wp Tryz.prog (bodyPost Tryz.prog Tryz.f23 (TokRet u (.mk 1 tx 0 0 0 np [] pl, 0, 0))) (RT g rb nb a len cap (pk) us) W := by
  have hgz := S0.out.gm.blk.size
  obtain ⟨c0, c1, c2, c3, c4, c5⟩ := S0.out.gm.blk.cells
  have hq0 : nb < W.heap.size := S0.out.ltAt 0 nb rfl
  have hzr : rb < W.heap.size := (Array.getElem?_eq_some_iff.1 HRb.out).1
  have hgb := S0.out.gb
  have hnbw := S0.out.geAt 0 nb rfl
  have hn1 : rb ≠ nb := by omega
  have hn2 : nb ≠ rb := by omega
  obtain ⟨⟨ra0, ra1, ra2, ra3, ra4, ra5, ra6, ra7⟩, rz0, rz1, rz2, rz3, rz4, rz5, rz6, rz7⟩ := eight_cells (HRb.out)
  obtain ⟨⟨ca00, ca01, ca02, ca03, ca04, ca05, ca06, ca07⟩, cb00, cb01, cb02, cb03, cb04, cb05, cb06, cb07⟩ := eight_cells (S0.out.eight 0 nb rfl)
  have e1 : (t1.e != 0) = false := by simpa using hd.1
  have e0 := hd.1
  have hn := S0.out.gm.n
  have hbig : ¬ (20000 : Int) < t1.n := hd.2
  rw [e0] at c4
  clear e0 hd e1
  unfold RT
  conv => arg 2; whnf
  go_wp2
  obtain ⟨hnk, S9⟩ := S0.out.close (nk := 1) (nn := 0) (nm := 0) (na := 0) (np := np) (ntx := tx) (ndc := []) (by unfold i64b; omega) (by unfold i64b; omega) (by unfold i64b; omega) (by unfold i64b; omega) hnp HTx.out ⟨fun c hc => by simp at hc, by simp⟩
  refine tok_end S9 HRb.out hrb hrg hbe _ (.int .i64 1) (.string X) (.int .i64 0) (.int .i64 0) (.int .i64 0) (.int .i64 np) (.string { data := #[] }) (.slice va vn vc) rfl (by rw [Tn.cells, HX.out, hnk]; rfl) _ rfl rfl rfl ⟨?_, ?_⟩
  · rw [Tn.plain, hpl]
  · exact ⟨rfl, rfl⟩

theorem wp_asT {c : Code} {Q : Exit → Act → World → Prop} {a' : Act} {W : World} {g rb nb : Nat} {a : Option Addr} {len cap : Nat} {pk : Int} (us : Nat → Value) (_hu : us = fun k => a'.tmps.getD k undef) (h : a' = RT g rb nb a len cap pk us) (hw : ∀ us, c.wp Tryz.prog Q (RT g rb nb a len cap pk us) W) : c.wp Tryz.prog Q a' W := by
  rw [h]; exact hw us

theorem tk_rest0 {u w : World} {g : Nat} {a : Option Addr} {len cap : Nat} {ts : List Tq} {W : World} {s : Gs} {rb nb : Nat} {np : Int} {X : ByteArray} {tx : List Int} (HSim : Hid (Sim ts)) (S0 : Sx w g a len cap ts w.heap.size (.slice none 0 0) [] W s [(nb, #[.int .i64 1, .string X, .int .i64 0, .int .i64 0, .int .i64 0, .int .i64 np, .string { data := #[] }, .slice none 0 0])] (.slice none 0 0) [] [])
    (HRb : w.heap[rb]? = some (.cells #[.int .i64 0, .string { data := #[] }, .int .i64 0, .int .i64 0, .int .i64 0, .int .i64 0, .string { data := #[] }, .slice none 0 0] 28 (0, 0))) (hrb : rb < w.heap.size) (hrg : rb ≠ g) (hbe : u.heap.size ≤ rb ∧ u.heap.size ≤ g ∧ Below u.heap.size u w) (HE : Ends ts) (hLb : len ≤ 1000000) (hnp : i64b np) (hX : X = strOfNums tx) (htx : byts tx ∧ tx.length ≤ 100000) (hop : s.op = 0)
    (us : Nat → Value) {M : Pn × Int × Int} (hM : M = (if (gfilel ts (2 * ts.length + 2) s 0 []).2.e ≠ 0 then (pnil, (gfilel ts (2 * ts.length + 2) s 0 []).2.pa, (gfilel ts (2 * ts.length + 2) s 0 []).2.e) else if 20000 < (gfilel ts (2 * ts.length + 2) s 0 []).2.n then (pnil, 0, 2) else (.mk 1 tx 0 0 0 np [] (gfilel ts (2 * ts.length + 2) s 0 []).1, 0, 0))) (Q : Exit → Act → World → Prop) (hQ : ∀ a' W', tkend.wp Tryz.prog (bodyPost Tryz.prog Tryz.f23 (TokRet u M)) a' W' → Q (.exit 0) a' W') :
    tkloop.wp Tryz.prog Q (RT g rb nb a len cap 0 us) W := by
  have hL : ts.length = len := S0.gm.tok.1
  have hlt := S0.gm.lt
  obtain ⟨R, hR⟩ : ∃ R, R = gfilel ts (2 * ts.length + 2) s 0 [] := ⟨_, rfl⟩
  rw [← hR] at hM
  refine tkloop_any0 (w := w) (g := g) (a := a) (len := len) (cap := cap) (ts := ts) (rb := rb) (nb := nb) (np := np) (X := X) (R := R) HSim HE hLb ⟨us, 2 * ts.length + 2, s, [], none, 0, 0, 0, rfl, S0, hR, by unfold gmeas2; split <;> omega, hop, fun _ => by simp, by simp, fun _ => by simp, by simp⟩ _ ?_
  rintro a' W' ⟨us2, ks, va, vn, vc, pk, rfl, S8, hpl⟩
  refine hQ _ _ ?_
  have HR8 : W'.heap[rb]? = some (.cells #[.int .i64 0, .string { data := #[] }, .int .i64 0, .int .i64 0, .int .i64 0, .int .i64 0, .string { data := #[] }, .slice none 0 0] 28 (0, 0)) := (S8.fr.grown.block rb hrb (by simp; omega)).trans HRb
  by_cases he : R.2.e = 0
  · rw [if_neg (by simpa using he)] at hM
    by_cases hn : 20000 < R.2.n
    · rw [if_pos hn] at hM
      rw [hM]
      exact tke_big us2 S8 HR8 hrb hrg hbe ⟨he, hn⟩
    · rw [if_neg hn] at hM
      rw [hM]
      exact tke_ok us2 S8 HR8 hrb hrg hbe ⟨he, hn⟩ hX htx hnp hpl.symm
  · rw [if_pos (by simpa using he)] at hM
    rw [hM]
    exact tke_err us2 S8 HR8 hrb hrg hbe he

end Go.Proofs.YtlekfcehmlepkaaGreatDoor
