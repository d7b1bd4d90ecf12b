/- The contract of the program's own quote.Take, over the turned text. -/
import Derived.Test.YtjkcmcefmciinaaDoorQPx
namespace Go.Proofs.YtjkcmcefmciinaaDoor
open Go.RowKit
set_option linter.unusedVariables false
set_option linter.unusedSimpArgs false

/-- What holds at Take's label: k bytes are read, o has come out. -/
def TJ (w : World) (S : ByteArray) (R : List Int × Int × Int) (l : List Int) (q : Int) (a' : Act) (w' : World) : Prop :=
  ∃ (k : Nat) (o : List Int) (v : Value) (us : Nat → Value), a' = { tmps := #[.string S, undef, .slice none 0 0, .int .i64 0, .int .i64 0, v, .int .i64 (k : Int), us 7, us 8, us 9, us 10, us 11, us 12, us 13, us 14, us 15, us 16, us 17, us 18, us 19, us 20, us 21, us 22, us 23, us 24, us 25, us 26, us 27, us 28, us 29, us 30, us 31, us 32, us 33, us 34, us 35, us 36, us 37, us 38, us 39, us 40, us 41, us 42, us 43, us 44, us 45, us 46, us 47, us 48, us 49, us 50, us 51, us 52, us 53, us 54, us 55, us 56, us 57, us 58, us 59, us 60, us 61, us 62, us 63, us 64, us 65, us 66, us 67, us 68, us 69, us 70, us 71, us 72, us 73, us 74, us 75, us 76], defers := [] } ∧
    1 ≤ k ∧ k ≤ l.length ∧ o.length ≤ k ∧ Hid (R = qtk q (l.drop k).length (l.drop k) (k : Int) o) ∧ w'.ownsRow w.heap.size 5 1 v o.length (o.map (Value.int .u8)) ∧ Below w.heap.size w w'

theorem TJ.mk {w : World} {S : ByteArray} {R : List Int × Int × Int} {l : List Int} {q : Int} {a' : Act} {w' : World} (k : Nat) (o : List Int) (v : Value) (us : Nat → Value) (_hu : us = fun k => a'.tmps.getD k undef)
    (h1 : a' = { tmps := #[.string S, undef, .slice none 0 0, .int .i64 0, .int .i64 0, v, .int .i64 (k : Int), us 7, us 8, us 9, us 10, us 11, us 12, us 13, us 14, us 15, us 16, us 17, us 18, us 19, us 20, us 21, us 22, us 23, us 24, us 25, us 26, us 27, us 28, us 29, us 30, us 31, us 32, us 33, us 34, us 35, us 36, us 37, us 38, us 39, us 40, us 41, us 42, us 43, us 44, us 45, us 46, us 47, us 48, us 49, us 50, us 51, us 52, us 53, us 54, us 55, us 56, us 57, us 58, us 59, us 60, us 61, us 62, us 63, us 64, us 65, us 66, us 67, us 68, us 69, us 70, us 71, us 72, us 73, us 74, us 75, us 76], defers := [] })
    (h2 : 1 ≤ k) (h3 : k ≤ l.length) (h4 : o.length ≤ k) (h5 : R = qtk q (l.drop k).length (l.drop k) (k : Int) o) (h6 : w'.ownsRow w.heap.size 5 1 v o.length (o.map (Value.int .u8))) (h7 : Below w.heap.size w w') : TJ w S R l q a' w' :=
  ⟨k, o, v, us, h1, h2, h3, h4, h5, h6, h7⟩

set_option maxHeartbeats 2000000 in
theorem ptak_34 (r : List Int) (w : World) (hT : Hid (QTab w)) (hz : Hid (∀ i, 0 ≤ ((34 : Int) :: r).getD i 0 ∧ ((34 : Int) :: r).getD i 0 ≤ 255)) (hlen : (r.length : Int) ≤ 100000000) :
    Calls Tryd.prog 54 #[.string (strOfNums (34 :: r))] w fun e w' => ∃ v, e = .returned (.tuple #[v, .int .i64 (qtk 34 r.length r 1 []).2.1, .int .i64 (qtk 34 r.length r 1 []).2.2]) ∧
      w'.ownsRow w.heap.size 5 1 v (qtk 34 r.length r 1 []).1.length ((qtk 34 r.length r 1 []).1.map (Value.int .u8)) ∧ Below w.heap.size w w' := by
  have hsz := strOfNums_size (34 :: r)
  have hat0 := str_at (34 :: r) hz.out 0 (by rw [hsz]; simp)
  have hne := str_ne 34 r
  rw [show ((34 : Int) :: r).getD 0 0 = 34 from rfl] at hat0
  have HA : Hid (∀ k, (h : k < r.length + 1) → (((strOfNums (34 :: r))[k]'(by rw [hsz]; exact h)).toNat : Int) = ((34 : Int) :: r).getD k 0) := fun k h => str_at (34 :: r) hz.out k _
  have HX : Hid (∀ k, (strOfNums (34 :: r)).extract k (r.length + 1) = strOfNums (((34 : Int) :: r).drop k)) := fun k => by
    rw [str_cut, List.take_of_length_le (by simp)]
  simp only [List.length_cons] at hsz
  generalize strOfNums (34 :: r) = S at hsz hat0 hne HA HX
  obtain ⟨l, hl⟩ : ∃ l : List Int, l = (34 : Int) :: r := ⟨_, rfl⟩
  have HL : Hid (l.length = r.length + 1) := by show _ = _; rw [hl]; rfl
  have HR : Hid (r = l.drop 1) := by show _ = _; rw [hl]; rfl
  rw [← hl] at hz
  simp only [← hl] at HA HX
  clear hl
  obtain ⟨R, hR⟩ : ∃ R, R = qtk 34 r.length r 1 [] := ⟨_, rfl⟩
  rw [← hR]
  have HR0 : Hid (R = qtk 34 (l.drop 1).length (l.drop 1) 1 []) := by show _ = _; rw [hR, ← HR.out]
  clear hR
  go_enter Tryd.func54, Tryd.ntmps54
  go_wp2
  refine wp_scope_loop 0 (TJ w S R l 34) (fun a' _ => r.length + 1 - (intOf (a'.tmps.getD 6 undef)).toNat) rfl ?_ ?_
  · intro HJ
    go_wp2
    go_step3
    rename_i hK
    refine hK _ _ ?_
    refine HJ.out _ _ ?_
    exact TJ.mk 1 [] _ _ rfl rfl (by omega) (by rw [HL.out]; omega) (by simp) HR0.out (World.ownsRow_nil _ _ _ _) (Below.refl _ _)
  · rintro a' wr ⟨k, o, v, us, rfl, hk1, hkl, hol, HQ, hown, hb⟩
    rw [HL.out] at hkl
    have hbs := hb.size
    by_cases hk : k < r.length + 1
    · have hat := HA.out k hk
      have hkz : ((k : Int) == (r.length : Int) + 1) = false := by simp; omega
      obtain ⟨c0, c255⟩ := hz.out k
      have HD : Hid (l.drop k = l.getD k 0 :: l.drop (k + 1)) := drop_at (by rw [HL.out]; exact hk)
      have hex := HX.out (k + 1)
      have HZD : Hid (∀ i, 0 ≤ (l.drop (k + 1)).getD i 0 ∧ (l.drop (k + 1)).getD i 0 ≤ 255) := fun i => by rw [getD_drop']; exact hz.out _
      have HLD : Hid ((l.drop (k + 1)).length = r.length - k) := by show _ = _; rw [List.length_drop, HL.out]; omega
      generalize l.getD k 0 = c at hat c0 c255 HD
      have HQ' := HQ.out
      rw [HD.out, List.length_cons, qtk] at HQ'
      have HQ2 : Hid _ := HQ'
      clear HQ' HQ HR0
      by_cases hq : c = 34
      · subst hq
        have E : Hid (R = (o, (k : Int) + 1, 0)) := by have := HQ2.out; rw [if_pos rfl] at this; exact this
        clear HQ2
        go_wp2
        go_quiet (fail)
        rename_i K _ hK
        refine hK _ _ ?_
        go_wp2
        simp only [Exit.jump]
        go_ret3
        exact ⟨_, by rw [E.out]; rfl, by rw [E.out]; exact own_below hown (Below.drewN'' _ _), hb.trans ((Below.drewN'' _ _).mono hbs)⟩
      have hq' : (c == 34) = false := by simpa using hq
      by_cases h0 : c = 0 ∨ c = 10
      · have E : Hid (R = ([], (k : Int), 40)) := by have := HQ2.out; rw [if_neg hq, if_pos h0] at this; exact this
        clear HQ2
        rcases h0 with rfl | rfl
        · go_wp2
          simp only [Exit.jump]
          go_ret3
          exact ⟨_, by rw [E.out]; rfl, by rw [E.out]; exact World.ownsRow_nil _ _ _ _, hb⟩
        · go_wp2
          simp only [Exit.jump]
          go_ret3
          exact ⟨_, by rw [E.out]; rfl, by rw [E.out]; exact World.ownsRow_nil _ _ _ _, hb⟩
      have h0' : (c == 0) = false := by simp; omega
      have h10' : (c == 10) = false := by simp; omega
      by_cases h92 : c = 92
      · subst h92
        have E1 := HQ2.out
        rw [if_neg hq, if_neg h0, if_pos rfl] at E1
        have HE : Hid _ := E1
        have q := fun W (hW : QTab W) => pesc_any (l.drop (k + 1)) W hW HZD (by have := HLD.out; omega)
        have qle := qesc_le (l.drop (k + 1))
        have qbd := qesc_bd (l.drop (k + 1)) (mem_bd HZD.out)
        have qo := qesc_out (l.drop (k + 1))
        generalize qesc (l.drop (k + 1)) = p at E1 HE q qle qbd qo
        obtain ⟨p1, p2⟩ := p
        simp only at E1 qle qbd qo
        have QB : Hid _ := qbd
        have Q : Hid _ := q
        have hpl : p2 ≤ r.length - k := by have := HLD.out; omega
        have hp9 : p2 ≤ 9 := qle.2.1
        clear q qbd HQ2 qle E1
        by_cases hp : p2 = 0
        · subst hp
          have E : Hid (R = ([], (k : Int), 40)) := by have := HE.out; simp only [if_true] at this; exact this
          clear HE
          go_wp2
          go_quiet (fail)
          rename_i K _ hK
          refine hK _ _ ?_
          have hbn := hb.trans ((Below.drewN'' wr nq).mono hbs)
          go_wp2_with fail
          refine Calls.mono (Q.out _ (hT.out.below hbn (Nat.le_refl _))) ?_
          rintro e w1 ⟨v1, rfl, hown1, hb1⟩
          rw [show (((0 : Nat)) : Int) = 0 from rfl]
          go_wp2
          simp only [Exit.jump]
          go_ret3
          exact ⟨_, by rw [E.out]; rfl, by rw [E.out]; exact World.ownsRow_nil _ _ _ _, hbn.trans (hb1.mono hbn.size)⟩
        · have hp' : ((p2 : Int) == 0) = false := by simp; omega
          have E : Hid (R = qtk 34 (l.drop (k + 1 + p2)).length (l.drop (k + 1 + p2)) ((k + 1 + p2 : Nat) : Int) (o ++ p1)) := by
            have := HE.out
            simp only [if_neg hp, List.drop_drop] at this
            show _ = _
            rw [this, qtk_fuel 34 _ (l.drop (k + 1 + p2)).length _ _ _ (by simp only [List.length_drop]; omega) (Nat.le_refl _)]
            congr 1
          clear HE
          go_wp2
          go_quiet (fail)
          rename_i K _ hK
          refine hK _ _ ?_
          have hbn := hb.trans ((Below.drewN'' wr nq).mono hbs)
          have hownn := own_below hown (Below.drewN'' wr nq)
          go_wp2_with fail
          refine Calls.mono (Q.out _ (hT.out.below hbn (Nat.le_refl _))) ?_
          rintro e w1 ⟨v1, rfl, hown1, hb1⟩
          simp only at hown1
          obtain ⟨a1, cc1, rfl⟩ := own_slice hown1
          have B1 : Hid (Bs w1 a1 p1.length cc1 p1) := Bs.of_owns hown1 QB.out
          have hown' := own_below hownn hb1
          have hB1 : Below w.heap.size w w1 := hbn.trans (hb1.mono hbn.size)
          have hs1 := hB1.size
          have hn1 : o.length + p1.length ≤ 140737488355328 := by omega
          clear hown1
          go_wp2_with (at_builtin; refine wpList_append_bs rfl _ _ rfl w.heap.size _ _ _ _ _ _ p1 rfl rfl hown' B1.out hn1 hs1 ?_; intro v2 w2 hown2 hgrow2)
          have hB2 : Below w.heap.size w w2 := hB1.grown hgrow2 hB1.size (fun j hj => (hown'.lt j hj).1)
          clear hgrow2
          go_step3
          rw [show ((k : Int) + (1 + (p2 : Int))) = ((k + 1 + p2 : Nat) : Int) by omega]
          refine ⟨rfl, TJ.mk (k + 1 + p2) (o ++ p1) _ _ rfl rfl (by omega) (by rw [HL.out]; omega) (by simp only [List.length_append]; omega) E.out (by rw [List.length_append, List.map_append]; exact hown2) hB2, ?_⟩
          simp [intOf]
          omega
      have h92' : (c != 92) = true := by simpa using h92
      have E : Hid (R = qtk 34 (l.drop (k + 1)).length (l.drop (k + 1)) ((k + 1 : Nat) : Int) (o ++ [c])) := by
        have := HQ2.out
        rw [if_neg hq, if_neg h0, if_neg h92] at this
        exact this
      clear HQ2
      go_wp2
      go_quiet (fail)
      rename_i K _ hK
      refine hK _ _ ?_
      have hbn := hb.trans ((Below.drewN'' wr nq).mono hbs)
      have hownn := own_below hown (Below.drewN'' wr nq)
      have hhs : (wr.drewN nq).heap.size = wr.heap.size := by simp
      have b1 := lits_bs (wr.drewN nq) #[.int .u8 c] [c] 1 rfl rfl (by omega) (by intro x hx; simp at hx; omega)
      rw [hhs] at b1
      have B1 : Hid _ := b1
      clear b1
      have hown' := own_alloc hownn (.cells #[.int .u8 c] 5)
      have hB1 : Below w.heap.size w ((wr.drewN nq).alloc (.cells #[.int .u8 c] 5)) := hbn.alloc hbn.size _
      have hs1 := hB1.size
      have hn1 : o.length + 1 ≤ 140737488355328 := by omega
      go_wp2_with (at_builtin; refine wpList_append_bs rfl _ _ rfl w.heap.size _ _ _ _ _ _ [c] rfl rfl hown' B1.out hn1 hs1 ?_; intro v2 w2 hown2 hgrow2)
      have hB2 : Below w.heap.size w w2 := hB1.grown hgrow2 hB1.size (fun j hj => (hown'.lt j hj).1)
      clear hgrow2
      go_step3
      rw [show ((k : Int) + 1) = ((k + 1 : Nat) : Int) by omega]
      refine ⟨rfl, TJ.mk (k + 1) (o ++ [c]) _ _ rfl rfl (by omega) (by rw [HL.out]; omega) (by simp only [List.length_append, List.length_cons, List.length_nil]; omega) E.out (by rw [List.length_append, List.map_append]; exact hown2) hB2, ?_⟩
      simp [intOf]
      omega
    · obtain rfl : k = r.length + 1 := by omega
      have hkz : (((r.length + 1 : Nat) : Int) == (r.length : Int) + 1) = true := by simp
      have E : Hid (R = ([], ((r.length + 1 : Nat) : Int), 40)) := by
        have := HQ.out
        rw [List.drop_eq_nil_of_le (by rw [HL.out]; omega)] at this
        exact this
      clear HQ HR0
      go_wp2
      simp only [Exit.jump]
      go_ret3
      exact ⟨_, by rw [E.out]; rfl, by rw [E.out]; exact World.ownsRow_nil _ _ _ _, hb⟩

set_option maxHeartbeats 2000000 in
theorem ptak_39 (r : List Int) (w : World) (hT : Hid (QTab w)) (hz : Hid (∀ i, 0 ≤ ((39 : Int) :: r).getD i 0 ∧ ((39 : Int) :: r).getD i 0 ≤ 255)) (hlen : (r.length : Int) ≤ 100000000) :
    Calls Tryd.prog 54 #[.string (strOfNums (39 :: r))] w fun e w' => ∃ v, e = .returned (.tuple #[v, .int .i64 (qtk 39 r.length r 1 []).2.1, .int .i64 (qtk 39 r.length r 1 []).2.2]) ∧
      w'.ownsRow w.heap.size 5 1 v (qtk 39 r.length r 1 []).1.length ((qtk 39 r.length r 1 []).1.map (Value.int .u8)) ∧ Below w.heap.size w w' := by
  have hsz := strOfNums_size (39 :: r)
  have hat0 := str_at (39 :: r) hz.out 0 (by rw [hsz]; simp)
  have hne := str_ne 39 r
  rw [show ((39 : Int) :: r).getD 0 0 = 39 from rfl] at hat0
  have HA : Hid (∀ k, (h : k < r.length + 1) → (((strOfNums (39 :: r))[k]'(by rw [hsz]; exact h)).toNat : Int) = ((39 : Int) :: r).getD k 0) := fun k h => str_at (39 :: r) hz.out k _
  have HX : Hid (∀ k, (strOfNums (39 :: r)).extract k (r.length + 1) = strOfNums (((39 : Int) :: r).drop k)) := fun k => by
    rw [str_cut, List.take_of_length_le (by simp)]
  simp only [List.length_cons] at hsz
  generalize strOfNums (39 :: r) = S at hsz hat0 hne HA HX
  obtain ⟨l, hl⟩ : ∃ l : List Int, l = (39 : Int) :: r := ⟨_, rfl⟩
  have HL : Hid (l.length = r.length + 1) := by show _ = _; rw [hl]; rfl
  have HR : Hid (r = l.drop 1) := by show _ = _; rw [hl]; rfl
  rw [← hl] at hz
  simp only [← hl] at HA HX
  clear hl
  obtain ⟨R, hR⟩ : ∃ R, R = qtk 39 r.length r 1 [] := ⟨_, rfl⟩
  rw [← hR]
  have HR0 : Hid (R = qtk 39 (l.drop 1).length (l.drop 1) 1 []) := by show _ = _; rw [hR, ← HR.out]
  clear hR
  go_enter Tryd.func54, Tryd.ntmps54
  go_wp2
  refine wp_scope_loop 0 (TJ w S R l 39) (fun a' _ => r.length + 1 - (intOf (a'.tmps.getD 6 undef)).toNat) rfl ?_ ?_
  · intro HJ
    go_wp2
    go_step3
    rename_i hK
    refine hK _ _ ?_
    refine HJ.out _ _ ?_
    exact TJ.mk 1 [] _ _ rfl rfl (by omega) (by rw [HL.out]; omega) (by simp) HR0.out (World.ownsRow_nil _ _ _ _) (Below.refl _ _)
  · rintro a' wr ⟨k, o, v, us, rfl, hk1, hkl, hol, HQ, hown, hb⟩
    rw [HL.out] at hkl
    have hbs := hb.size
    by_cases hk : k < r.length + 1
    · have hat := HA.out k hk
      have hkz : ((k : Int) == (r.length : Int) + 1) = false := by simp; omega
      obtain ⟨c0, c255⟩ := hz.out k
      have HD : Hid (l.drop k = l.getD k 0 :: l.drop (k + 1)) := drop_at (by rw [HL.out]; exact hk)
      have hex := HX.out (k + 1)
      have HZD : Hid (∀ i, 0 ≤ (l.drop (k + 1)).getD i 0 ∧ (l.drop (k + 1)).getD i 0 ≤ 255) := fun i => by rw [getD_drop']; exact hz.out _
      have HLD : Hid ((l.drop (k + 1)).length = r.length - k) := by show _ = _; rw [List.length_drop, HL.out]; omega
      generalize l.getD k 0 = c at hat c0 c255 HD
      have HQ' := HQ.out
      rw [HD.out, List.length_cons, qtk] at HQ'
      have HQ2 : Hid _ := HQ'
      clear HQ' HQ HR0
      by_cases hq : c = 39
      · subst hq
        have E : Hid (R = (o, (k : Int) + 1, 0)) := by have := HQ2.out; rw [if_pos rfl] at this; exact this
        clear HQ2
        go_wp2
        go_quiet (fail)
        rename_i K _ hK
        refine hK _ _ ?_
        go_wp2
        simp only [Exit.jump]
        go_ret3
        exact ⟨_, by rw [E.out]; rfl, by rw [E.out]; exact own_below hown (Below.drewN'' _ _), hb.trans ((Below.drewN'' _ _).mono hbs)⟩
      have hq' : (c == 39) = false := by simpa using hq
      by_cases h0 : c = 0 ∨ c = 10
      · have E : Hid (R = ([], (k : Int), 40)) := by have := HQ2.out; rw [if_neg hq, if_pos h0] at this; exact this
        clear HQ2
        rcases h0 with rfl | rfl
        · go_wp2
          simp only [Exit.jump]
          go_ret3
          exact ⟨_, by rw [E.out]; rfl, by rw [E.out]; exact World.ownsRow_nil _ _ _ _, hb⟩
        · go_wp2
          simp only [Exit.jump]
          go_ret3
          exact ⟨_, by rw [E.out]; rfl, by rw [E.out]; exact World.ownsRow_nil _ _ _ _, hb⟩
      have h0' : (c == 0) = false := by simp; omega
      have h10' : (c == 10) = false := by simp; omega
      by_cases h92 : c = 92
      · subst h92
        have E1 := HQ2.out
        rw [if_neg hq, if_neg h0, if_pos rfl] at E1
        have HE : Hid _ := E1
        have q := fun W (hW : QTab W) => pesc_any (l.drop (k + 1)) W hW HZD (by have := HLD.out; omega)
        have qle := qesc_le (l.drop (k + 1))
        have qbd := qesc_bd (l.drop (k + 1)) (mem_bd HZD.out)
        have qo := qesc_out (l.drop (k + 1))
        generalize qesc (l.drop (k + 1)) = p at E1 HE q qle qbd qo
        obtain ⟨p1, p2⟩ := p
        simp only at E1 qle qbd qo
        have QB : Hid _ := qbd
        have Q : Hid _ := q
        have hpl : p2 ≤ r.length - k := by have := HLD.out; omega
        have hp9 : p2 ≤ 9 := qle.2.1
        clear q qbd HQ2 qle E1
        by_cases hp : p2 = 0
        · subst hp
          have E : Hid (R = ([], (k : Int), 40)) := by have := HE.out; simp only [if_true] at this; exact this
          clear HE
          go_wp2
          go_quiet (fail)
          rename_i K _ hK
          refine hK _ _ ?_
          have hbn := hb.trans ((Below.drewN'' wr nq).mono hbs)
          go_wp2_with fail
          refine Calls.mono (Q.out _ (hT.out.below hbn (Nat.le_refl _))) ?_
          rintro e w1 ⟨v1, rfl, hown1, hb1⟩
          rw [show (((0 : Nat)) : Int) = 0 from rfl]
          go_wp2
          simp only [Exit.jump]
          go_ret3
          exact ⟨_, by rw [E.out]; rfl, by rw [E.out]; exact World.ownsRow_nil _ _ _ _, hbn.trans (hb1.mono hbn.size)⟩
        · have hp' : ((p2 : Int) == 0) = false := by simp; omega
          have E : Hid (R = qtk 39 (l.drop (k + 1 + p2)).length (l.drop (k + 1 + p2)) ((k + 1 + p2 : Nat) : Int) (o ++ p1)) := by
            have := HE.out
            simp only [if_neg hp, List.drop_drop] at this
            show _ = _
            rw [this, qtk_fuel 39 _ (l.drop (k + 1 + p2)).length _ _ _ (by simp only [List.length_drop]; omega) (Nat.le_refl _)]
            congr 1
          clear HE
          go_wp2
          go_quiet (fail)
          rename_i K _ hK
          refine hK _ _ ?_
          have hbn := hb.trans ((Below.drewN'' wr nq).mono hbs)
          have hownn := own_below hown (Below.drewN'' wr nq)
          go_wp2_with fail
          refine Calls.mono (Q.out _ (hT.out.below hbn (Nat.le_refl _))) ?_
          rintro e w1 ⟨v1, rfl, hown1, hb1⟩
          simp only at hown1
          obtain ⟨a1, cc1, rfl⟩ := own_slice hown1
          have B1 : Hid (Bs w1 a1 p1.length cc1 p1) := Bs.of_owns hown1 QB.out
          have hown' := own_below hownn hb1
          have hB1 : Below w.heap.size w w1 := hbn.trans (hb1.mono hbn.size)
          have hs1 := hB1.size
          have hn1 : o.length + p1.length ≤ 140737488355328 := by omega
          clear hown1
          go_wp2_with (at_builtin; refine wpList_append_bs rfl _ _ rfl w.heap.size _ _ _ _ _ _ p1 rfl rfl hown' B1.out hn1 hs1 ?_; intro v2 w2 hown2 hgrow2)
          have hB2 : Below w.heap.size w w2 := hB1.grown hgrow2 hB1.size (fun j hj => (hown'.lt j hj).1)
          clear hgrow2
          go_step3
          rw [show ((k : Int) + (1 + (p2 : Int))) = ((k + 1 + p2 : Nat) : Int) by omega]
          refine ⟨rfl, TJ.mk (k + 1 + p2) (o ++ p1) _ _ rfl rfl (by omega) (by rw [HL.out]; omega) (by simp only [List.length_append]; omega) E.out (by rw [List.length_append, List.map_append]; exact hown2) hB2, ?_⟩
          simp [intOf]
          omega
      have h92' : (c != 92) = true := by simpa using h92
      have E : Hid (R = qtk 39 (l.drop (k + 1)).length (l.drop (k + 1)) ((k + 1 : Nat) : Int) (o ++ [c])) := by
        have := HQ2.out
        rw [if_neg hq, if_neg h0, if_neg h92] at this
        exact this
      clear HQ2
      go_wp2
      go_quiet (fail)
      rename_i K _ hK
      refine hK _ _ ?_
      have hbn := hb.trans ((Below.drewN'' wr nq).mono hbs)
      have hownn := own_below hown (Below.drewN'' wr nq)
      have hhs : (wr.drewN nq).heap.size = wr.heap.size := by simp
      have b1 := lits_bs (wr.drewN nq) #[.int .u8 c] [c] 1 rfl rfl (by omega) (by intro x hx; simp at hx; omega)
      rw [hhs] at b1
      have B1 : Hid _ := b1
      clear b1
      have hown' := own_alloc hownn (.cells #[.int .u8 c] 5)
      have hB1 : Below w.heap.size w ((wr.drewN nq).alloc (.cells #[.int .u8 c] 5)) := hbn.alloc hbn.size _
      have hs1 := hB1.size
      have hn1 : o.length + 1 ≤ 140737488355328 := by omega
      go_wp2_with (at_builtin; refine wpList_append_bs rfl _ _ rfl w.heap.size _ _ _ _ _ _ [c] rfl rfl hown' B1.out hn1 hs1 ?_; intro v2 w2 hown2 hgrow2)
      have hB2 : Below w.heap.size w w2 := hB1.grown hgrow2 hB1.size (fun j hj => (hown'.lt j hj).1)
      clear hgrow2
      go_step3
      rw [show ((k : Int) + 1) = ((k + 1 : Nat) : Int) by omega]
      refine ⟨rfl, TJ.mk (k + 1) (o ++ [c]) _ _ rfl rfl (by omega) (by rw [HL.out]; omega) (by simp only [List.length_append, List.length_cons, List.length_nil]; omega) E.out (by rw [List.length_append, List.map_append]; exact hown2) hB2, ?_⟩
      simp [intOf]
      omega
    · obtain rfl : k = r.length + 1 := by omega
      have hkz : (((r.length + 1 : Nat) : Int) == (r.length : Int) + 1) = true := by simp
      have E : Hid (R = ([], ((r.length + 1 : Nat) : Int), 40)) := by
        have := HQ.out
        rw [List.drop_eq_nil_of_le (by rw [HL.out]; omega)] at this
        exact this
      clear HQ HR0
      go_wp2
      simp only [Exit.jump]
      go_ret3
      exact ⟨_, by rw [E.out]; rfl, by rw [E.out]; exact World.ownsRow_nil _ _ _ _, hb⟩

set_option maxHeartbeats 1000000 in
theorem ptak_no (c : Int) (r : List Int) (w : World) (hz : Hid (∀ i, 0 ≤ (c :: r).getD i 0 ∧ (c :: r).getD i 0 ≤ 255)) (h34 : (c != 34) = true) (h39 : (c != 39) = true) :
    Calls Tryd.prog 54 #[.string (strOfNums (c :: r))] w fun e w' => ∃ v, e = .returned (.tuple #[v, .int .i64 0, .int .i64 40]) ∧
      w'.ownsRow w.heap.size 5 1 v 0 [] ∧ Below w.heap.size w w' := by
  have hsz := strOfNums_size (c :: r)
  have hat0 := str_at (c :: r) hz.out 0 (by rw [hsz]; simp)
  have hne := str_ne c r
  rw [show (c :: r).getD 0 0 = c from rfl] at hat0
  simp only [List.length_cons] at hsz
  generalize strOfNums (c :: r) = S at hsz hat0 hne
  go_enter Tryd.func54, Tryd.ntmps54
  go_wp2
  refine wp_scope_loop 0 (fun _ _ => False) (fun _ _ => 0) rfl ?_ (fun _ _ h => h.elim)
  intro _
  go_wp2
  simp only [Exit.jump]
  go_ret3
  exact ⟨_, rfl, World.ownsRow_nil _ _ _ _, Below.refl _ _⟩

theorem ptak_nil (w : World) :
    Calls Tryd.prog 54 #[.string (strOfNums [])] w fun e w' => ∃ v, e = .returned (.tuple #[v, .int .i64 0, .int .i64 40]) ∧
      w'.ownsRow w.heap.size 5 1 v 0 [] ∧ Below w.heap.size w w' := by
  have hne : ((strOfNums []).toList == []) = true := by rw [str_list]; rfl
  generalize strOfNums [] = S at hne
  go_enter Tryd.func54, Tryd.ntmps54
  go_wp2
  refine wp_scope_loop 0 (fun _ _ => False) (fun _ _ => 0) rfl ?_ (fun _ _ h => h.elim)
  intro _
  go_wp2
  simp only [Exit.jump]
  go_ret3
  exact ⟨_, rfl, World.ownsRow_nil _ _ _ _, Below.refl _ _⟩

theorem ptak_any (zs : List Int) (w : World) (hT : Hid (QTab w)) (hz : Hid (∀ i, 0 ≤ zs.getD i 0 ∧ zs.getD i 0 ≤ 255)) (hlen : (zs.length : Int) ≤ 100000000) :
    Calls Tryd.prog 54 #[.string (strOfNums zs)] w fun e w' => ∃ v, e = .returned (.tuple #[v, .int .i64 (qtake zs).2.1, .int .i64 (qtake zs).2.2]) ∧
      w'.ownsRow w.heap.size 5 1 v (qtake zs).1.length ((qtake zs).1.map (Value.int .u8)) ∧ Below w.heap.size w w' := by
  cases zs with
  | nil => exact ptak_nil w
  | cons c r =>
    simp only [List.length_cons] at hlen
    rw [qtake]
    by_cases h : c = 34 ∨ c = 39
    · rw [if_pos h]
      rcases h with rfl | rfl
      · exact ptak_34 r w hT hz (by omega)
      · exact ptak_39 r w hT hz (by omega)
    · rw [if_neg h]
      exact ptak_no c r w hz (by simp; omega) (by simp; omega)

end Go.Proofs.YtjkcmcefmciinaaDoor
