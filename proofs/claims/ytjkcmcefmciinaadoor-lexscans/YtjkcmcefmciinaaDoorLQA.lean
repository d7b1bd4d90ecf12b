/- The contract of the reference's own Scan, put together of its pieces. -/
import Derived.Test.YtjkcmcefmciinaaDoorLQ1
import Derived.Test.YtjkcmcefmciinaaDoorLQ3
import Derived.Test.YtjkcmcefmciinaaDoorLQ4
import Derived.Test.YtjkcmcefmciinaaDoorLQ6
import Derived.Test.YtjkcmcefmciinaaDoorLQ8
import Derived.Test.YtjkcmcefmciinaaDoorLQ9
namespace Go.Proofs.YtjkcmcefmciinaaDoor
open Go.RowKit
set_option linter.unusedVariables false
set_option linter.unusedSimpArgs false

theorem rT_eq : rT = .seq rT1 (.seq rT2 (.seq rSW rT3)) := rfl

theorem rB_eq : rB = .seq rP1 (.seq rP2 (.seq rP3 (.seq rP4 rT))) := rfl

theorem rloop_eq : rloop = .loop (.block 1 rB) := rfl

theorem sw_any (S : ByteArray) (s : List Int) (o m : Value) (i : Nat) (us : Nat → Value) (W : World) (D : List Int) (HS : Hid (Src S s)) (hlen : (s.length : Int) ≤ 100000) (hi : i < s.length) :
    Goes rSW (RF S o m (.int .i64 (i : Int)) (.pointer (some ⟨W.heap.size, 0, none⟩)) (.int .i64 ((i + 1 : Nat) : Int)) us) (W.alloc (.cells #[.int .i64 0, .string { data := #[] }, .int .u64 0, .int .i64 (i : Int), .string (strOfNums D)] 40))
      (fun a w3 => ∃ kd tx n k2, ltok s i D = .inl (⟨kd, tx, n, i, D⟩, k2) ∧ TkBlk W w3 kd tx n i D ∧ ∃ us, a = RF S o m (.int .i64 (i : Int)) (.pointer (some ⟨W.heap.size, 0, none⟩)) (.int .i64 ((k2 : Nat) : Int)) us) Nev
      (fun a w3 => ∃ p e, ltok s i D = .inr (p, e) ∧ a.tmps.getD 2 undef = .slice none 0 0 ∧ a.tmps.getD 3 undef = .int .i64 p ∧ a.tmps.getD 4 undef = .int .i64 e ∧ a.defers = [] ∧ Below W.heap.size W w3) := by
  by_cases hl : lletter (s.getD i 0) = true
  · by_cases hn : lnumb (s.getD i 0) = true
    · by_cases hq : (qnum (lpc s i (lrun lletter s s.length (s.length - (i + 1)) (i + 1)))).2 = true
      · refine (sw_num S s o m i us W D HS hlen hi hl hn hq).mono ?_ Nev.any Nev.any
        intro a w h
        exact ⟨_, _, _, _, by unfold ltok; rw [if_pos hl]; simp only; rw [if_pos hn, if_pos hq], h⟩
      · refine (sw_bad S s o m i us W D HS hlen hi hl hn (Bool.eq_false_iff.2 hq)).mono Nev.any Nev.any ?_
        intro a w h
        exact ⟨_, _, by unfold ltok; rw [if_pos hl]; simp only; rw [if_pos hn, if_neg hq], h⟩
    · refine (sw_name S s o m i us W D HS hlen hi hl (Bool.eq_false_iff.2 hn)).mono ?_ Nev.any Nev.any
      intro a w h
      exact ⟨_, _, _, _, by unfold ltok; rw [if_pos hl]; simp only; rw [if_neg hn], h⟩
  · have hl' := Bool.eq_false_iff.2 hl
    by_cases hq : s.getD i 0 = 34 ∨ s.getD i 0 = 39
    · by_cases he : (qtake (s.drop i)).2.2 = 0
      · refine (sw_text S s o m i us W D HS hlen hi hl' hq he).mono ?_ Nev.any Nev.any
        intro a w h
        exact ⟨_, _, _, _, by unfold ltok; rw [if_neg hl, if_pos hq, if_pos he], h⟩
      · refine (sw_tbad S s o m i us W D HS hlen hi hl' hq he).mono Nev.any Nev.any ?_
        intro a w h
        exact ⟨_, _, by unfold ltok; rw [if_neg hl, if_pos hq, if_neg he], h⟩
    · by_cases hs : lsign (s.getD i 0) = true
      · refine (sw_sign S s o m i us W D HS hlen hi hl' hq hs).mono ?_ Nev.any Nev.any
        intro a w h
        exact ⟨_, _, _, _, by unfold ltok; rw [if_neg hl, if_neg hq, if_pos hs], h⟩
      · refine (sw_none S s o m i us W D HS hlen hi hl' hq (Bool.eq_false_iff.2 hs)).mono Nev.any Nev.any ?_
        intro a w h
        exact ⟨_, _, by unfold ltok; rw [if_neg hl, if_neg hq, if_neg hs], h⟩

theorem Goes.seqN {x y : Code} {a : Act} {w : World} {M N X Rt : Act → World → Prop} (h1 : Goes x a w M Nev Nev) (h2 : ∀ a w, M a w → Goes y a w N X Rt) : Goes (.seq x y) a w N X Rt :=
  (h1.mono (fun _ _ h => h) Nev.any Nev.any).seq h2

theorem t_any (S : ByteArray) (s : List Int) (o m t9 k10 : Value) (i : Nat) (us : Nat → Value) (w W : World) (out : List Tk) (ms : List Nat) (HS : Hid (Src S s)) (HL : Hid (s.length ≤ 100000)) (hi : i < s.length) (hml : ms.length ≤ s.length) (hol : out.length ≤ s.length)
    (HM : Hid (∀ j, ms.getD j 0 ≤ 1000000)) (HMo : Hid (W.ownsRow w.heap.size 3 1 m ms.length (mcells ms))) (HTo : Hid (To W w.heap.size o out)) (HB : Hid (Below w.heap.size w W)) :
    Goes rT (RF S o m (.int .i64 (i : Int)) t9 k10 us) W
      (fun a w3 => ∃ t k2 o2, ltok s i (ldoc s i ms) = .inl (t, k2) ∧ (∃ t9 k10 us, a = RF S o2 m (.int .i64 ((k2 : Nat) : Int)) t9 k10 us) ∧ To w3 w.heap.size o2 (out ++ [t]) ∧ w3.ownsRow w.heap.size 3 1 m ms.length (mcells ms) ∧ Below w.heap.size w w3) Nev
      (fun a w3 => ∃ p e, ltok s i (ldoc s i ms) = .inr (p, e) ∧ Rtn w ([], p, e) a w3) := by
  have hlen : (s.length : Int) ≤ 100000 := by have := HL.out; omega
  have hle := HL.out
  rw [rT_eq]
  refine (t1 S s o m t9 k10 i us w W ms HS HL hi hml HM HMo).seqN ?_
  rintro a w1 ⟨rfl, us1, rfl⟩
  refine (t2 S s o m _ k10 i us1 _ hi hlen).seqN ?_
  rintro a w1 ⟨rfl, us2, rfl⟩
  refine ((sw_any S s o m i us2 W (ldoc s i ms) HS hlen hi).mono (fun _ _ h => h) Nev.any ?_).seq ?_
  · rintro a w1 ⟨p, e, h1, h2, h3, h4, h5, h6⟩
    exact ⟨p, e, h1, _, h2, h3, h4, h5, To.nil _ _, HB.out.trans (h6.mono HB.out.size)⟩
  · rintro a w1 ⟨kd, tx, n, k2, h1, h2, us3, rfl⟩
    have hok := ltok_ok s i _ _ _ hi (mem_bd HS.out.bd) h1
    have hdb := ldoc_bd s i ms (mem_bd HS.out.bd)
    refine (t3 S s o m _ k2 i us3 w W w1 out kd tx n (ldoc s i ms) h2 HTo HB ⟨hok.2.2.2.2.2, hdb⟩ (by omega)).mono ?_ Nev.any Nev.any
    rintro a w3 ⟨o2, ⟨us4, rfl⟩, h3, h4, h5⟩
    exact ⟨_, k2, o2, h1, ⟨_, _, us4, rfl⟩, h3, h5 ms HMo.out, h4⟩

/-- A round goes on behind its place, or returns what it must. -/
def Fwd (w : World) (S : ByteArray) (s : List Int) (R : List Tk × Int × Int) (i : Nat) (a : Act) (w' : World) : Prop :=
  ∃ o m i2 t9 k10 us, a = RF S o m (.int .i64 ((i2 : Nat) : Int)) t9 k10 us ∧ i < i2 ∧ i2 ≤ s.length ∧ SJ w s R o m (.int .i64 ((i2 : Nat) : Int)) w'

theorem b_any (S : ByteArray) (s : List Int) (R : List Tk × Int × Int) (o m t9 k10 : Value) (i f : Nat) (us : Nat → Value) (w W : World) (out : List Tk) (ms : List Nat) (HS : Hid (Src S s)) (HL : Hid (s.length ≤ 100000)) (hi : i ≤ s.length) (hf : s.length < i + f) (hol : out.length ≤ i) (hml : ms.length ≤ i)
    (HM : Hid (∀ j, ms.getD j 0 ≤ 1000000)) (HR : Hid (R = lsc s f i out ms)) (HTo : Hid (To W w.heap.size o out)) (HMo : Hid (W.ownsRow w.heap.size 3 1 m ms.length (mcells ms))) (HB : Hid (Below w.heap.size w W)) :
    Goes rB (RF S o m (.int .i64 (i : Int)) t9 k10 us) W (Fwd w S s R i) (Fwd w S s R i) (Rtn w R) := by
  have hlen : (s.length : Int) ≤ 100000 := by have := HL.out; omega
  have hle := HL.out
  obtain ⟨f, rfl⟩ : ∃ g, f = g + 1 := ⟨f - 1, by omega⟩
  have hE := HR.out
  rw [lsc] at hE
  simp only at hE
  have hge := lrun_ge lblank s s.length (s.length - i) i
  have hkl := lrun_le lblank s s.length (s.length - i) i hi
  rw [rB_eq]
  refine (g1 S s o m t9 k10 i us W HS hlen hi).seqN ?_
  generalize lrun lblank s s.length (s.length - i) i = k at hE hge hkl
  rintro a w1 ⟨rfl, us1, rfl⟩
  by_cases hk : k = s.length
  · subst hk
    rw [if_pos rfl] at hE
    exact ((g2_end S s o m t9 k10 us1 w w1 R out ms HS HL (by omega) (by omega) HM HTo HMo HB hE).mono Nev.any Nev.any (fun _ _ h => h)).seq (M := Nev) (fun _ _ h => h.elim)
  rw [if_neg hk] at hE
  have hk' : k < s.length := by omega
  refine (g2_on S s o m t9 k10 k us1 w1 HS hk').seqN ?_
  rintro a w2 ⟨rfl, us2, rfl⟩
  by_cases k1 : k + 1 < s.length ∧ s.getD k 0 = 47 ∧ s.getD (k + 1) 0 = 47
  · rw [if_pos k1] at hE
    have h2 := line_ge s k k1.1 k1.2.1 k1.2.2 rfl
    have h3 := lrun_le leol s s.length (s.length - k) k (by omega)
    refine Goes.seq (M := Nev) ((g3_yes S s o m t9 k10 k us2 w2 HS hlen k1).mono Nev.any ?_ Nev.any) (fun _ _ h => h.elim)
    rintro a w3 ⟨rfl, us3, rfl⟩
    exact ⟨o, m, _, t9, k10, us3, rfl, by omega, h3, _, f, out, ms, rfl, h3, by omega, by omega, by omega, HM, hE, HTo.out, HMo.out, HB.out⟩
  rw [if_neg k1] at hE
  refine (g3_no S s o m t9 k10 k us2 w2 HS hlen hk' k1).seqN ?_
  rintro a w3 ⟨rfl, us3, rfl⟩
  by_cases k2 : k + 1 < s.length ∧ s.getD k 0 = 47 ∧ s.getD (k + 1) 0 = 42
  · rw [if_pos k2] at hE
    have h2 := lcl_ge s (s.length - (k + 2)) (k + 2)
    refine Goes.seq (M := Nev) ((g4_yes S s o m t9 k10 k us3 w w3 out ms HS hlen k2 (by omega) HTo HMo HB).mono Nev.any ?_ ?_) (fun _ _ h => h.elim)
    · rintro a w4 ⟨hK, ⟨m2, us4, rfl, hm2⟩, hto, hb⟩
      rw [if_pos hK] at hE
      refine ⟨o, m2, _, t9, k10, us4, rfl, by omega, by omega, _, f, out, _, rfl, by omega, by omega, by omega, by simp only [List.length_append, List.length_cons, List.length_nil]; omega, ?_, hE, hto, hm2, hb⟩
      intro j
      rcases Nat.lt_or_ge j ms.length with hj | hj
      · have := HM.out j
        simpa [List.getD, List.getElem?_append_left hj] using this
      · rw [List.getD, List.getElem?_append_right hj]
        match j - ms.length with
        | 0 => simp; omega
        | 1 => simp; omega
        | n + 2 => simp
    · rintro a w4 ⟨hK, hr⟩
      rw [if_neg hK] at hE
      rw [hE]
      exact hr
  rw [if_neg k2] at hE
  refine (g4_no S s o m t9 k10 k us3 w3 HS hlen hk' k2).seqN ?_
  rintro a w4 ⟨rfl, us4, rfl⟩
  refine (t_any S s o m t9 k10 k us4 w w4 out ms HS HL hk' (by omega) (by omega) HM HMo HTo HB).mono ?_ Nev.any ?_
  · rintro a w5 ⟨t, k3, o2, h1, ⟨t9', k10', us5, rfl⟩, h2, h3, h4⟩
    rw [h1] at hE
    simp only at hE
    have hok := ltok_ok s k _ _ _ hk' (mem_bd HS.out.bd) h1
    obtain ⟨_, _, hlt, hle3, _⟩ := hok
    exact ⟨o2, m, k3, t9', k10', us5, rfl, by omega, hle3, k3, f, out ++ [t], ms, rfl, hle3, by omega, by simp; omega, by omega, HM, hE, h2, h3, h4⟩
  · rintro a w5 ⟨p, e, h1, h2⟩
    rw [h1] at hE
    simp only at hE
    rw [hE]
    exact h2

/-- What holds at the head of Scan's loop. -/
def LI (w : World) (S : ByteArray) (s : List Int) (R : List Tk × Int × Int) (a : Act) (w' : World) : Prop :=
  ∃ o m i t9 k10 us, a = RF S o m (.int .i64 ((i : Nat) : Int)) t9 k10 us ∧ i ≤ s.length ∧ SJ w s R o m (.int .i64 ((i : Nat) : Int)) w'

theorem LI.mk {w : World} {S : ByteArray} {s : List Int} {R : List Tk × Int × Int} {a : Act} {w' : World} {o m t9 k10 : Value} {i : Nat} (us : Nat → Value) (_hu : us = fun k => a.tmps.getD k undef) (h : a = RF S o m (.int .i64 ((i : Nat) : Int)) t9 k10 us) (hi : i ≤ s.length) (hs : SJ w s R o m (.int .i64 ((i : Nat) : Int)) w') : LI w S s R a w' :=
  ⟨o, m, i, t9, k10, us, h, hi, hs⟩

set_option maxRecDepth 100000 in
theorem RF_seven (S : ByteArray) (o m iv t9 k10 : Value) (us : Nat → Value) : (RF S o m iv t9 k10 us).tmps.getD 7 undef = iv := rfl

theorem rloop_any (S : ByteArray) (s : List Int) (R : List Tk × Int × Int) (w W : World) (a : Act) (HS : Hid (Src S s)) (HL : Hid (s.length ≤ 100000)) (hI : LI w S s R a W) (Q : Exit → Act → World → Prop) (hQ : ∀ a w', Rtn w R a w' → Q .ret a w') : rloop.wp Tryd.prog Q a W := by
  rw [rloop_eq]
  refine wp_loop (LI w S s R) (fun a _ => s.length + 1 - (intOf (a.tmps.getD 7 undef)).toNat) hI ?_
  rintro a wr ⟨o, m, i0, t9, k10, us, rfl, hi0, i, f, out, ms, he, hi, hf, hol, hml, HM, HR, hTo, hMo, hB⟩
  obtain rfl : i0 = i := by simp at he; omega
  refine wp_block ?_
  have hfw : ∀ a w', Fwd w S s R i0 a w' → LI w S s R a w' ∧ s.length + 1 - (intOf (a.tmps.getD 7 undef)).toNat < s.length + 1 - (intOf ((RF S o m (.int .i64 ((i0 : Nat) : Int)) t9 k10 us).tmps.getD 7 undef)).toNat := by
    rintro a w' ⟨o2, m2, i2, t9', k10', us2, rfl, h1, h2, h3⟩
    refine ⟨⟨o2, m2, i2, t9', k10', us2, rfl, h2, h3⟩, ?_⟩
    rw [RF_seven, RF_seven]
    simp only [intOf, Int.toNat_natCast]
    omega
  refine b_any S s R o m t9 k10 i0 f us w wr out ms HS HL hi hf hol hml HM HR hTo hMo hB _ ?_ ?_ ?_
  · intro a w' h
    exact hfw a w' h
  · intro a w' h
    simp only [Exit.inBlock, if_true, Exit.then]
    exact hfw a w' h
  · intro a w' h
    exact hQ a w' h

set_option maxRecDepth 100000 in
set_option maxHeartbeats 4000000 in
theorem rscan_go (S : ByteArray) (s : List Int) (w : World) (HS : Hid (Src S s)) (HL : Hid (s.length ≤ 100000)) (R : List Tk × Int × Int) (HR : Hid (R = lsc s (s.length + 1) 0 [] [])) :
    Calls Tryd.prog 11 #[.string S] w fun e w' => ScanEnd w R e w' := by
  have hsz := HS.out.sz
  have hlen : (s.length : Int) ≤ 100000 := by have := HL.out; omega
  have hlen2 : decide ((100000 : Int) < (s.length : Int)) = false := by have := HL.out; simp; omega
  go_enter Tryd.func11, Tryd.ntmps11
  go_wp2
  refine rloop_any S s R w w _ HS HL ?_ _ ?_
  · exact LI.mk (o := .slice none 0 0) (m := .slice none 0 0) (t9 := undef) (k10 := undef) (i := 0) _ rfl rfl (Nat.zero_le _) ⟨0, s.length + 1, [], [], rfl, by omega, by omega, by simp, by simp, fun j => by simp, HR, To.nil _ _, World.ownsRow_nil _ _ _ _, Below.refl _ _⟩
  · rintro a w' ⟨v, h2, h3, h4, h5, h6, h7⟩
    refine bodyPost_ret (results_tmp3 rfl _ _ _) h5 ?_
    rw [h2, h3, h4]
    exact ⟨v, rfl, h6, h7⟩

theorem rscan_any (s : List Int) (w : World) (hz : Hid (∀ i, 0 ≤ s.getD i 0 ∧ s.getD i 0 ≤ 255)) (hlen : s.length ≤ 100000) :
    Calls Tryd.prog 11 #[.string (strOfNums s)] w fun e w' => ScanEnd w (lscan s) e w' := by
  rw [lscan, if_neg (by omega)]
  exact rscan_go (strOfNums s) s w ⟨strOfNums_size s, hz.out, rfl⟩ hlen _ rfl

end Go.Proofs.YtjkcmcefmciinaaDoor
