/- Put together by a program out of these texts of mine: CkN, CkG. -/
import Derived.Test.YtcnjjhdmnagkgaaGreatDoorBunC5
import Derived.Test.YtcnjjhdmnagkgaaGreatDoorBunC12
import Derived.Test.YtcnjjhdmnagkgaaGreatDoorBunC13

namespace Go.Proofs.YtcnjjhdmnagkgaaGreatDoor
open Go.RowKit
set_option linter.unusedVariables false
set_option linter.unusedSimpArgs false

set_option maxRecDepth 100000 in
set_option maxHeartbeats 8000000 in
theorem ckCount2 (m : List Int) (hmb : Hid (byts m)) (hml : m.length ≤ 1000) (gf : Nat) (R : Array Value) (s t : ByteArray) (hR : R = exR s t) (W : World) (hrow : Hid (Ob W gf R 34)) :
    Calls Tryz.prog 78 #[.agg (exG (strOfNums m) gf 2), .string (strOfNums []), .pointer none] W fun e w' => ∃ g b6 b7 b8 b9, e = .returned (.pointer (some ⟨g, 0, none⟩)) ∧ W.heap.size ≤ g ∧ W.heap.size ≤ b6 ∧ Fs W w' g gf 2 b6 b7 b8 b9 (strOfNums m) R := by
  subst hR
  have QJ : Hid _ := fun V => pjoin_any [] m V trivial (show Hid (byts []) from fun x hx => by cases hx) hmb (by simp) (by omega)
  have hnj : njoin [] m = m := by unfold njoin; rfl
  rw [hnj] at QJ
  clear hnj
  have hmm := @run_makeMap Tryz.prog
  generalize strOfNums m = M at *
  generalize hS0 : strOfNums [] = S0 at *
  obtain ⟨w1, hw1⟩ : ∃ w1, W.alloc (.cells (exG M gf 2) 42) = w1 := ⟨_, rfl⟩
  have hb1 : Below W.heap.size W w1 := by rw [← hw1]; exact (Below.refl _ _).alloc (Nat.le_refl _) _
  have o1 : Ob w1 W.heap.size (exG M gf 2) 42 := by rw [← hw1]; exact Ob.new _ _ _
  have HW1 : Hid _ := hw1
  have HB1 : Hid _ := hb1
  have O1 : Hid (Ob w1 W.heap.size (exG M gf 2) 42) := o1
  clear hw1 hb1 o1
  unfold exG at HW1 ⊢
  go_enter Tryz.func78, Tryz.ntmps78
  go_upto_region 1 with fail
  rw [HW1.out]
  obtain ⟨p, hp⟩ : ∃ p : Nat → Value, p = fun k => ((#[.agg (exG M gf 2), .string S0, .pointer none, .pointer (some ⟨W.heap.size, 0, none⟩), undef, undef, .pointer none] : Array Value).toList ++ List.replicate 86 undef).getD k undef := ⟨_, rfl⟩
  have hp1 : p 1 = .string S0 := by rw [hp]; rfl
  have hp2 : p 2 = .pointer none := by rw [hp]; rfl
  have hp3 : p 3 = .pointer (some ⟨W.heap.size, 0, none⟩) := by rw [hp]; rfl
  refine wp_region_inv' (by kernel_rfl) (by kernel_rfl) (mI w1 p M gf 2 W.heap.size (.string S0)) ?h0 ?hstep ?hend
  case h0 =>
    refine ⟨fun _ => undef, by rw [hp]; rfl, ⟨(Below.refl _ _).drew, fun i h => (by cases h), fun i j b _ _ _ _ h => (by cases h), fun h => (by cases h), fun h => (by cases h), fun h => (by cases h)⟩⟩
  case hstep =>
    clear hp
    rintro L a w i o ⟨us, rfl, hm⟩ ho hL hd
    have hi : i < 13 := (Array.getElem?_eq_some_iff.1 ho).1
    have OB := (O1.out.below hm.bel O1.out.lt)
    unfold exG at OB
    obtain ⟨⟨c0, c1, c2, c3, c4, c5, c6, c7, c8, c9, c10⟩, _, cl⟩ := ob11 OB
    clear OB
    have HM : Hid (mOk w1 w M gf 2 W.heap.size (.string S0) us L) := hm
    have HL : Hid (L i = false) := hL
    match i, hi with
    | 0, _ =>
      have hoe := Option.some.inj ho
      subst hoe
      have HD : Hid _ := hd
      clear hm hL hd ho
      refine wpOp_listP rfl ?_
      intro Q1 hQ1 hPn
      have HQ : Hid _ := hQ1
      clear hQ1 hPn
      simp only [mfr, exG, hp1, hp2, hp3]
      go_wp2
      refine HQ.out _ _ ?_
      clear HQ
      exact ⟨upm us 0 (.agg (exG M gf 2)), by simp [mfr, upm, exG, hp1, hp2, hp3], HM.out.step 0 _ HL.out (Below.refl _ _) rfl (fun h1 h2 => by omega) (fun h => by omega) (fun h => by omega) (fun h => by omega)⟩
    | 1, _ =>
      have hoe := Option.some.inj ho
      subst hoe
      have HD : Hid _ := hd
      clear hm hL hd ho
      refine wpOp_listP rfl ?_
      intro Q1 hQ1 hPn
      have HQ : Hid _ := hQ1
      clear hQ1 hPn
      simp only [mfr, hp1, hp2, hp3]
      go_wp2
      refine HQ.out _ _ ?_
      clear HQ
      exact ⟨upm us 1 (.string S0), by simp [mfr, upm, hp1, hp2, hp3], HM.out.step 1 _ HL.out (Below.refl _ _) rfl (fun h1 h2 => by omega) (fun h => by omega) (fun h => by omega) (fun h => by omega)⟩
    | 2, _ =>
      have hoe := Option.some.inj ho
      subst hoe
      have HD : Hid _ := hd
      clear hm hL hd ho
      refine wpOp_listP rfl ?_
      intro Q1 hQ1 hPn
      have HQ : Hid _ := hQ1
      clear hQ1 hPn
      simp only [mfr, hp1, hp2, hp3]
      go_wp2
      refine HQ.out _ _ ?_
      clear HQ
      exact ⟨upm us 2 (.pointer (some ⟨W.heap.size, 0, none⟩)), by simp [mfr, upm, hp1, hp2, hp3], HM.out.step 2 _ HL.out (Below.refl _ _) rfl (fun h1 h2 => by omega) (fun h => by omega) (fun h => by omega) (fun h => by omega)⟩
    | 3, _ =>
      have hoe := Option.some.inj ho
      subst hoe
      have e2 := hm.sl 2 (hd { on := 2, ground := .data } (by simp) rfl)
      simp only [mSl] at e2
      have HD : Hid _ := hd
      clear hm hL hd ho
      refine wpOp_listP rfl ?_
      intro Q1 hQ1 hPn
      have HQ : Hid _ := hQ1
      clear hQ1 hPn
      simp only [mfr, hp1, hp2, hp3, e2]
      go_wp2
      refine HQ.out _ _ ?_
      clear HQ
      exact ⟨upm us 3 (.string M), by simp [mfr, upm, hp1, hp2, hp3, e2], HM.out.step 3 _ HL.out (Below.refl _ _) rfl (fun h1 h2 => by omega) (fun h => by omega) (fun h => by omega) (fun h => by omega)⟩
    | 4, _ =>
      have hoe := Option.some.inj ho
      subst hoe
      have e1 := hm.sl 1 (hd { on := 1, ground := .data } (by simp) rfl)
      simp only [mSl] at e1
      have e3 := hm.sl 3 (hd { on := 3, ground := .data } (by simp) rfl)
      simp only [mSl] at e3
      have HD : Hid _ := hd
      clear hm hL hd ho
      refine wpOp_listP rfl ?_
      intro Q1 hQ1 hPn
      have HQ : Hid _ := hQ1
      clear hQ1 hPn
      simp only [mfr, hp1, hp2, hp3, e1, e3]
      go_wp2_with fail
      refine Calls.mono (QJ.out _) ?_
      rintro e w2 ⟨rfl, hb2⟩
      have HB2 : Hid _ := hb2
      clear hb2
      go_wp2
      refine HQ.out _ _ ?_
      clear HQ
      exact ⟨upm us 4 (.string M), by simp [mfr, upm, hp1, hp2, hp3, e1, e3], HM.out.step 4 _ HL.out HB2.out rfl (fun h1 h2 => by omega) (fun h => by omega) (fun h => by omega) (fun h => by omega)⟩
    | 5, _ =>
      have hoe := Option.some.inj ho
      subst hoe
      have HD : Hid _ := hd
      clear hm hL hd ho
      refine wpOp_listP rfl ?_
      intro Q1 hQ1 hPn
      have HQ : Hid _ := hQ1
      clear hQ1 hPn
      simp only [mfr, hp1, hp2, hp3]
      go_wp2
      refine HQ.out _ _ ?_
      clear HQ
      exact ⟨upm us 5 (.pointer none), by simp [mfr, upm, hp1, hp2, hp3], HM.out.step 5 _ HL.out (Below.refl _ _) rfl (fun h1 h2 => by omega) (fun h => by omega) (fun h => by omega) (fun h => by omega)⟩
    | 6, _ =>
      have hoe := Option.some.inj ho
      subst hoe
      have HD : Hid _ := hd
      clear hm hL hd ho
      refine wpOp_listP rfl ?_
      intro Q1 hQ1 hPn
      have HQ : Hid _ := hQ1
      clear hQ1 hPn
      simp only [mfr, hp1, hp2, hp3]
      go_wp2
      refine HQ.out _ _ ?_
      clear HQ
      exact ⟨upm us 6 (.map (some w.heap.size)), by simp [mfr, upm, hp1, hp2, hp3], HM.out.step 6 _ HL.out ((Below.refl _ _).alloc (Nat.le_refl _) _) ⟨w.heap.size, rfl, HM.out.bel.size, heap_alloc_new w _⟩ (fun _ _ b e => by cases e; exact Nat.le_refl _) (fun h => by omega) (fun h => by omega) (fun h => by omega)⟩
    | 7, _ =>
      have hoe := Option.some.inj ho
      subst hoe
      have HD : Hid _ := hd
      clear hm hL hd ho
      refine wpOp_listP rfl ?_
      intro Q1 hQ1 hPn
      have HQ : Hid _ := hQ1
      clear hQ1 hPn
      simp only [mfr, hp1, hp2, hp3]
      go_wp2
      refine HQ.out _ _ ?_
      clear HQ
      exact ⟨upm us 7 (.map (some w.heap.size)), by simp [mfr, upm, hp1, hp2, hp3], HM.out.step 7 _ HL.out ((Below.refl _ _).alloc (Nat.le_refl _) _) ⟨w.heap.size, rfl, HM.out.bel.size, heap_alloc_new w _⟩ (fun _ _ b e => by cases e; exact Nat.le_refl _) (fun h => by omega) (fun h => by omega) (fun h => by omega)⟩
    | 8, _ =>
      have hoe := Option.some.inj ho
      subst hoe
      have HD : Hid _ := hd
      clear hm hL hd ho
      refine wpOp_listP rfl ?_
      intro Q1 hQ1 hPn
      have HQ : Hid _ := hQ1
      clear hQ1 hPn
      simp only [mfr, hp1, hp2, hp3]
      go_wp2
      refine HQ.out _ _ ?_
      clear HQ
      exact ⟨upm us 8 (.map (some w.heap.size)), by simp [mfr, upm, hp1, hp2, hp3], HM.out.step 8 _ HL.out ((Below.refl _ _).alloc (Nat.le_refl _) _) ⟨w.heap.size, rfl, HM.out.bel.size, heap_alloc_new w _⟩ (fun _ _ b e => by cases e; exact Nat.le_refl _) (fun h => by omega) (fun h => by omega) (fun h => by omega)⟩
    | 9, _ =>
      have hoe := Option.some.inj ho
      subst hoe
      have HD : Hid _ := hd
      clear hm hL hd ho
      refine wpOp_listP rfl ?_
      intro Q1 hQ1 hPn
      have HQ : Hid _ := hQ1
      clear hQ1 hPn
      simp only [mfr, hp1, hp2, hp3]
      go_wp2
      refine HQ.out _ _ ?_
      clear HQ
      exact ⟨upm us 9 (.map (some w.heap.size)), by simp [mfr, upm, hp1, hp2, hp3], HM.out.step 9 _ HL.out ((Below.refl _ _).alloc (Nat.le_refl _) _) ⟨w.heap.size, rfl, HM.out.bel.size, heap_alloc_new w _⟩ (fun _ _ b e => by cases e; exact Nat.le_refl _) (fun h => by omega) (fun h => by omega) (fun h => by omega)⟩
    | 10, _ =>
      have hoe := Option.some.inj ho
      subst hoe
      have e0 := hm.sl 0 (hd { on := 0, ground := .data } (by simp) rfl)
      simp only [mSl] at e0
      have e4 := hm.sl 4 (hd { on := 4, ground := .data } (by simp) rfl)
      simp only [mSl] at e4
      have e5 := hm.sl 5 (hd { on := 5, ground := .data } (by simp) rfl)
      simp only [mSl] at e5
      have e6 := hm.sl 6 (hd { on := 6, ground := .data } (by simp) rfl)
      simp only [mSl] at e6
      have e7 := hm.sl 7 (hd { on := 7, ground := .data } (by simp) rfl)
      simp only [mSl] at e7
      have e8 := hm.sl 8 (hd { on := 8, ground := .data } (by simp) rfl)
      simp only [mSl] at e8
      have e9 := hm.sl 9 (hd { on := 9, ground := .data } (by simp) rfl)
      simp only [mSl] at e9
      obtain ⟨b6, e6, l6, k6⟩ := e6
      obtain ⟨b7, e7, l7, k7⟩ := e7
      obtain ⟨b8, e8, l8, k8⟩ := e8
      obtain ⟨b9, e9, l9, k9⟩ := e9
      have HD : Hid _ := hd
      clear hm hL hd ho
      refine wpOp_listP rfl ?_
      intro Q1 hQ1 hPn
      have HQ : Hid _ := hQ1
      clear hQ1 hPn
      simp only [mfr, exG, hp1, hp2, hp3, e0, e4, e5, e6, e7, e8, e9]
      go_wp2
      refine HQ.out _ _ ?_
      clear HQ
      exact ⟨upm us 10 (.agg #[.string M, .slice (some ⟨gf, 0, none⟩) 2 2, .slice none 0 0, .slice none 0 0, .slice none 0 0, .slice none 0 0, .slice none 0 0, .slice none 0 0, .slice none 0 0, .slice none 0 0, .slice none 0 0, .string M, .pointer none, .int .i64 0, us 6, us 7, us 8, us 9]), by simp [mfr, upm, exG, hp1, hp2, hp3, e0, e4, e5, e6, e7, e8, e9], HM.out.step 10 _ HL.out (Below.refl _ _) rfl (fun h1 h2 => by omega) (fun _ => ⟨HD.out { on := 6, ground := .data } (by simp) rfl, HD.out { on := 7, ground := .data } (by simp) rfl, HD.out { on := 8, ground := .data } (by simp) rfl, HD.out { on := 9, ground := .data } (by simp) rfl⟩) (fun h => by omega) (fun h => by omega)⟩
    | 11, _ =>
      have hoe := Option.some.inj ho
      subst hoe
      have e10 := hm.sl 10 (hd { on := 10, ground := .data } (by simp) rfl)
      simp only [mSl] at e10
      obtain ⟨k6, k7, k8, k9⟩ := hm.q10 (hd { on := 10, ground := .data } (by simp) rfl)
      obtain ⟨b6, e6, l6, z6⟩ := (show ∃ b, us 6 = .map (some b) ∧ _ ∧ _ from hm.sl 6 k6)
      obtain ⟨b7, e7, l7, z7⟩ := (show ∃ b, us 7 = .map (some b) ∧ _ ∧ _ from hm.sl 7 k7)
      obtain ⟨b8, e8, l8, z8⟩ := (show ∃ b, us 8 = .map (some b) ∧ _ ∧ _ from hm.sl 8 k8)
      obtain ⟨b9, e9, l9, z9⟩ := (show ∃ b, us 9 = .map (some b) ∧ _ ∧ _ from hm.sl 9 k9)
      have HD : Hid _ := hd
      clear hm hL hd ho
      refine wpOp_listP rfl ?_
      intro Q1 hQ1 hPn
      have HQ : Hid _ := hQ1
      clear hQ1 hPn
      simp only [mfr, exG, hp1, hp2, hp3, e10, e6, e7, e8, e9]
      go_wp2
      refine HQ.out _ _ ?_
      clear HQ
      exact ⟨upm us 11 (.pointer (some ⟨w.heap.size, 0, none⟩)), by simp [mfr, upm, exG, hp1, hp2, hp3, e10, e6, e7, e8, e9], HM.out.step 11 _ HL.out ((Below.refl _ _).alloc (Nat.le_refl _) _) ⟨w.heap.size, rfl, HM.out.bel.size, by rw [e6, e7, e8, e9]; exact heap_alloc_new w _⟩ (fun h1 h2 => by omega) (fun h => by omega) (fun _ => HD.out { on := 10, ground := .data } (by simp) rfl) (fun h => by omega)⟩
    | 12, _ =>
      have hoe := Option.some.inj ho
      subst hoe
      have e11 := hm.sl 11 (hd { on := 11, ground := .data } (by simp) rfl)
      simp only [mSl] at e11
      obtain ⟨g, e11, l11, k11⟩ := e11
      have HD : Hid _ := hd
      clear hm hL hd ho
      refine wpOp_listP rfl ?_
      intro Q1 hQ1 hPn
      have HQ : Hid _ := hQ1
      clear hQ1 hPn
      simp only [mfr, hp1, hp2, hp3, e11]
      go_wp2
      refine HQ.out _ _ ?_
      clear HQ
      exact ⟨upm us 12 (us 11), by simp [mfr, upm, hp1, hp2, hp3, e11], HM.out.step 12 _ HL.out (Below.refl _ _) rfl (fun h1 h2 => by omega) (fun h => by omega) (fun h => by omega) (fun _ => HD.out { on := 11, ground := .data } (by simp) rfl)⟩
    | k + 13, h => exact absurd h (by omega)
  case hend =>
    rintro L a w ⟨us, rfl, hm⟩ hall
    have e7' : us 12 = us 11 := hm.sl 12 (hall 12 (by decide))
    obtain ⟨g, e11, l11, k11⟩ := (show ∃ g, us 11 = .pointer (some ⟨g, 0, none⟩) ∧ _ ∧ _ from hm.sl 11 (hall 11 (by decide)))
    obtain ⟨b6, e6, l6, k6⟩ := (show ∃ b, us 6 = .map (some b) ∧ _ ∧ _ from hm.sl 6 (hall 6 (by decide)))
    obtain ⟨b7, e7, l7, k7⟩ := (show ∃ b, us 7 = .map (some b) ∧ _ ∧ _ from hm.sl 7 (hall 7 (by decide)))
    obtain ⟨b8, e8, l8, k8⟩ := (show ∃ b, us 8 = .map (some b) ∧ _ ∧ _ from hm.sl 8 (hall 8 (by decide)))
    obtain ⟨b9, e9, l9, k9⟩ := (show ∃ b, us 9 = .map (some b) ∧ _ ∧ _ from hm.sl 9 (hall 9 (by decide)))
    have n68 : b6 ≠ b8 := fun e => by
      have := hm.ne 6 8 b6 (by decide) (by decide) (by decide) (by decide) (hall 6 (by decide)) (hall 8 (by decide)) e6 (by rw [e8, e])
      omega
    have ng : g ≠ b8 := fun e => by rw [e, k8] at k11; cases k11
    rw [e6, e7, e8, e9] at k11
    have hbw : Below W.heap.size W w := HB1.out.trans (hm.bel.mono HB1.out.size)
    have hsz := HB1.out.size
    have NE : Hid (b6 ≠ b8 ∧ g ≠ b8 ∧ gf ≠ b8 ∧ W.heap.size ≤ b8 ∧ W.heap.size ≤ g ∧ W.heap.size ≤ b6) := ⟨n68, ng, by have := hrow.out.lt; omega, by omega, by omega, by omega⟩
    have OX : Hid (Ob w W.heap.size (exG M gf 2) 42) := O1.out.below hm.bel O1.out.lt
    have FS : Hid (Fs W w g gf 2 b6 b7 b8 b9 M (exR s t)) := ⟨⟨k11⟩, hrow.out.below hbw hrow.out.lt, ⟨#[], 0, k6, MapKept.stamped_empty 0, by simp, rfl, by simp⟩, hbw⟩
    have MM : Hid (Mi w b8 0 (fun _ => none)) := ⟨#[], 0, k8, MapKept.stamped_empty 0, by simp, rfl, by simp⟩
    clear hm hall k6 k7 k8 k9 k11 l6 l7 l8 l9 l11 n68 ng hbw hsz O1 HB1 HW1 hp QJ hmm
    simp only [mfr, hp1, hp2, hp3, e6, e7, e8, e9, e7', e11]
    clear hp1 hp2 hp3 e6 e7 e8 e9 e7' e11
    generalize p 0 = q0
    generalize p 4 = q4
    generalize p 5 = q5
    have ox := OX.out
    unfold exG at ox
    obtain ⟨⟨c0, c1, c2, c3, c4, c5, c6, c7, c8, c9, c10⟩, _, cl⟩ := ob11 ox
    clear ox
    go_wp2
    go_loopw [39] (fun v wr => v = .int .i64 0 ∧ w = wr) (fun _ _ => 0)
    case atStart => exact ⟨rfl, rfl⟩
    case round =>
      obtain ⟨rfl, rfl⟩ := hrel
      go_wp2
      go_loopw [53] (fun v wr => v = .int .i64 0 ∧ w = wr) (fun _ _ => 0)
      case atStart => exact ⟨rfl, rfl⟩
      case round =>
        obtain ⟨rfl, rfl⟩ := hrel
        go_wp2
        clear c0 c1 c2 c3 c4 c5 c6 c7 c8 c9 c10 cl OX
        go_loopw [68] (fun v wr => (v = .int .i64 0 ∧ Hid (Fs W wr g gf 2 b6 b7 b8 b9 M (exR s t) ∧ Mi wr b8 0 (fun _ => none))) ∨ (v = .int .i64 1 ∧ Hid (Fs W wr g gf 2 b6 b7 b8 b9 M (exR s t) ∧ Mi wr b8 1 (fun x => if x = 0 then some (.int .i64 1) else none))) ∨ (v = .int .i64 2 ∧ Hid (Fs W wr g gf 2 b6 b7 b8 b9 M (exR s t) ∧ Mi wr b8 1 (fun x => if x = 0 then some (.int .i64 2) else none)))) (fun v _ => 3 - (intOf v).toNat)
        case atStart => exact .inl ⟨rfl, FS.out, MM.out⟩
        case round =>
          rcases hrel with ⟨rfl, HS⟩ | ⟨rfl, HS⟩ | ⟨rfl, HS⟩
          · have FR := HS.out.1.row
            have HL : Hid (b8 < wr.heap.size) := HS.out.2.lt
            unfold exR at FR
            have d0 : wr.cell? ⟨gf, 0, none⟩ = some _ := FR.cell 0 rfl
            have d1 : wr.cell? ⟨gf, 1, none⟩ = some _ := FR.cell 1 rfl
            have d2 : wr.cell? ⟨gf, 2, none⟩ = some _ := FR.cell 2 rfl
            have d3 : wr.cell? ⟨gf, 3, none⟩ = some _ := FR.cell 3 rfl
            have d4 : wr.cell? ⟨gf, 4, none⟩ = some _ := FR.cell 4 rfl
            have d5 : wr.cell? ⟨gf, 5, none⟩ = some _ := FR.cell 5 rfl
            have d6 : wr.cell? ⟨gf, 6, none⟩ = some _ := FR.cell 6 rfl
            have d7 : wr.cell? ⟨gf, 7, none⟩ = some _ := FR.cell 7 rfl
            have d8 : wr.cell? ⟨gf, 8, none⟩ = some _ := FR.cell 8 rfl
            have d9 : wr.cell? ⟨gf, 9, none⟩ = some _ := FR.cell 9 rfl
            have d10 : wr.cell? ⟨gf, 10, none⟩ = some _ := FR.cell 10 rfl
            have d11 : wr.cell? ⟨gf, 11, none⟩ = some _ := FR.cell 11 rfl
            have d12 : wr.cell? ⟨gf, 12, none⟩ = some _ := FR.cell 12 rfl
            have dl := FR.lt
            obtain ⟨w5, hw5, hb5, o5⟩ := exF_new s wr
            unfold exF at hw5 o5
            have HW5 : Hid _ := hw5
            have F5 : Hid _ := HS.out.1.under hb5 (Nat.le_refl _)
            have M5 : Hid (Mi w5 b8 0 (fun _ => none)) := HS.out.2.below hb5 HS.out.2.lt
            have O5 : Hid _ := o5
            obtain ⟨⟨e0, e1, e2, e3, e4, e5, e6, e7, e8, e9, e10, e11, e12⟩, _, el⟩ := ob13 o5
            have FM := F5.out.msg
            unfold exM at FM
            have f16 := fun x : Ext w5 => x.cell (p := ⟨g, 16, none⟩) FM.lt (FM.cell 16 rfl)
            have g8 := fun x : Ext w5 => x.cell (p := ⟨wr.heap.size, 8, none⟩) el e8
            have hlk : ∀ x : Ext w5, (Instr.lookup 162 (.map (some b8)) (.int .i64 0) false).run Tryz.prog x.val = .ok (.int .i64 0) x.val := fun x => (M5.out.below x.ok M5.out.lt).look (t := 162) (e := 3) Tryz.underlying3 mapII (z := .int .i64 0) (zeroII _) 0 (by decide) false
            clear FR hw5 hb5 o5 HS FM e0 e1 e2 e3 e4 e5 e6 e7 e8 e9 e10 e11 e12
            go_upto_region 17 with fail
            rw [HW5.out]
            clear HW5 d0 d1 d2 d3 d4 d5 d6 d7 d8 d9 d10 d11 d12 dl
            refine wp_region_elast w5 (Below.refl _ _) rfl (by kernel_rfl) (by kernel_rfl) (by kernel_rfl) (by kernel_rfl) ?_
            simp only [List.dropLast]
            repeat (go_big_quiet_step (fail))
            refine wpQuiet_nil ?_
            rintro w7 ⟨⟨_, hb7⟩, rfl⟩ Q1 hQ1
            have HQ : Hid _ := hQ1
            obtain ⟨w8, hup, hm8, hg8⟩ := (M5.out.below hb7 M5.out.lt).put (t := 162) (e := 3) Tryz.underlying3 mapII 0 (by decide) (.int .i64 1)
            have F8 : Hid _ := (F5.out.under hb7 (Nat.le_refl _)).grown hg8 NE.out.2.2.2.1 NE.out.2.1 NE.out.2.2.1 NE.out.1
            have M8 : Hid _ := hm8.congr (g' := fun x => if x = 0 then some (.int .i64 1) else none) (fun x => by by_cases h : x = 0 <;> simp [h])
            have R8 : Hid (Fs W w8 g gf 2 b6 b7 b8 b9 M (exR s t) ∧ Mi w8 b8 _ (fun x => if x = 0 then some (.int .i64 1) else none)) := ⟨F8.out, M8.out⟩
            have O8 := (O5.out.below hb7 O5.out.lt).grown hg8 (fun e => by have h1 := Option.some.inj e; have h2 := M5.out.lt; have h3 := HL.out; omega)
            obtain ⟨⟨e0, e1, e2, e3, e4, e5, e6, e7, e8, e9, e10, e11, e12⟩, _, el2⟩ := ob13 O8
            clear hQ1 hm8 hg8 hb7 f16 g8 hlk F5 M5 O5 O8 el
            go_wp2
            refine HQ.out _ _ ?_
            clear HQ
            go_wp2
            go_roundw
            case rel => first | exact .inr (.inl ⟨by go_num, R8⟩) | ((repeat apply Exists.intro); exact ⟨.inr (.inl ⟨by go_num, R8⟩), rfl⟩)
            case measure => simp [intOf]
          · have FR := HS.out.1.row
            have HL : Hid (b8 < wr.heap.size) := HS.out.2.lt
            unfold exR at FR
            have d0 : wr.cell? ⟨gf, 13, none⟩ = some _ := FR.cell 13 rfl
            have d1 : wr.cell? ⟨gf, 14, none⟩ = some _ := FR.cell 14 rfl
            have d2 : wr.cell? ⟨gf, 15, none⟩ = some _ := FR.cell 15 rfl
            have d3 : wr.cell? ⟨gf, 16, none⟩ = some _ := FR.cell 16 rfl
            have d4 : wr.cell? ⟨gf, 17, none⟩ = some _ := FR.cell 17 rfl
            have d5 : wr.cell? ⟨gf, 18, none⟩ = some _ := FR.cell 18 rfl
            have d6 : wr.cell? ⟨gf, 19, none⟩ = some _ := FR.cell 19 rfl
            have d7 : wr.cell? ⟨gf, 20, none⟩ = some _ := FR.cell 20 rfl
            have d8 : wr.cell? ⟨gf, 21, none⟩ = some _ := FR.cell 21 rfl
            have d9 : wr.cell? ⟨gf, 22, none⟩ = some _ := FR.cell 22 rfl
            have d10 : wr.cell? ⟨gf, 23, none⟩ = some _ := FR.cell 23 rfl
            have d11 : wr.cell? ⟨gf, 24, none⟩ = some _ := FR.cell 24 rfl
            have d12 : wr.cell? ⟨gf, 25, none⟩ = some _ := FR.cell 25 rfl
            have dl := FR.lt
            obtain ⟨w5, hw5, hb5, o5⟩ := exF_new t wr
            unfold exF at hw5 o5
            have HW5 : Hid _ := hw5
            have F5 : Hid _ := HS.out.1.under hb5 (Nat.le_refl _)
            have M5 : Hid (Mi w5 b8 1 (fun x => if x = 0 then some (.int .i64 1) else none)) := HS.out.2.below hb5 HS.out.2.lt
            have O5 : Hid _ := o5
            obtain ⟨⟨e0, e1, e2, e3, e4, e5, e6, e7, e8, e9, e10, e11, e12⟩, _, el⟩ := ob13 o5
            have FM := F5.out.msg
            unfold exM at FM
            have f16 := fun x : Ext w5 => x.cell (p := ⟨g, 16, none⟩) FM.lt (FM.cell 16 rfl)
            have g8 := fun x : Ext w5 => x.cell (p := ⟨wr.heap.size, 8, none⟩) el e8
            have hlk : ∀ x : Ext w5, (Instr.lookup 162 (.map (some b8)) (.int .i64 0) false).run Tryz.prog x.val = .ok (.int .i64 1) x.val := fun x => (M5.out.below x.ok M5.out.lt).look (t := 162) (e := 3) Tryz.underlying3 mapII (z := .int .i64 0) (zeroII _) 0 (by decide) false
            clear FR hw5 hb5 o5 HS FM e0 e1 e2 e3 e4 e5 e6 e7 e8 e9 e10 e11 e12
            go_upto_region 17 with fail
            rw [HW5.out]
            clear HW5 d0 d1 d2 d3 d4 d5 d6 d7 d8 d9 d10 d11 d12 dl
            refine wp_region_elast w5 (Below.refl _ _) rfl (by kernel_rfl) (by kernel_rfl) (by kernel_rfl) (by kernel_rfl) ?_
            simp only [List.dropLast]
            repeat (go_big_quiet_step (fail))
            refine wpQuiet_nil ?_
            rintro w7 ⟨⟨_, hb7⟩, rfl⟩ Q1 hQ1
            have HQ : Hid _ := hQ1
            obtain ⟨w8, hup, hm8, hg8⟩ := (M5.out.below hb7 M5.out.lt).put (t := 162) (e := 3) Tryz.underlying3 mapII 0 (by decide) (.int .i64 2)
            have F8 : Hid _ := (F5.out.under hb7 (Nat.le_refl _)).grown hg8 NE.out.2.2.2.1 NE.out.2.1 NE.out.2.2.1 NE.out.1
            have M8 : Hid _ := hm8.congr (g' := fun x => if x = 0 then some (.int .i64 2) else none) (fun x => by by_cases h : x = 0 <;> simp [h])
            have R8 : Hid (Fs W w8 g gf 2 b6 b7 b8 b9 M (exR s t) ∧ Mi w8 b8 _ (fun x => if x = 0 then some (.int .i64 2) else none)) := ⟨F8.out, M8.out⟩
            have O8 := (O5.out.below hb7 O5.out.lt).grown hg8 (fun e => by have h1 := Option.some.inj e; have h2 := M5.out.lt; have h3 := HL.out; omega)
            obtain ⟨⟨e0, e1, e2, e3, e4, e5, e6, e7, e8, e9, e10, e11, e12⟩, _, el2⟩ := ob13 O8
            clear hQ1 hm8 hg8 hb7 f16 g8 hlk F5 M5 O5 O8 el
            go_wp2
            refine HQ.out _ _ ?_
            clear HQ
            go_wp2
            go_roundw
            case rel => first | exact .inr (.inr ⟨by go_num, R8⟩) | ((repeat apply Exists.intro); exact ⟨.inr (.inr ⟨by go_num, R8⟩), rfl⟩)
            case measure => simp [intOf]
          · go_wp2
            go_ret
            exact ⟨g, b6, b7, b8, b9, rfl, NE.out.2.2.2.2.1, NE.out.2.2.2.2.2, HS.out.1⟩

set_option maxRecDepth 100000 in
set_option maxHeartbeats 8000000 in
theorem ckFields1 (c : Value) (m s t : List Int) (hmb : Hid (byts m)) (hsb : Hid (byts s)) (htb : Hid (byts t)) (hml : m.length ≤ 1000) (hsl : s.length ≤ 1000) (htl : t.length ≤ 1000) (hs : nident s = true) (ht : nident t = true) (W : World) (hT : Hid (LoTab W)) {gm gf bw bn bm bt : Nat} (hF : Hid (Fs W W gm gf 1 bw bn bm bt (strOfNums m) (exF (strOfNums s)))) :
    Calls Tryz.prog 81 #[c, .pointer (some ⟨gm, 0, none⟩)] W fun e w' => Below W.heap.size W w' ∧ e = .returned (.tuple #[]) := by
  have hmm := @run_makeMap Tryz.prog
  have QN : Hid _ := ckNumbersOf
  have hs0 : s ≠ [] := by rintro rfl; cases hs
  have hsne : ((strOfNums s).toList == []) = false := by
    cases s with
    | nil => exact absurd rfl hs0
    | cons c r => exact str_ne c r
  have QI1 : Hid _ := fun V => pident_any s V trivial (fun i => bd_mem hsb.out i) (by omega)
  have QI2 : Hid _ := fun V => pident_any t V trivial (fun i => bd_mem htb.out i) (by omega)
  rw [hs] at QI1
  rw [ht] at QI2
  have QO1 : Hid _ := fun V => ckOf m s V hmb hsb (by omega) (by omega)
  have QO2 : Hid _ := fun V => ckOf m t V hmb htb (by omega) (by omega)
  have hz1 : (strOfNums s).size ≤ maxLen := by rw [strOfNums_size]; unfold maxLen; omega
  have hz2 : (strOfNums t).size ≤ maxLen := by rw [strOfNums_size]; unfold maxLen; omega
  have QW1 : Hid (∀ V, Mg V bw 0 (fun _ => none) → Calls Tryz.prog 123 #[.map (some bw), .string (strOfNums s)] V fun e w' => e = .returned (.bool false) ∧ Below V.heap.size V w') := fun V h => ckHasS (strOfNums s) hz1 V h (fun v e => by cases e)
  have QW2 : Hid (∀ V, Mg V bw 0 (fun _ => none) → Calls Tryz.prog 123 #[.map (some bw), .string (strOfNums t)] V fun e w' => e = .returned (.bool false) ∧ Below V.heap.size V w') := fun V h => ckHasS (strOfNums t) hz2 V h (fun v e => by cases e)
  have HZ1 : Hid _ := hz1
  have HSN : Hid _ := hsne
  clear hz1 hz2 hs0 hs ht hsne
  generalize strOfNums (njoin m s) = N1 at *
  generalize strOfNums (njoin m t) = N2 at *
  generalize strOfNums m = M at *
  generalize strOfNums s = S1 at *
  generalize strOfNums t = S2 at *
  have QK1 : Hid _ := ckKeeps N1
  have QK2 : Hid _ := ckKeeps N2
  have QKN : Hid _ := ckKeepsNo N2
  have QNH : Hid _ := ckHas 1
  have FM := hF.out.msg
  unfold exM at FM
  obtain ⟨⟨c0, c1, c2, c3, c4, c5, c6, c7, c8, c9, c10, c11, c12, c13, c14, c15, c16, c17⟩, hml2⟩ := ob18 FM
  clear FM
  have f4 := fun x : Ext W => x.cell (p := ⟨gm, 4, none⟩) hml2 c4
  have f7 := fun x : Ext W => x.cell (p := ⟨gm, 7, none⟩) hml2 c7
  clear c0 c1 c2 c3 c4 c5 c6 c7 c8 c9 c10 c11 c12 c13 c14 c15 c16 c17 hml2
  go_enter Tryz.func81, Tryz.ntmps81
  go_upto_region 0 with fail
  refine wp_region_then W 10 4 rfl (Below.refl _ _) (by kernel_rfl) (by kernel_rfl) (by kernel_rfl) (by kernel_rfl) ?_
  simp only [List.take]
  repeat (go_big_quiet_step (fail))
  refine wpQuiet_nil ?_
  rintro w1 ⟨⟨_, hb1⟩, rfl⟩
  clear f4 f7
  have HB1 : Hid _ := hb1
  have QC : Hid _ := ckConcat w1.heap.size 2 (w1.alloc (.cells #[.slice none 0 0, .slice none 0 0] 38)) ((Ob.new w1 _ _).cell 0 rfl) ((Ob.new w1 _ _).cell 1 rfl) (by simp)
  obtain ⟨wq, hwq⟩ : ∃ wq, w1.alloc (.cells #[.slice none 0 0, .slice none 0 0] 38) = wq := ⟨_, rfl⟩
  have hbq : Below w1.heap.size w1 wq := by rw [← hwq]; exact (Below.refl _ _).alloc (Nat.le_refl _) _
  have HBq : Hid (Below W.heap.size W wq) := hb1.trans (hbq.mono hb1.size)
  rw [hwq] at QC
  have HWq : Hid _ := hwq
  clear hb1 hbq hwq
  refine wpAny_force (i := 10) (by kernel_rfl) rfl ?_
  intro Q' hQ' hPn
  have HQ : Hid _ := hQ'
  clear hQ' hPn
  go_wp2
  rw [HWq.out]
  refine HQ.out _ _ ?_
  clear HQ HWq
  refine wpAny_force (i := 11) (by kernel_rfl) rfl ?_
  intro Q' hQ' hPn
  have HQ : Hid _ := hQ'
  clear hQ' hPn
  go_wp2_with fail
  refine Calls.mono QC.out ?_
  rintro e w2 ⟨rfl, rfl⟩
  go_wp2
  refine HQ.out _ _ ?_
  clear HQ QC
  refine wpAny_force (i := 12) (by kernel_rfl) rfl ?_
  intro Q' hQ' hPn
  have HQ : Hid _ := hQ'
  clear hQ' hPn
  go_wp2_with fail
  refine Calls.mono (QN.out _) ?_
  rintro e w3 ⟨rfl, hb3⟩
  have HB3 : Hid (Below W.heap.size W w3) := HBq.out.trans (hb3.mono HBq.out.size)
  clear hb3
  go_wp2
  refine HQ.out _ _ ?_
  clear HQ
  refine wpAny_force (i := 13) (by kernel_rfl) rfl ?_
  intro Q' hQ' hPn
  have HQ : Hid _ := hQ'
  clear hQ' hPn
  go_wp2
  refine HQ.out _ _ ?_
  clear HQ
  refine wpAny_end (by kernel_rfl) ?_
  obtain ⟨w4, hw4⟩ : ∃ w4, (w3.alloc (.map #[] 0)).alloc (.map #[] 0) = w4 := ⟨_, rfl⟩
  have hb4 : Below w3.heap.size w3 w4 := by rw [← hw4]; exact ((Below.refl _ _).alloc (Nat.le_refl _) _).alloc (by simp) _
  have MI : Hid (Mi w4 w3.heap.size 0 (fun _ => none)) := by rw [← hw4]; exact (Mi.made w3).below (m := w3.heap.size + 1) ((Below.refl _ _).alloc (by simp) _) (by omega)
  have MJ : Hid (Mg w4 (w3.heap.size + 1) 0 (fun _ => none)) := by rw [← hw4]; have := Mg.made (w3.alloc (.map #[] 0)); show Mg _ _ _ _; simpa using this
  have FS : Hid (Fs W w4 gm gf 1 bw bn bm bt M (exF S1)) := (hF.out.under HB3.out (Nat.le_refl _)).under hb4 (Nat.le_refl _)
  have HT4 : Hid (LoTab w4) := (hT.out.below HB3.out (Nat.le_refl _)).below hb4 (Nat.le_refl _)
  have HW4 : Hid _ := hw4
  have HB4 : Hid (Below W.heap.size W w4) := HB3.out.trans (hb4.mono HB3.out.size)
  have HN : Hid (W.heap.size ≤ w3.heap.size ∧ gm < W.heap.size ∧ gf < W.heap.size ∧ bw < W.heap.size) := ⟨HB3.out.size, hF.out.msg.lt, hF.out.row.lt, hF.out.wrd.lt⟩
  have HT : Hid (LoTab W) := hT.out
  clear hw4 hb4 HB3 HBq HB1 hF hT HT4
  go_upto_region 2 with fail
  rw [HW4.out]
  clear HW4
  have FM := FS.out.msg
  unfold exM at FM
  obtain ⟨⟨c0, c1, c2, c3, c4, c5, c6, c7, c8, c9, c10, c11, c12, c13, c14, c15, c16, c17⟩, hml2⟩ := ob18 FM
  clear FM c0 c2 c3 c4 c5 c6 c7 c8 c9 c10 c11 c12 c13 c14 c15 c16 c17
  go_wp2
  have RS0 : Hid (Rs W w4 gm gf 1 bw bn bm bt M (exF S1) w3.heap.size (fun _ => none) (fun _ => none)) := ⟨FS.out, ⟨_, MI.out⟩, ⟨_, MJ.out⟩⟩
  clear FS MI MJ c1 hml2 HB4
  generalize hbb : w3.heap.size = b at *
  clear hbb
  clear w3
  go_loopw [31] (fun v wr => (v = .int .i64 0 ∧ Hid (Rs W wr gm gf 1 bw bn bm bt M (exF S1) b (fun _ => none) (fun _ => none))) ∨ (v = .int .i64 1 ∧ Hid (Rs W wr gm gf 1 bw bn bm bt M (exF S1) b (fun x => if x = 1 then some (.agg #[]) else none) (fun x => if x = S1 then some (.agg #[]) else none)))) (fun v _ => 2 - (intOf v).toNat)
  case atStart => exact .inl ⟨rfl, RS0⟩
  case round =>
    rcases hrel with ⟨rfl, HS⟩ | ⟨rfl, HS⟩
    · have FR := HS.out.fs.row
      unfold exF at FR
      have d0 : wr.cell? ⟨gf, 0, none⟩ = some _ := FR.cell 0 rfl
      have d1 : wr.cell? ⟨gf, 1, none⟩ = some _ := FR.cell 1 rfl
      have d2 : wr.cell? ⟨gf, 2, none⟩ = some _ := FR.cell 2 rfl
      have d3 : wr.cell? ⟨gf, 3, none⟩ = some _ := FR.cell 3 rfl
      have d4 : wr.cell? ⟨gf, 4, none⟩ = some _ := FR.cell 4 rfl
      have d5 : wr.cell? ⟨gf, 5, none⟩ = some _ := FR.cell 5 rfl
      have d6 : wr.cell? ⟨gf, 6, none⟩ = some _ := FR.cell 6 rfl
      have d7 : wr.cell? ⟨gf, 7, none⟩ = some _ := FR.cell 7 rfl
      have d8 : wr.cell? ⟨gf, 8, none⟩ = some _ := FR.cell 8 rfl
      have d9 : wr.cell? ⟨gf, 9, none⟩ = some _ := FR.cell 9 rfl
      have d10 : wr.cell? ⟨gf, 10, none⟩ = some _ := FR.cell 10 rfl
      have d11 : wr.cell? ⟨gf, 11, none⟩ = some _ := FR.cell 11 rfl
      have d12 : wr.cell? ⟨gf, 12, none⟩ = some _ := FR.cell 12 rfl
      have dl := FR.lt
      obtain ⟨w5, hw5, hb5, o5⟩ := exF_new S1 wr
      unfold exF at hw5 o5
      have HW5 : Hid _ := hw5
      have EO5 : Hid (Ob w5 wr.heap.size #[.string S1, .int .i64 1, .int .i64 1, .int .i64 5, .string ⟨#[]⟩, .string ⟨#[]⟩, .string ⟨#[]⟩, .bool false, .int .i64 0, .string S1, .bool false, .slice none 0 0, .slice none 0 0] 34) := o5
      have R5 : Hid _ := HS.out.under hb5
      have HW0 : Hid (W.heap.size ≤ wr.heap.size ∧ b + 1 < wr.heap.size) := ⟨HS.out.fs.bel.size, by obtain ⟨_, h⟩ := HS.out.jsn; exact h.lt⟩
      clear FR hw5 hb5 o5 HS
      have FM := R5.out.fs.msg
      unfold exM at FM
      have c1 : w5.cell? ⟨gm, 1, none⟩ = some _ := FM.cell 1 rfl
      have g11 := fun x : Ext w5 => x.cell (p := ⟨gm, 11, none⟩) FM.lt (FM.cell 11 rfl)
      have h0 := fun x : Ext w5 => x.cell (p := ⟨wr.heap.size, 0, none⟩) EO5.out.lt (EO5.out.cell 0 rfl)
      clear FM c1
      go_upto_region 5 with fail
      rw [HW5.out]
      clear HW5 d0 d1 d2 d3 d4 d5 d6 d7 d8 d9 d10 d11 d12 dl
      refine wp_region_ext w5 (Below.refl _ _) (by kernel_rfl) (by kernel_rfl) ?_
      repeat (go_big_quiet_step (first | (go_at_call 121; exact Ext.call (fun V hV => QO1.out V) _)))
      refine wpQuiet_nil ?_
      rintro w6 ⟨⟨_, hb6⟩, rfl⟩
      clear g11 h0
      have EO6 : Hid _ := EO5.out.below hb6 EO5.out.lt
      have R6 : Hid _ := R5.out.under hb6
      clear EO5 R5 hb6
      have FM := R6.out.fs.msg
      unfold exM at FM
      have g14 := fun x : Ext w6 => x.cell (p := ⟨gm, 14, none⟩) FM.lt (FM.cell 14 rfl)
      have h0 := fun x : Ext w6 => x.cell (p := ⟨wr.heap.size, 0, none⟩) EO6.out.lt (EO6.out.cell 0 rfl)
      clear FM
      have QW : Hid _ := fun V (hV : Below w6.heap.size w6 V) => QW1.out V (R6.out.fs.wrd.below hV R6.out.fs.wrd.lt)
      go_upto_region 6 with fail
      refine wp_region_ext w6 (Below.refl _ _) (by kernel_rfl) (by kernel_rfl) ?_
      repeat (go_big_quiet_step (first | (go_at_call 26; exact Ext.call (fun V hV => QI1.out V) _) | (go_at_call 123; exact Ext.call (fun V hV => QW.out V hV) _) | (go_at_call 37; exact Ext.call_same (fun V => QK1.out _ V) _)))
      refine wpQuiet_nil ?_
      rintro w7 ⟨⟨_, hb7⟩, rfl⟩
      clear g14 h0 QW
      have EO : Hid _ := EO6.out.below hb7 EO6.out.lt
      have R7 : Hid _ := R6.out.under hb7
      clear EO6 R6 hb7
      obtain ⟨⟨e0, e1, e2, e3, e4, e5, e6, e7, e8, e9, e10, e11, e12⟩, _, el⟩ := ob13 EO.out
      obtain ⟨ia, hI⟩ := R7.out.met
      have QT : Hid (Calls Tryz.prog 126 #[.map (some b), .int .i64 1] w7 fun e w' => e = .returned (.bool true) ∧ (∃ n', Mi w' b n' (fun x => if x = 1 then some (.agg #[]) else none)) ∧ w7.grownBy w' (some b)) := ckTakeN 1 (by decide) w7 hI (fun v e => by cases e)
      clear hI ia
      go_wp2_with fail
      refine Calls.mono (ckNum1 _) ?_
      rintro e w8 ⟨rfl, rfl⟩
      go_wp2_with fail
      refine Calls.mono (QNH.out _) ?_
      rintro e w8 ⟨rfl, rfl⟩
      go_wp2_with fail
      refine Calls.mono QT.out ?_
      rintro e w8 ⟨rfl, hm8, hg8⟩
      have R8 : Hid _ := R7.out.setI HN.out hm8 hg8
      have EO8 : Hid (Ob w8 wr.heap.size #[.string S1, .int .i64 1, .int .i64 1, .int .i64 5, .string ⟨#[]⟩, .string ⟨#[]⟩, .string ⟨#[]⟩, .bool false, .int .i64 0, .string S1, .bool false, .slice none 0 0, .slice none 0 0] 34) := EO.out.grown hg8 (fun e => by have h1 := Option.some.inj e; have h2 := HW0.out; omega)
      clear hm8 hg8 EO R7 QT e0 e1 e2 e3 e4 e5 e6 e7 e8 e9 e10 e11 e12 el
      obtain ⟨⟨e0, e1, e2, e3, e4, e5, e6, e7, e8, e9, e10, e11, e12⟩, _, el⟩ := ob13 EO8.out
      go_wp2_with fail
      refine Calls.mono (QK1.out _ _) ?_
      rintro e w9 ⟨rfl, rfl⟩
      have QX : Hid _ := ckLabel S1 c w8
      unfold exF at QX
      go_wp2_with fail
      refine Calls.mono QX.out ?_
      rintro e w9 ⟨rfl, hb⟩
      have R9 : Hid _ := R8.out.under hb
      have EO9 : Hid (Ob w9 wr.heap.size #[.string S1, .int .i64 1, .int .i64 1, .int .i64 5, .string ⟨#[]⟩, .string ⟨#[]⟩, .string ⟨#[]⟩, .bool false, .int .i64 0, .string S1, .bool false, .slice none 0 0, .slice none 0 0] 34) := EO8.out.below hb EO8.out.lt
      clear hb QX R8 EO8 e0 e1 e2 e3 e4 e5 e6 e7 e8 e9 e10 e11 e12 el
      obtain ⟨⟨e0, e1, e2, e3, e4, e5, e6, e7, e8, e9, e10, e11, e12⟩, _, el⟩ := ob13 EO9.out
      go_wp2_with fail
      refine Calls.mono (QK1.out _ _) ?_
      rintro e wk ⟨rfl, rfl⟩
      have QX : Hid _ := ckTyped S1 N1 c w9 (show Hid _ from HT.out.below R9.out.fs.bel (Nat.le_refl _))
      unfold exF at QX
      go_wp2_with fail
      refine Calls.mono QX.out ?_
      rintro e w10 ⟨rfl, hb⟩
      have R10 : Hid _ := R9.out.under hb
      have EO10 : Hid (Ob w10 wr.heap.size #[.string S1, .int .i64 1, .int .i64 1, .int .i64 5, .string ⟨#[]⟩, .string ⟨#[]⟩, .string ⟨#[]⟩, .bool false, .int .i64 0, .string S1, .bool false, .slice none 0 0, .slice none 0 0] 34) := EO9.out.below hb EO9.out.lt
      clear hb QX R9 EO9 e0 e1 e2 e3 e4 e5 e6 e7 e8 e9 e10 e11 e12 el
      obtain ⟨⟨e0, e1, e2, e3, e4, e5, e6, e7, e8, e9, e10, e11, e12⟩, _, el⟩ := ob13 EO10.out
      have QX : Hid _ := ckOneof S1 c (.pointer (some ⟨gm, 0, none⟩)) w10
      unfold exF at QX
      go_wp2_with fail
      refine Calls.mono QX.out ?_
      rintro e w11 ⟨rfl, hb⟩
      have R11 : Hid _ := R10.out.under hb
      have EO11 : Hid (Ob w11 wr.heap.size #[.string S1, .int .i64 1, .int .i64 1, .int .i64 5, .string ⟨#[]⟩, .string ⟨#[]⟩, .string ⟨#[]⟩, .bool false, .int .i64 0, .string S1, .bool false, .slice none 0 0, .slice none 0 0] 34) := EO10.out.below hb EO10.out.lt
      clear hb QX R10 EO10 e0 e1 e2 e3 e4 e5 e6 e7 e8 e9 e10 e11 e12 el
      obtain ⟨⟨e0, e1, e2, e3, e4, e5, e6, e7, e8, e9, e10, e11, e12⟩, _, el⟩ := ob13 EO11.out
      go_wp2_with fail
      refine Calls.mono (QK1.out _ _) ?_
      rintro e wk ⟨rfl, rfl⟩
      obtain ⟨ja, hJ⟩ := R11.out.jsn
      have QT : Hid (Calls Tryz.prog 103 #[.map (some (b + 1)), .string S1] w11 fun e w' => e = .returned (.bool true) ∧ (∃ n', Mg w' (b + 1) n' (fun x => if x = S1 then some (.agg #[]) else none)) ∧ w11.grownBy w' (some (b + 1))) := ckTakeS S1 HZ1.out w11 hJ (fun v e => by cases e)
      clear hJ ja
      have hsn := HSN.out
      go_wp2_with fail
      refine Calls.mono QT.out ?_
      rintro e w12 ⟨rfl, hm, hg⟩
      have R12 : Hid _ := R11.out.setJ HN.out hm hg
      have EO12 : Hid (Ob w12 wr.heap.size #[.string S1, .int .i64 1, .int .i64 1, .int .i64 5, .string ⟨#[]⟩, .string ⟨#[]⟩, .string ⟨#[]⟩, .bool false, .int .i64 0, .string S1, .bool false, .slice none 0 0, .slice none 0 0] 34) := EO11.out.grown hg (fun e => by have h1 := Option.some.inj e; have h2 := HW0.out; omega)
      clear hm hg hsn EO11 R11 QT e0 e1 e2 e3 e4 e5 e6 e7 e8 e9 e10 e11 e12 el
      obtain ⟨⟨e0, e1, e2, e3, e4, e5, e6, e7, e8, e9, e10, e11, e12⟩, _, el⟩ := ob13 EO12.out
      go_wp2_with fail
      refine Calls.mono (QK1.out _ _) ?_
      rintro e wk ⟨rfl, rfl⟩
      have QX : Hid _ := ckIsEnt S1 c w12
      unfold exF at QX
      go_wp2_with fail
      refine Calls.mono QX.out ?_
      rintro e w13 ⟨rfl, hb⟩
      have R13 : Hid _ := R12.out.under hb
      have EO13 : Hid (Ob w13 wr.heap.size #[.string S1, .int .i64 1, .int .i64 1, .int .i64 5, .string ⟨#[]⟩, .string ⟨#[]⟩, .string ⟨#[]⟩, .bool false, .int .i64 0, .string S1, .bool false, .slice none 0 0, .slice none 0 0] 34) := EO12.out.below hb EO12.out.lt
      clear hb QX R12 EO12 e0 e1 e2 e3 e4 e5 e6 e7 e8 e9 e10 e11 e12 el
      obtain ⟨⟨e0, e1, e2, e3, e4, e5, e6, e7, e8, e9, e10, e11, e12⟩, _, el⟩ := ob13 EO13.out
      go_wp2_with fail
      refine Calls.mono (QK1.out _ _) ?_
      rintro e wk ⟨rfl, rfl⟩
      go_wp2
      go_roundw
      case rel => first | exact .inr ⟨by go_num, R13⟩ | ((repeat apply Exists.intro); exact ⟨.inr ⟨by go_num, R13⟩, rfl⟩)
      case measure => simp [intOf]
    · go_wp2
      go_end0
      exact ⟨HS.out.fs.bel, rfl⟩

end Go.Proofs.YtcnjjhdmnagkgaaGreatDoor
