/- The program's own closure of reach: what is met, on and on. -/
import Derived.Test.YtnkknkijnpdapaaJRe0
namespace Go.Proofs.Ytnkknkijnpdapaa
open Go.RowKit
set_option linter.unusedVariables false
set_option linter.unusedSimpArgs false

/-- What the function value that is handed in answers: where a text leads. -/
def Leads (W0 : World) (g kf ub : Nat) (next : ByteArray → List ByteArray) : Prop :=
  ∀ (p : ByteArray) (V : World), Hid (Tsm p) → Below g W0 V → Calls Try.prog kf #[.string p, .pointer (some ⟨ub, 0, none⟩)] V fun e V' => ∃ la ln lc, e = .returned (.slice la ln lc) ∧ Hid (Sb V' la ln lc (next p)) ∧ Below V.heap.size V V'

/-- A function value's call enters it. -/
def Goin (k : Nat) : Prop := ∀ args w, (callFunc k args).run Try.prog w = .ok (.enter k args) w

theorem ucnt_mono {l : List Un} {S S' : List ByteArray} (h : ∀ x ∈ S, x ∈ S') : ucnt l S' ≤ ucnt l S := by
  unfold ucnt
  induction l with
  | nil => simp
  | cons u l ih =>
    rw [List.filter_cons, List.filter_cons]
    by_cases h1 : u.path ∈ S
    · rw [if_neg (c := (!hin S' u.path) = true) (by simp [(hin_iff S' u.path).2 (h _ h1)]), if_neg (c := (!hin S u.path) = true) (by simp [(hin_iff S u.path).2 h1])]
      exact ih
    · rw [if_pos (c := (!hin S u.path) = true) (by simpa using (hin_not _ _).2 h1)]
      split
      · simp; exact ih
      · simp; omega

set_option maxRecDepth 10000 in
set_option maxHeartbeats 16000000 in
theorem preach_any {W0 : World} {g kf ub : Nat} {next : ByteArray → List ByteArray} {l : List Un} (hin0 : Goin kf) (hLd : Hid (Leads W0 g kf ub next)) (hNx : Hid (∀ p, ∀ y ∈ next p, Tsm y)) (hlead : Hid (Lead next l)) :
    ∀ (f : Nat) (a : Option Addr) (n c : Nat) (zs : List ByteArray) (deep : Int) (S : List ByteArray) (W : World), Hid (Sb W a n c zs) → Hid (∀ z ∈ zs, Tsm z) → Hid (Rc W0 W g (.func (.func kf) #[] #[.pointer (some ⟨ub, 0, none⟩)]) S) → Hid (zs = [] ∨ ucnt l S + 1 ≤ f) → Hid (0 ≤ deep ∧ deep + f ≤ 1000) →
    Calls Try.prog 36 #[.slice a n c, .int .i64 deep, .pointer (some ⟨g + 3, 0, none⟩), .pointer (some ⟨g + 2, 0, none⟩), .pointer (some ⟨g + 4, 0, none⟩), .pointer (some ⟨g, 0, none⟩)] W fun e W' => e = .returned (.tuple #[]) ∧ ∃ S', Rc W0 W' g (.func (.func kf) #[] #[.pointer (some ⟨ub, 0, none⟩)]) S' ∧ W.grownBy W' (some (g + 1)) ∧ Dfs next zs S S' := by
  unfold Goin at hin0
  have HLd : Hid (Leads W0 g kf ub next) := hLd
  have HNx : Hid _ := hNx
  clear hLd hNx
  intro f
  induction f with
  | zero =>
    intro a n c zs deep S W hS hz hR hu hd
    obtain ⟨hd0, hd1⟩ := hd.out
    have hdd : ¬ (deep > 1000) := by omega
    obtain ⟨h1, h2, h3, h4, h6⟩ := hS.out
    have H1 : Hid (zs.length = n) := h1
    clear h1 h6
    go_enter Try.func36, Try.ntmps36
    go_wp2
    go_loopw [19] (fun v wr => ∃ (k : Nat) (S' : List ByteArray), v = .int .i64 (k : Int) ∧ k ≤ n ∧ Hid (Rc W0 wr g (.func (.func kf) #[] #[.pointer (some ⟨ub, 0, none⟩)]) S') ∧ Hid (W.grownBy wr (some (g + 1))) ∧ Hid (Dfs next (zs.take k) S S') ∧ Hid (Sb wr a n c zs)) (fun v _ => n - (intOf v).toNat)
    case atStart => exact ⟨0, S, rfl, by omega, hR, grown_below (Below.refl _ _), (by show Dfs _ _ _ _; exact Dfs.nil _ _), hS⟩
    case round =>
      obtain ⟨k, S', rfl, hk, HR, HG, HD, HSk⟩ := hrel
      clear hR hS
      by_cases hkl : k < n
      · exfalso
        rcases hu.out with h7 | h7
        · rw [h7] at H1
          have := H1.out
          simp at this
          omega
        · omega
      · obtain rfl : k = n := by omega
        have HD2 : Hid (Dfs next zs S S') := by
          have := HD.out
          rw [List.take_of_length_le (by rw [H1.out]; exact Nat.le_refl _)] at this
          exact this
        clear HD
        go_wp2
        go_end0
        exact ⟨rfl, S', HR.out, HG.out, HD2.out⟩
  | succ f ih =>
    intro a n c zs deep S W hS hz hR hu hd
    have IH : Hid _ := ih
    clear ih
    obtain ⟨hd0, hd1⟩ := hd.out
    have hdd : ¬ (deep > 1000) := by omega
    obtain ⟨h1, h2, h3, h4, h6⟩ := hS.out
    have H1 : Hid (zs.length = n) := h1
    clear h1 h6
    go_enter Try.func36, Try.ntmps36
    go_wp2
    go_loopw [19] (fun v wr => ∃ (k : Nat) (S' : List ByteArray), v = .int .i64 (k : Int) ∧ k ≤ n ∧ Hid (Rc W0 wr g (.func (.func kf) #[] #[.pointer (some ⟨ub, 0, none⟩)]) S') ∧ Hid (W.grownBy wr (some (g + 1))) ∧ Hid (Dfs next (zs.take k) S S') ∧ Hid (Sb wr a n c zs)) (fun v _ => n - (intOf v).toNat)
    case atStart => exact ⟨0, S, rfl, by omega, hR, grown_below (Below.refl _ _), (by show Dfs _ _ _ _; exact Dfs.nil _ _), hS⟩
    case round =>
      obtain ⟨k, S', rfl, hk, HR, HG, HD, HSk⟩ := hrel
      clear hR hS
      by_cases hkl : k < n
      · obtain ⟨b, off, rfl, hlt, hc⟩ := HSk.out.hmem (by omega)
        obtain ⟨z, hzk⟩ : ∃ z, zs[k]? = some z := ⟨zs[k]'(by rw [H1.out]; exact hkl), List.getElem?_eq_getElem (by rw [H1.out]; exact hkl)⟩
        have hcell := hc k z hzk
        have HT : Hid (Tsm z) := hz.out z (List.mem_of_getElem? hzk)
        obtain ⟨m1, m2, m3⟩ := box_cell HR.out.bm
        obtain ⟨n1, hM⟩ := HR.out.mm
        have hlk := hM.look Try.underlying64 (zeroNo _) z HT.out.key true
        have HA : Hid (Below wr.heap.size wr (wr.alloc (.cells #[] 66))) := (Below.refl _ _).alloc (Nat.le_refl _) _
        by_cases hI : hin S' z = true
        · have hg2 : gset S' z = some (.agg #[]) := by unfold gset; rw [if_pos hI]
          rw [hg2] at hlk
          simp only [mlook] at hlk
          have HD2 : Hid (Dfs next (zs.take (k + 1)) S S') := by
            show Dfs _ _ _ _
            rw [take_snoc hzk]
            exact HD.out.old ((hin_iff _ _).1 hI)
          have HR2 : Hid _ := HR.out.under HA.out
          have HG2 : Hid (W.grownBy (wr.alloc (.cells #[] 66)) (some (g + 1))) := grown_trans HG.out (grown_below HA.out)
          have HSb : Hid _ := HSk.out.below HA.out
          clear HD HR HG HSk hI hg2 hM hc hzk HT IH
          go_wp2
          go_roundw
          case rel => first | exact ⟨k + 1, S', by go_num, by omega, HR2, HG2, HD2, HSb⟩ | ((repeat apply Exists.intro); exact ⟨⟨k + 1, S', by go_num, by omega, HR2, HG2, HD2, HSb⟩, rfl⟩)
          case measure => simp [intOf]; omega
        · have hg2 : gset S' z = none := by unfold gset; rw [if_neg hI]
          rw [hg2] at hlk
          simp only [mlook] at hlk
          have hRA := HR.out.under HA.out
          obtain ⟨n2, hMA⟩ := hRA.mm
          obtain ⟨w1, hup, hM1, hg1⟩ := hMA.put Try.underlying64 z HT.out.key (.agg #[])
          have HR1 : Hid (Rc W0 w1 g (.func (.func kf) #[] #[.pointer (some ⟨ub, 0, none⟩)]) (S' ++ [z])) := hRA.mark hg1 (hM1.congr (gset_snoc _ _))
          have HG1 : Hid (W.grownBy w1 (some (g + 1))) := grown_trans (grown_trans HG.out (grown_below HA.out)) hg1
          have HMk : Hid (∃ n h, Mg wr (g + 1) n h) := ⟨_, _, hM⟩
          have HG0 : Hid (wr.grownBy w1 (some (g + 1))) := grown_trans (grown_below HA.out) hg1
          obtain ⟨y1, y2, y3⟩ := box_cell hRA.bm
          obtain ⟨e1, _, e3⟩ := box_cell HR1.out.be
          obtain ⟨u1, _, u3⟩ := box_cell HR1.out.bl
          have HU2 : Hid (next z = [] ∨ ucnt l (S' ++ [z]) + 1 ≤ f) := by
            rcases hlead.out z with h9 | h9
            · right
              have h8 := ucnt_less ((hin_not _ _).1 hI) h9
              rcases hu.out with h7 | h7
              · rw [h7] at hzk; simp at hzk
              · have := ucnt_mono (l := l) HD.out.keep
                omega
            · exact .inl h9
          have HD2 : Hid (0 ≤ deep + 1 ∧ deep + 1 + (f : Int) ≤ 1000) := by show _ ∧ _; omega
          clear HR HG hg2 hM hc hMA hM1 hg1 hRA HA hu hd
          go_wp2_with fail
          refine wp_region_held (S := fun V => Hid (V.cell? ⟨g + 4, 0, none⟩ = some (.func (.func 36) #[] #[.pointer (some ⟨g + 3, 0, none⟩), .pointer (some ⟨g + 2, 0, none⟩), .pointer (some ⟨g + 4, 0, none⟩), .pointer (some ⟨g, 0, none⟩)])) ∧ Hid (V.cell? ⟨g, 0, none⟩ = some (.func (.func kf) #[] #[.pointer (some ⟨ub, 0, none⟩)]))) rfl ?_
          have HS0 : Hid _ := And.intro e1 u1
          refine wpAnyH_take (i := 0) (v := ?_) rfl (by kernel_rfl) (by kernel_rfl) (by kernel_rfl) (fun _ _ _ h => h) (Or.inl ⟨by rfl, ?_⟩) HS0.out ?_
          rotate_left
          · rintro V ⟨x1, x2⟩
            have x3 := x1.out
            go_simp
            try with_reducible rfl
          refine wpAnyH_take (i := 1) (v := ?_) rfl (by kernel_rfl) (by kernel_rfl) (by kernel_rfl) (fun _ _ _ h => h) (Or.inl ⟨by rfl, ?_⟩) HS0.out ?_
          rotate_left
          · rintro V ⟨x1, x2⟩
            have x3 := x2.out
            go_simp
            try with_reducible rfl
          refine wpAnyH_take (i := 2) (v := ?_) rfl (by kernel_rfl) (by kernel_rfl) (by kernel_rfl) (fun _ _ _ h => h) (Or.inl ⟨by rfl, ?_⟩) HS0.out ?_
          rotate_left
          · rintro V ⟨x1, x2⟩
            have x3 := x2.out
            go_simp
            try with_reducible rfl
          refine wpAnyH_take (i := 4) (v := ?_) rfl (by kernel_rfl) (by kernel_rfl) (by kernel_rfl) (fun _ _ _ h => h) (Or.inl ⟨by rfl, ?_⟩) HS0.out ?_
          rotate_left
          · rintro V ⟨x1, x2⟩
            have x3 := x2.out
            go_simp
            try with_reducible rfl
          refine wpAnyH_take (i := 5) (v := ?_) rfl (by kernel_rfl) (by kernel_rfl) (by kernel_rfl) (fun _ _ _ h => h) (Or.inl ⟨by rfl, ?_⟩) HS0.out ?_
          rotate_left
          · rintro V ⟨x1, x2⟩
            have x3 := x2.out
            go_simp
            try with_reducible rfl
          refine wpAnyH_all (rs := [3]) (by kernel_rfl) (by simp) ?_
          intro i hi
          obtain rfl : i = 3 := by simpa using hi
          clear hi
          refine wpOp_list2 rfl ?_
          intro Q' hQ' hP'
          have HQ : Hid _ := hQ'
          clear hP' hQ'
          go_wp2_with fail
          refine Calls.mono (HLd.out z _ HT ((HR1.out.under ((Below.refl _ w1).drew)).below)) ?_
          rintro e w2 ⟨la, ln, lc, rfl, hS2, hb2⟩
          have HB2 : Hid (Below w1.heap.size w1 w2) := (Below.refl _ w1).drew.trans hb2
          have HR2 : Hid (Rc W0 w2 g (.func (.func kf) #[] #[.pointer (some ⟨ub, 0, none⟩)]) (S' ++ [z])) := HR1.out.under HB2.out
          have HS2 : Hid _ := And.intro (box_cell HR2.out.be).1 (box_cell HR2.out.bl).1
          have Q2 : Hid _ := IH.out la ln lc (next z) (deep + 1) (S' ++ [z]) w2 hS2 (HNx.out z) HR2 HU2 HD2
          have HS2s : Hid _ := hS2
          clear hb2 hS2
          go_wp2
          refine HQ.out _ _ ⟨⟨HS2.out.1, HS2.out.2⟩, ?_⟩
          clear HQ HS2
          refine wpAnyH_all (rs := [6]) (by kernel_rfl) (by simp) ?_
          intro i hi
          obtain rfl : i = 6 := by simpa using hi
          clear hi
          refine wpOp_list2 rfl ?_
          intro Q' hQ' hP'
          have HQ : Hid _ := hQ'
          clear hP' hQ'
          go_wp2_with fail
          refine Calls.mono Q2.out ?_
          rintro e w3 ⟨rfl, S2, hR3, hg3, hD3⟩
          have HR3 : Hid _ := hR3
          have HG3 : Hid (W.grownBy w3 (some (g + 1))) := grown_trans (grown_trans HG1.out (grown_below HB2.out)) hg3
          have HD3 : Hid (Dfs next (zs.take (k + 1)) S S2) := by
            show Dfs _ _ _ _
            rw [take_snoc hzk]
            exact HD.out.new ((hin_not _ _).1 hI) hD3
          have HS3 : Hid _ := And.intro (box_cell hR3.be).1 (box_cell hR3.bl).1
          have HSb : Hid (Sb w3 (some ⟨b, off, none⟩) n c zs) := ((HSk.out.kept HG0.out HMk.out).below HB2.out).kept hg3 ⟨_, _, HR2.out.mm.choose_spec⟩
          clear hR3 hg3 hD3 Q2 HD HG1 HR1 HR2 HB2 HU2 HD2 HS2s HSk HG0 HMk IH hzk
          go_wp2
          refine HQ.out _ _ ⟨⟨HS3.out.1, HS3.out.2⟩, ?_⟩
          clear HQ HS3
          refine wpAnyH_done (by kernel_rfl) ?_ _
          go_wp2
          go_roundw
          case rel => first | exact ⟨k + 1, S2, by go_num, by omega, HR3, HG3, HD3, HSb⟩ | ((repeat apply Exists.intro); exact ⟨⟨k + 1, S2, by go_num, by omega, HR3, HG3, HD3, HSb⟩, rfl⟩)
          case measure => simp [intOf]; omega
      · obtain rfl : k = n := by omega
        have HD2 : Hid (Dfs next zs S S') := by
          have := HD.out
          rw [List.take_of_length_le (by rw [H1.out]; exact Nat.le_refl _)] at this
          exact this
        clear HD
        go_wp2
        go_end0
        exact ⟨rfl, S', HR.out, HG.out, HD2.out⟩

end Go.Proofs.Ytnkknkijnpdapaa
