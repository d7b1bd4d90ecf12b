/- Put together by a program out of these texts of mine: JRe0, JRe, JIt, JKeys, JCop. -/
import Derived.Laws.EntriesVeiled
import Derived.Maps.Range
import Derived.Shelf.SlIter.Sorted
import Derived.Shelf.SortM.Plain
import Derived.Shelf.SortM.SortNone
import Derived.Test.YtcnjjhdmnagkgaaGreatDoorProg
import Derived.Test.YtcnjjhdmnagkgaaGreatDoorBunC7

namespace Go.Proofs.YtcnjjhdmnagkgaaGreatDoor
open Go.RowKit
set_option linter.unusedVariables false
set_option linter.unusedSimpArgs false

theorem zeroNo (w : World) : (zeroValue 189).run Tryz.prog w = .ok (.agg #[]) w := by kernel_rfl

structure Dfs (next : ByteArray → List ByteArray) (zs S S' : List ByteArray) : Prop where
  keep : ∀ x ∈ S, x ∈ S'
  met : ∀ z ∈ zs, z ∈ S'
  shut : ∀ x ∈ S', x ∉ S → ∀ y ∈ next x, y ∈ S'
  from_ : ∀ x ∈ S', x ∈ S ∨ Rch next zs x

theorem Dfs.nil (next : ByteArray → List ByteArray) (S : List ByteArray) : Dfs next [] S S := ⟨fun _ h => h, fun _ h => by simp at h, fun x h h2 => absurd h h2, fun x h => .inl h⟩

theorem Rch.mono {next : ByteArray → List ByteArray} {S T : List ByteArray} (h : ∀ x ∈ S, Rch next T x) {x : ByteArray} (hx : Rch next S x) : Rch next T x :=
  hx.least (P := fun x => Rch next T x) h (fun x hx y hy => .step hx hy)

theorem Dfs.old {next : ByteArray → List ByteArray} {zs S S' : List ByteArray} {z : ByteArray} (h : Dfs next zs S S') (hz : z ∈ S') : Dfs next (zs ++ [z]) S S' :=
  ⟨h.keep, fun x hx => by
    rcases List.mem_append.1 hx with hx | hx
    · exact h.met x hx
    · simp at hx; subst hx; exact hz, h.shut, fun x hx => (h.from_ x hx).imp id (fun r => r.mono (fun y hy => .seed (by simp [hy])))⟩

theorem Dfs.new {next : ByteArray → List ByteArray} {zs S S' S2 : List ByteArray} {z : ByteArray} (h : Dfs next zs S S') (hz : z ∉ S') (h2 : Dfs next (next z) (S' ++ [z]) S2) : Dfs next (zs ++ [z]) S S2 := by
  have hz2 : z ∈ S2 := h2.keep z (by simp)
  refine ⟨fun x hx => h2.keep x (by simp [h.keep x hx]), fun x hx => ?_, fun x hx hxs y hy => ?_, fun x hx => ?_⟩
  · rcases List.mem_append.1 hx with hx | hx
    · exact h2.keep x (by simp [h.met x hx])
    · simp at hx; subst hx; exact hz2
  · by_cases h3 : x ∈ S'
    · exact h2.keep y (by simp [h.shut x h3 hxs y hy])
    · by_cases h4 : x = z
      · subst h4; exact h2.met y hy
      · exact h2.shut x hx (by simp [h3, h4]) y hy
  · rcases h2.from_ x hx with h3 | h3
    · rcases List.mem_append.1 h3 with h3 | h3
      · exact (h.from_ x h3).imp id (fun r => r.mono (fun y hy => .seed (by simp [hy])))
      · simp at h3; subst h3; exact .inr (.seed (by simp))
    · exact .inr (h3.mono (fun y hy => .step (.seed (x := z) (by simp)) hy))

def ucntJ (l : List Un) (S : List ByteArray) : Nat := (l.filter fun u => !hin S u.path).length

theorem ucnt_less {l : List Un} {S : List ByteArray} {z : ByteArray} (hz : z ∉ S) (h : ∃ u ∈ l, u.path = z) : ucntJ l (S ++ [z]) + 1 ≤ ucntJ l S := by
  have mono : ∀ l : List Un, ucntJ l (S ++ [z]) ≤ ucntJ l S := by
    intro l
    unfold ucntJ
    induction l with
    | nil => simp
    | cons u l ih =>
      rw [List.filter_cons, List.filter_cons]
      by_cases h1 : u.path ∈ S
      · rw [if_neg (c := (!hin (S ++ [z]) u.path) = true) (by simp [(hin_iff (S ++ [z]) u.path).2 (by simp [h1])]), if_neg (c := (!hin S u.path) = true) (by simp [(hin_iff S u.path).2 h1])]
        exact ih
      · rw [if_pos (c := (!hin S u.path) = true) (by simpa using (hin_not _ _).2 h1)]
        split
        · simp; exact ih
        · simp; omega
  obtain ⟨u, hu, hup⟩ := h
  obtain ⟨a, b, rfl⟩ := List.append_of_mem hu
  have h1 := mono a
  have h2 := mono b
  unfold ucntJ at *
  simp only [List.filter_append, List.filter_cons, List.length_append]
  rw [if_pos (c := (!hin S u.path) = true) (by rw [hup]; simpa using (hin_not _ _).2 hz), if_neg (c := (!hin (S ++ [z]) u.path) = true) (by rw [hup]; simp [(hin_iff (S ++ [z]) z).2 (by simp)])]
  simp
  omega

theorem ucnt_le (l : List Un) (S : List ByteArray) : ucntJ l S ≤ l.length := by
  unfold ucntJ
  exact List.length_filter_le _ _

structure Rc (W0 W : World) (g : Nat) (fv : Value) (S : List ByteArray) : Prop where
  bl : W.heap[g]? = some (.cells #[fv] 154 (0, 0))
  mm : ∃ n, Mg W (g + 1) n (gset S)
  bm : W.heap[g + 2]? = some (.cells #[.map (some (g + 1))] 160 (0, 0))
  bw : W.heap[g + 3]? = some (.cells #[.slice none 0 0] 40 (0, 0))
  be : W.heap[g + 4]? = some (.cells #[.func (.func 111) #[] #[.pointer (some ⟨g + 3, 0, none⟩), .pointer (some ⟨g + 2, 0, none⟩), .pointer (some ⟨g + 4, 0, none⟩), .pointer (some ⟨g, 0, none⟩)]] 188 (0, 0))
  below : Below g W0 W

theorem Rc.size {W0 W : World} {g : Nat} {fv : Value} {S : List ByteArray} (h : Rc W0 W g fv S) : g + 4 < W.heap.size := (Array.getElem?_eq_some_iff.1 h.be).1

theorem Rc.under {W0 W W' : World} {g : Nat} {fv : Value} {S : List ByteArray} (h : Rc W0 W g fv S) (hb : Below W.heap.size W W') : Rc W0 W' g fv S := by
  have hs := h.size
  obtain ⟨n, hM⟩ := h.mm
  exact ⟨(hb.block _ (by omega)).trans h.bl, ⟨n, hM.below hb (by omega)⟩, (hb.block _ (by omega)).trans h.bm, (hb.block _ (by omega)).trans h.bw, (hb.block _ (by omega)).trans h.be, h.below.trans (hb.mono (by omega))⟩

theorem Rc.mark {W0 W W' : World} {g n : Nat} {fv : Value} {S S' : List ByteArray} (h : Rc W0 W g fv S) (hg : W.grownBy W' (some (g + 1))) (hM : Mg W' (g + 1) n (gset S')) : Rc W0 W' g fv S' := by
  have hs := h.size
  exact ⟨(hg.block _ (by omega) (by simp)).trans h.bl, ⟨n, hM⟩, (hg.block _ (by omega) (by simp)).trans h.bm, (hg.block _ (by omega) (by simp)).trans h.bw, (hg.block _ (by omega) (by simp)).trans h.be, h.below.grown hg (by omega) (fun k hk => by cases hk; omega)⟩

theorem Sb.kept {W W' : World} {a : Option Addr} {n c m : Nat} {zs : List ByteArray} (h : Sb W a n c zs) (hg : W.grownBy W' (some m)) (hm : ∃ n g, Mg W m n g) : Sb W' a n c zs := by
  refine ⟨h.hlen, h.h63, h.hcap, h.hnil, fun hp => ?_⟩
  obtain ⟨b, off, h1, hlt, hc⟩ := h.hmem hp
  have hbm : b ≠ m := by
    rintro rfl
    obtain ⟨_, _, es, clock, hb, _⟩ := hm
    obtain ⟨z, hz⟩ : ∃ z, zs[0]? = some z := ⟨zs[0]'(by rw [h.hlen]; exact hp), List.getElem?_eq_getElem (by rw [h.hlen]; exact hp)⟩
    have := hc 0 z hz
    simp [World.cell?, hb] at this
  have hbk : W'.heap[b]? = W.heap[b]? := hg.block b hlt (by simpa using hbm)
  refine ⟨b, off, h1, ?_, fun i z hi => ?_⟩
  · have h9 : W.heap[b]? = some W.heap[b] := Array.getElem?_eq_getElem hlt
    rw [← hbk] at h9
    exact (Array.getElem?_eq_some_iff.1 h9).1
  · have := hc i z hi
    unfold World.cell? at this ⊢
    simp only at this ⊢
    rw [hbk]
    exact this

theorem grown_trans {A B C : World} {m : Option Nat} (h1 : A.grownBy B m) (h2 : B.grownBy C m) : A.grownBy C m := h1.andThen h2 (fun j hj => .inr hj)

theorem grown_below {A B : World} {m : Option Nat} (h : Below A.heap.size A B) : A.grownBy B m := ⟨h.os, h.tape, h.output, h.size, fun k hk _ => h.block k hk⟩

def Leads (W0 : World) (g kf ub : Nat) (next : ByteArray → List ByteArray) : Prop :=
  ∀ (p : ByteArray) (V : World), Hid (Tsm p) → Below g W0 V → Calls Tryz.prog kf #[.string p, .pointer (some ⟨ub, 0, none⟩)] V fun e V' => ∃ la ln lc, e = .returned (.slice la ln lc) ∧ Hid (Sb V' la ln lc (next p)) ∧ Below V.heap.size V V'

def GoinJ (k : Nat) : Prop := ∀ args w, (callFunc k args).run Tryz.prog w = .ok (.enter k args) w

theorem ucnt_mono {l : List Un} {S S' : List ByteArray} (h : ∀ x ∈ S, x ∈ S') : ucntJ l S' ≤ ucntJ l S := by
  unfold ucntJ
  induction l with
  | nil => simp
  | cons u l ih =>
    rw [List.filter_cons, List.filter_cons]
    by_cases h1 : u.path ∈ S
    · rw [if_neg (c := (!hin S' u.path) = true) (by simp [(hin_iff S' u.path).2 (h _ h1)]), if_neg (c := (!hin S u.path) = true) (by simp [(hin_iff S u.path).2 h1])]
      exact ih
    · rw [if_pos (c := (!hin S u.path) = true) (by simpa using (hin_not _ _).2 h1)]
      split
      · simp; exact ih
      · simp; omega

set_option maxRecDepth 10000 in
set_option maxHeartbeats 16000000 in
theorem preach_any {W0 : World} {g kf ub : Nat} {next : ByteArray → List ByteArray} {l : List Un} (hin0 : GoinJ kf) (hLd : Hid (Leads W0 g kf ub next)) (hNx : Hid (∀ p, ∀ y ∈ next p, Tsm y)) (hlead : Hid (Lead next l)) :
    ∀ (f : Nat) (a : Option Addr) (n c : Nat) (zs : List ByteArray) (deep : Int) (S : List ByteArray) (W : World), Hid (Sb W a n c zs) → Hid (∀ z ∈ zs, Tsm z) → Hid (Rc W0 W g (.func (.func kf) #[] #[.pointer (some ⟨ub, 0, none⟩)]) S) → Hid (zs = [] ∨ ucntJ l S + 1 ≤ f) → Hid (0 ≤ deep ∧ deep + f ≤ 1000) →
    Calls Tryz.prog 111 #[.slice a n c, .int .i64 deep, .pointer (some ⟨g + 3, 0, none⟩), .pointer (some ⟨g + 2, 0, none⟩), .pointer (some ⟨g + 4, 0, none⟩), .pointer (some ⟨g, 0, none⟩)] W fun e W' => e = .returned (.tuple #[]) ∧ ∃ S', Rc W0 W' g (.func (.func kf) #[] #[.pointer (some ⟨ub, 0, none⟩)]) S' ∧ W.grownBy W' (some (g + 1)) ∧ Dfs next zs S S' := by
  unfold GoinJ at hin0
  have HLd : Hid (Leads W0 g kf ub next) := hLd
  have HNx : Hid _ := hNx
  clear hLd hNx
  intro f
  induction f with
  | zero =>
    intro a n c zs deep S W hS hz hR hu hd
    obtain ⟨hd0, hd1⟩ := hd.out
    have hdd : ¬ (deep > 1000) := by omega
    obtain ⟨h1, h2, h3, h4, h6⟩ := hS.out
    have H1 : Hid (zs.length = n) := h1
    clear h1 h6
    go_enter Tryz.func111, Tryz.ntmps111
    go_wp2
    go_loopw [19] (fun v wr => ∃ (k : Nat) (S' : List ByteArray), v = .int .i64 (k : Int) ∧ k ≤ n ∧ Hid (Rc W0 wr g (.func (.func kf) #[] #[.pointer (some ⟨ub, 0, none⟩)]) S') ∧ Hid (W.grownBy wr (some (g + 1))) ∧ Hid (Dfs next (zs.take k) S S') ∧ Hid (Sb wr a n c zs)) (fun v _ => n - (intOf v).toNat)
    case atStart => exact ⟨0, S, rfl, by omega, hR, grown_below (Below.refl _ _), (by show Dfs _ _ _ _; exact Dfs.nil _ _), hS⟩
    case round =>
      obtain ⟨k, S', rfl, hk, HR, HG, HD, HSk⟩ := hrel
      clear hR hS
      by_cases hkl : k < n
      · exfalso
        rcases hu.out with h7 | h7
        · rw [h7] at H1
          have := H1.out
          simp at this
          omega
        · omega
      · obtain rfl : k = n := by omega
        have HD2 : Hid (Dfs next zs S S') := by
          have := HD.out
          rw [List.take_of_length_le (by rw [H1.out]; exact Nat.le_refl _)] at this
          exact this
        clear HD
        go_wp2
        go_end0
        exact ⟨rfl, S', HR.out, HG.out, HD2.out⟩
  | succ f ih =>
    intro a n c zs deep S W hS hz hR hu hd
    have IH : Hid _ := ih
    clear ih
    obtain ⟨hd0, hd1⟩ := hd.out
    have hdd : ¬ (deep > 1000) := by omega
    obtain ⟨h1, h2, h3, h4, h6⟩ := hS.out
    have H1 : Hid (zs.length = n) := h1
    clear h1 h6
    go_enter Tryz.func111, Tryz.ntmps111
    go_wp2
    go_loopw [19] (fun v wr => ∃ (k : Nat) (S' : List ByteArray), v = .int .i64 (k : Int) ∧ k ≤ n ∧ Hid (Rc W0 wr g (.func (.func kf) #[] #[.pointer (some ⟨ub, 0, none⟩)]) S') ∧ Hid (W.grownBy wr (some (g + 1))) ∧ Hid (Dfs next (zs.take k) S S') ∧ Hid (Sb wr a n c zs)) (fun v _ => n - (intOf v).toNat)
    case atStart => exact ⟨0, S, rfl, by omega, hR, grown_below (Below.refl _ _), (by show Dfs _ _ _ _; exact Dfs.nil _ _), hS⟩
    case round =>
      obtain ⟨k, S', rfl, hk, HR, HG, HD, HSk⟩ := hrel
      clear hR hS
      by_cases hkl : k < n
      · obtain ⟨b, off, rfl, hlt, hc⟩ := HSk.out.hmem (by omega)
        obtain ⟨z, hzk⟩ : ∃ z, zs[k]? = some z := ⟨zs[k]'(by rw [H1.out]; exact hkl), List.getElem?_eq_getElem (by rw [H1.out]; exact hkl)⟩
        have hcell := hc k z hzk
        have HT : Hid (Tsm z) := hz.out z (List.mem_of_getElem? hzk)
        obtain ⟨m1, m2, m3⟩ := box_cell HR.out.bm
        obtain ⟨n1, hM⟩ := HR.out.mm
        have hlk := hM.look Tryz.underlying160 (zeroNo _) z HT.out.key true
        have HA : Hid (Below wr.heap.size wr (wr.alloc (.cells #[] 189))) := (Below.refl _ _).alloc (Nat.le_refl _) _
        by_cases hI : hin S' z = true
        · have hg2 : gset S' z = some (.agg #[]) := by unfold gset; rw [if_pos hI]
          rw [hg2] at hlk
          simp only [mlook] at hlk
          have HD2 : Hid (Dfs next (zs.take (k + 1)) S S') := by
            show Dfs _ _ _ _
            rw [take_snoc hzk]
            exact HD.out.old ((hin_iff _ _).1 hI)
          have HR2 : Hid _ := HR.out.under HA.out
          have HG2 : Hid (W.grownBy (wr.alloc (.cells #[] 189)) (some (g + 1))) := grown_trans HG.out (grown_below HA.out)
          have HSb : Hid _ := HSk.out.below HA.out
          clear HD HR HG HSk hI hg2 hM hc hzk HT IH
          go_wp2
          go_roundw
          case rel => first | exact ⟨k + 1, S', by go_num, by omega, HR2, HG2, HD2, HSb⟩ | ((repeat apply Exists.intro); exact ⟨⟨k + 1, S', by go_num, by omega, HR2, HG2, HD2, HSb⟩, rfl⟩)
          case measure => simp [intOf]; omega
        · have hg2 : gset S' z = none := by unfold gset; rw [if_neg hI]
          rw [hg2] at hlk
          simp only [mlook] at hlk
          have hRA := HR.out.under HA.out
          obtain ⟨n2, hMA⟩ := hRA.mm
          obtain ⟨w1, hup, hM1, hg1⟩ := hMA.put Tryz.underlying160 z HT.out.key (.agg #[])
          have HR1 : Hid (Rc W0 w1 g (.func (.func kf) #[] #[.pointer (some ⟨ub, 0, none⟩)]) (S' ++ [z])) := hRA.mark hg1 (hM1.congr (gset_snoc _ _))
          have HG1 : Hid (W.grownBy w1 (some (g + 1))) := grown_trans (grown_trans HG.out (grown_below HA.out)) hg1
          have HMk : Hid (∃ n h, Mg wr (g + 1) n h) := ⟨_, _, hM⟩
          have HG0 : Hid (wr.grownBy w1 (some (g + 1))) := grown_trans (grown_below HA.out) hg1
          obtain ⟨y1, y2, y3⟩ := box_cell hRA.bm
          obtain ⟨e1, _, e3⟩ := box_cell HR1.out.be
          obtain ⟨u1, _, u3⟩ := box_cell HR1.out.bl
          have HU2 : Hid (next z = [] ∨ ucntJ l (S' ++ [z]) + 1 ≤ f) := by
            rcases hlead.out z with h9 | h9
            · right
              have h8 := ucnt_less ((hin_not _ _).1 hI) h9
              rcases hu.out with h7 | h7
              · rw [h7] at hzk; simp at hzk
              · have := ucnt_mono (l := l) HD.out.keep
                omega
            · exact .inl h9
          have HD2 : Hid (0 ≤ deep + 1 ∧ deep + 1 + (f : Int) ≤ 1000) := by show _ ∧ _; omega
          clear HR HG hg2 hM hc hMA hM1 hg1 hRA HA hu hd
          go_wp2_with fail
          refine wp_region_held (S := fun V => Hid (V.cell? ⟨g + 4, 0, none⟩ = some (.func (.func 111) #[] #[.pointer (some ⟨g + 3, 0, none⟩), .pointer (some ⟨g + 2, 0, none⟩), .pointer (some ⟨g + 4, 0, none⟩), .pointer (some ⟨g, 0, none⟩)])) ∧ Hid (V.cell? ⟨g, 0, none⟩ = some (.func (.func kf) #[] #[.pointer (some ⟨ub, 0, none⟩)]))) rfl ?_
          have HS0 : Hid _ := And.intro e1 u1
          refine wpAnyH_take (i := 0) (v := ?_) rfl (by kernel_rfl) (by kernel_rfl) (by kernel_rfl) (fun _ _ _ h => h) (Or.inl ⟨by rfl, ?_⟩) HS0.out ?_
          rotate_left
          · rintro V ⟨x1, x2⟩
            have x3 := x1.out
            go_simp
            try with_reducible rfl
          refine wpAnyH_take (i := 1) (v := ?_) rfl (by kernel_rfl) (by kernel_rfl) (by kernel_rfl) (fun _ _ _ h => h) (Or.inl ⟨by rfl, ?_⟩) HS0.out ?_
          rotate_left
          · rintro V ⟨x1, x2⟩
            have x3 := x2.out
            go_simp
            try with_reducible rfl
          refine wpAnyH_take (i := 2) (v := ?_) rfl (by kernel_rfl) (by kernel_rfl) (by kernel_rfl) (fun _ _ _ h => h) (Or.inl ⟨by rfl, ?_⟩) HS0.out ?_
          rotate_left
          · rintro V ⟨x1, x2⟩
            have x3 := x2.out
            go_simp
            try with_reducible rfl
          refine wpAnyH_take (i := 4) (v := ?_) rfl (by kernel_rfl) (by kernel_rfl) (by kernel_rfl) (fun _ _ _ h => h) (Or.inl ⟨by rfl, ?_⟩) HS0.out ?_
          rotate_left
          · rintro V ⟨x1, x2⟩
            have x3 := x2.out
            go_simp
            try with_reducible rfl
          refine wpAnyH_take (i := 5) (v := ?_) rfl (by kernel_rfl) (by kernel_rfl) (by kernel_rfl) (fun _ _ _ h => h) (Or.inl ⟨by rfl, ?_⟩) HS0.out ?_
          rotate_left
          · rintro V ⟨x1, x2⟩
            have x3 := x2.out
            go_simp
            try with_reducible rfl
          refine wpAnyH_all (rs := [3]) (by kernel_rfl) (by simp) ?_
          intro i hi
          obtain rfl : i = 3 := by simpa using hi
          clear hi
          refine wpOp_list2 rfl ?_
          intro Q' hQ' hP'
          have HQ : Hid _ := hQ'
          clear hP' hQ'
          go_wp2_with fail
          refine Calls.mono (HLd.out z _ HT ((HR1.out.under ((Below.refl _ w1).drew)).below)) ?_
          rintro e w2 ⟨la, ln, lc, rfl, hS2, hb2⟩
          have HB2 : Hid (Below w1.heap.size w1 w2) := (Below.refl _ w1).drew.trans hb2
          have HR2 : Hid (Rc W0 w2 g (.func (.func kf) #[] #[.pointer (some ⟨ub, 0, none⟩)]) (S' ++ [z])) := HR1.out.under HB2.out
          have HS2 : Hid _ := And.intro (box_cell HR2.out.be).1 (box_cell HR2.out.bl).1
          have Q2 : Hid _ := IH.out la ln lc (next z) (deep + 1) (S' ++ [z]) w2 hS2 (HNx.out z) HR2 HU2 HD2
          have HS2s : Hid _ := hS2
          clear hb2 hS2
          go_wp2
          refine HQ.out _ _ ⟨⟨HS2.out.1, HS2.out.2⟩, ?_⟩
          clear HQ HS2
          refine wpAnyH_all (rs := [6]) (by kernel_rfl) (by simp) ?_
          intro i hi
          obtain rfl : i = 6 := by simpa using hi
          clear hi
          refine wpOp_list2 rfl ?_
          intro Q' hQ' hP'
          have HQ : Hid _ := hQ'
          clear hP' hQ'
          go_wp2_with fail
          refine Calls.mono Q2.out ?_
          rintro e w3 ⟨rfl, S2, hR3, hg3, hD3⟩
          have HR3 : Hid _ := hR3
          have HG3 : Hid (W.grownBy w3 (some (g + 1))) := grown_trans (grown_trans HG1.out (grown_below HB2.out)) hg3
          have HD3 : Hid (Dfs next (zs.take (k + 1)) S S2) := by
            show Dfs _ _ _ _
            rw [take_snoc hzk]
            exact HD.out.new ((hin_not _ _).1 hI) hD3
          have HS3 : Hid _ := And.intro (box_cell hR3.be).1 (box_cell hR3.bl).1
          have HSb : Hid (Sb w3 (some ⟨b, off, none⟩) n c zs) := ((HSk.out.kept HG0.out HMk.out).below HB2.out).kept hg3 ⟨_, _, HR2.out.mm.choose_spec⟩
          clear hR3 hg3 hD3 Q2 HD HG1 HR1 HR2 HB2 HU2 HD2 HS2s HSk HG0 HMk IH hzk
          go_wp2
          refine HQ.out _ _ ⟨⟨HS3.out.1, HS3.out.2⟩, ?_⟩
          clear HQ HS3
          refine wpAnyH_done (by kernel_rfl) ?_ _
          go_wp2
          go_roundw
          case rel => first | exact ⟨k + 1, S2, by go_num, by omega, HR3, HG3, HD3, HSb⟩ | ((repeat apply Exists.intro); exact ⟨⟨k + 1, S2, by go_num, by omega, HR3, HG3, HD3, HSb⟩, rfl⟩)
          case measure => simp [intOf]; omega
      · obtain rfl : k = n := by omega
        have HD2 : Hid (Dfs next zs S S') := by
          have := HD.out
          rw [List.take_of_length_le (by rw [H1.out]; exact Nat.le_refl _)] at this
          exact this
        clear HD
        go_wp2
        go_end0
        exact ⟨rfl, S', HR.out, HG.out, HD2.out⟩

end Go.Proofs.YtcnjjhdmnagkgaaGreatDoor

namespace Go.Proofs.YtcnjjhdmnagkgaaGreatDoor
open Go.Shelf

def It.keys_ren : Go.Shelf.Ren := ⟨fun | 7 => 114 | 10 => 159 | n => n, fun | 23 => 160 | 26 => 9 | 3 => 189 | 28 => 193 | 0 => 0 | 27 => 192 | 33 => 69 | 4 => 4 | n => n, fun | n => n⟩
theorem It.keys : Go.Proofs.SlLaysZ.n7 Tryz.prog It.keys_ren := {
  mixed := by kernel_rfl
  f7 := ⟨Tryz.f114.name, by decide, Tryz.func114.trans (congrArg some (by kernel_rfl))⟩
  f10 := ⟨Tryz.f159.name, by decide, Tryz.func159.trans (congrArg some (by kernel_rfl))⟩
  t0 := Tryz.underlying0
  a0 := Tryz.isAgg0
  z0 := Tryz.sizeOf0
  v0 := Tryz.zeroValue0
  t4 := Tryz.underlying4
  a4 := Tryz.isAgg4
  z4 := Tryz.sizeOf4
  v4 := Tryz.zeroValue4
  t23 := Tryz.underlying160
  a23 := Tryz.isAgg160
  z23 := Tryz.sizeOf160
  v23 := Tryz.zeroValue160
  t26 := Tryz.underlying9
  a26 := Tryz.isAgg9
  z26 := Tryz.sizeOf9
  v26 := Tryz.zeroValue9
  t27 := Tryz.underlying192
  a27 := Tryz.isAgg192
  z27 := Tryz.sizeOf192
  v27 := Tryz.zeroValue192
  t28 := Tryz.underlying193
  a28 := Tryz.isAgg193
  z28 := Tryz.sizeOf193
  v28 := Tryz.zeroValue193
  t33 := Tryz.underlying69
  a33 := Tryz.isAgg69
  z33 := Tryz.sizeOf69
  v33 := Tryz.zeroValue69 }
def It.sorted_ren : Go.Shelf.Ren := ⟨fun | 6 => 113 | 8 => 157 | 9 => 158 | 11 => 203 | 13 => 153 | 12 => 204 | 23 => 199 | 24 => 200 | 14 => 237 | 15 => 238 | 16 => 239 | 17 => 240 | 18 => 241 | 19 => 242 | 20 => 218 | 21 => 243 | 22 => 244 | 25 => 257 | 26 => 233 | 27 => 234 | 28 => 258 | 29 => 259 | 30 => 202 | 31 => 270 | n => n, fun | 26 => 9 | 28 => 193 | 24 => 40 | 0 => 0 | 3 => 3 | 37 => 134 | 48 => 275 | 50 => 77 | 4 => 4 | 40 => 269 | 39 => 268 | 45 => 75 | 5 => 5 | 9 => 9 | 51 => 310 | 55 => 314 | 57 => 329 | 58 => 330 | 33 => 69 | n => n, fun | n => n⟩
theorem It.sorted : Go.Proofs.SlLaysZ.n6 Tryz.prog It.sorted_ren := {
  mixed := by kernel_rfl
  f6 := ⟨Tryz.f113.name, by decide, Tryz.func113.trans (congrArg some (by kernel_rfl))⟩
  f8 := ⟨Tryz.f157.name, by decide, Tryz.func157.trans (congrArg some (by kernel_rfl))⟩
  f11 := ⟨Tryz.f203.name, by decide, Tryz.func203.trans (congrArg some (by kernel_rfl))⟩
  t0 := Tryz.underlying0
  a0 := Tryz.isAgg0
  z0 := Tryz.sizeOf0
  v0 := Tryz.zeroValue0
  t24 := Tryz.underlying40
  a24 := Tryz.isAgg40
  z24 := Tryz.sizeOf40
  v24 := Tryz.zeroValue40
  t26 := Tryz.underlying9
  a26 := Tryz.isAgg9
  z26 := Tryz.sizeOf9
  v26 := Tryz.zeroValue9
  t28 := Tryz.underlying193
  a28 := Tryz.isAgg193
  z28 := Tryz.sizeOf193
  v28 := Tryz.zeroValue193
  i26 := by kernel_rfl }
def It.sort_ren : Go.Shelf.Ren := ⟨fun | 6 => 158 | 8 => 153 | 9 => 204 | 19 => 199 | 20 => 200 | 21 => 237 | 22 => 238 | 23 => 239 | 24 => 240 | 25 => 241 | 26 => 242 | 27 => 218 | 28 => 243 | 29 => 244 | 36 => 257 | 31 => 233 | 32 => 234 | 37 => 258 | 38 => 259 | 39 => 202 | 41 => 270 | n => n, fun | 27 => 40 | 29 => 9 | 3 => 3 | 32 => 134 | 26 => 40 | 0 => 0 | 44 => 275 | 46 => 77 | 4 => 4 | 36 => 269 | 35 => 268 | 41 => 75 | 5 => 5 | 9 => 9 | 53 => 310 | 57 => 314 | 63 => 329 | 64 => 330 | n => n, fun | n => n⟩
theorem It.sort : Go.Proofs.SlLaysM.n6 Tryz.prog It.sort_ren := {
  mixed := by kernel_rfl
  f6 := ⟨Tryz.f158.name, by decide, Tryz.func158.trans (congrArg some (by kernel_rfl))⟩
  f8 := Tryz.func153.trans (congrArg some (by kernel_rfl))
  f9 := ⟨Tryz.f204.name, by decide, Tryz.func204.trans (congrArg some (by kernel_rfl))⟩
  f19 := Tryz.func199.trans (congrArg some (by kernel_rfl))
  f20 := Tryz.func200.trans (congrArg some (by kernel_rfl))
  f21 := ⟨Tryz.f237.name, by decide, Tryz.func237.trans (congrArg some (by kernel_rfl))⟩
  f22 := ⟨Tryz.f238.name, by decide, Tryz.func238.trans (congrArg some (by kernel_rfl))⟩
  f23 := ⟨Tryz.f239.name, by decide, Tryz.func239.trans (congrArg some (by kernel_rfl))⟩
  f24 := ⟨Tryz.f240.name, by decide, Tryz.func240.trans (congrArg some (by kernel_rfl))⟩
  f25 := ⟨Tryz.f241.name, by decide, Tryz.func241.trans (congrArg some (by kernel_rfl))⟩
  f26 := ⟨Tryz.f242.name, by decide, Tryz.func242.trans (congrArg some (by kernel_rfl))⟩
  f27 := ⟨Tryz.f218.name, by decide, Tryz.func218.trans (congrArg some (by kernel_rfl))⟩
  f28 := ⟨Tryz.f243.name, by decide, Tryz.func243.trans (congrArg some (by kernel_rfl))⟩
  f29 := ⟨Tryz.f244.name, by decide, Tryz.func244.trans (congrArg some (by kernel_rfl))⟩
  f31 := Tryz.func233.trans (congrArg some (by kernel_rfl))
  f32 := Tryz.func234.trans (congrArg some (by kernel_rfl))
  f36 := ⟨Tryz.f257.name, by decide, Tryz.func257.trans (congrArg some (by kernel_rfl))⟩
  f37 := ⟨Tryz.f258.name, by decide, Tryz.func258.trans (congrArg some (by kernel_rfl))⟩
  f38 := ⟨Tryz.f259.name, by decide, Tryz.func259.trans (congrArg some (by kernel_rfl))⟩
  f39 := ⟨Tryz.f202.name, by decide, Tryz.func202.trans (congrArg some (by kernel_rfl))⟩
  f41 := ⟨Tryz.f270.name, by decide, Tryz.func270.trans (congrArg some (by kernel_rfl))⟩
  t0 := Tryz.underlying0
  a0 := Tryz.isAgg0
  z0 := Tryz.sizeOf0
  v0 := Tryz.zeroValue0
  t3 := Tryz.underlying3
  a3 := Tryz.isAgg3
  z3 := Tryz.sizeOf3
  v3 := Tryz.zeroValue3
  t4 := Tryz.underlying4
  a4 := Tryz.isAgg4
  z4 := Tryz.sizeOf4
  v4 := Tryz.zeroValue4
  t5 := Tryz.underlying5
  a5 := Tryz.isAgg5
  z5 := Tryz.sizeOf5
  v5 := Tryz.zeroValue5
  t9 := Tryz.underlying9
  a9 := Tryz.isAgg9
  z9 := Tryz.sizeOf9
  v9 := Tryz.zeroValue9
  t26 := Tryz.underlying40
  a26 := Tryz.isAgg40
  z26 := Tryz.sizeOf40
  v26 := Tryz.zeroValue40
  t27 := Tryz.underlying40
  a27 := Tryz.isAgg40
  z27 := Tryz.sizeOf40
  v27 := Tryz.zeroValue40
  t29 := Tryz.underlying9
  a29 := Tryz.isAgg9
  z29 := Tryz.sizeOf9
  v29 := Tryz.zeroValue9
  t32 := Tryz.underlying134
  a32 := Tryz.isAgg134
  z32 := Tryz.sizeOf134
  v32 := Tryz.zeroValue134
  t35 := Tryz.underlying268
  a35 := Tryz.isAgg268
  z35 := Tryz.sizeOf268
  v35 := Tryz.zeroValue268
  t36 := Tryz.underlying269
  a36 := Tryz.isAgg269
  z36 := Tryz.sizeOf269
  v36 := Tryz.zeroValue269
  t41 := Tryz.underlying75
  a41 := Tryz.isAgg75
  z41 := Tryz.sizeOf75
  v41 := Tryz.zeroValue75
  t44 := Tryz.underlying275
  a44 := Tryz.isAgg275
  z44 := Tryz.sizeOf275
  v44 := Tryz.zeroValue275
  t46 := Tryz.underlying77
  a46 := Tryz.isAgg77
  z46 := Tryz.sizeOf77
  v46 := Tryz.zeroValue77
  t53 := Tryz.underlying310
  a53 := Tryz.isAgg310
  z53 := Tryz.sizeOf310
  v53 := Tryz.zeroValue310
  t57 := Tryz.underlying314
  a57 := Tryz.isAgg314
  z57 := Tryz.sizeOf314
  v57 := Tryz.zeroValue314
  t63 := Tryz.underlying329
  a63 := Tryz.isAgg329
  z63 := Tryz.sizeOf329
  v63 := Tryz.zeroValue329
  t64 := Tryz.underlying330
  a64 := Tryz.isAgg330
  z64 := Tryz.sizeOf330
  v64 := Tryz.zeroValue330 }

end Go.Proofs.YtcnjjhdmnagkgaaGreatDoor

namespace Go.Proofs.YtcnjjhdmnagkgaaGreatDoor
open Go.RowKit Go.Maps Go.Sort Go.Shelf
set_option linter.unusedVariables false
set_option linter.unusedSimpArgs false

theorem bytesLess_iff : ∀ (a b : List UInt8), Op.bytesLess a b = true ↔ a < b
  | [], [] => by simp [Op.bytesLess]
  | [], _ :: _ => by simp [Op.bytesLess]
  | _ :: _, [] => by simp [Op.bytesLess]
  | x :: a, y :: b => by
    rw [List.cons_lt_cons_iff, ← bytesLess_iff a b]
    simp [Op.bytesLess]

theorem sorts38 (m : Nat) : AnyZ.SortsIn Tryz.prog It.sorted_ren Fence.wide m :=
  ⟨fun blk off cap ss W hH hblk hsz => callsIn_wide.2 (AnyM.slices_Sort_string It.sort blk off cap ss W hH hblk hsz), fun p cap W => callsIn_wide.2 (AnyM.slices_Sort_string_none It.sort p cap W)⟩

theorem pkeys_any (mb : Option Nat) (W : World) : Calls Tryz.prog 114 #[.map mb] W fun e w' => e = .returned (.func (.func 159) #[] #[.pointer (some ⟨W.heap.size, 0, none⟩)]) ∧ w' = W.alloc (.cells #[.map mb] 160) :=
  (callsIn_wide (n := 5)).1 (AnyZ.keys_in It.keys Fence.wide 5 trivial rfl mb W)

def setR (v : Value) : Option (DataW Unit × List MemPlace) := some (.lit (.bool true), [])

def ofB (b : List UInt8) : ByteArray := ⟨b.toArray⟩

theorem ofB_inj {a b : List UInt8} (h : ofB a = ofB b) : a = b := by
  unfold ofB at h
  have := congrArg (fun x : ByteArray => x.data.toList) h
  simpa using this

theorem ofB_of (k : ByteArray) : ofB k.data.toList = k := by cases k; simp [ofB]

theorem keys_perm {f : MapEntry → Lit × DataW Unit} {es : List MapEntry} {h : MapEntry → List UInt8} (hh : es.map (fun e => strOf (f e).1) = es.map h) : (strKeys (DataW.map ((es.map f).foldr DataW.insert []))).Perm (es.map h) := by
  rw [← hh]
  have := (WideShapes.sorted_perm (es.map f)).map (fun p : Lit × DataW Unit => strOf p.1)
  rw [List.map_map] at this
  exact this

theorem owns_set {W : World} {b n : Nat} {g : ByteArray → Option Value} (h : Mg W b n g) (hn : n ≤ maxLen) :
    ∃ D : DataW Unit, W.ownsMap Tryz.prog 9 setR b n D ∧ Maps.size D = n ∧ (strKeys D).Nodup ∧ ∀ x : List UInt8, x ∈ strKeys D ↔ (g (ofB x)).isSome = true := by
  obtain ⟨es, clock, hb, hst, hkeys, hs, hg⟩ := h
  have hrd : ∀ x ∈ es.toList, ∃ k : ByteArray, x.key = .string k ∧ WideElems.rd Tryz.prog 9 setR x = some (.string k.data.toList, .lit (.bool true)) := fun x hx => by
    obtain ⟨k, hk, hks⟩ := hkeys x hx
    exact ⟨k, hk, by simp [WideElems.rd, hk, keyStr hks, setR]⟩
  have hp := WideShapes.sorted_perm (es.toList.map (WideElems.rg Tryz.prog 9 setR))
  have hmap : es.toList.map (fun e => strOf (WideElems.rg Tryz.prog 9 setR e).1) = es.toList.map (fun e => strOf (match e.key with | .string k => .string k.data.toList | _ => .bool false)) := by
    refine List.map_congr_left fun e he => ?_
    obtain ⟨k, hk, hr⟩ := hrd e he
    rw [WideElems.rg_of hr, hk]
  have hpk : (strKeys (DataW.map ((es.toList.map (WideElems.rg Tryz.prog 9 setR)).foldr DataW.insert []))).Perm (es.toList.map (fun e => strOf (match e.key with | .string k => .string k.data.toList | _ => .bool false))) := keys_perm hmap
  obtain ⟨L, hL⟩ : ∃ L, (es.toList.map (WideElems.rg Tryz.prog 9 setR)).foldr DataW.insert [] = L := ⟨_, rfl⟩
  rw [hL] at hp hpk
  refine ⟨DataW.map L, ⟨es, clock, hb, ⟨by unfold maxLen at hn ⊢; omega, hst, fun x hx => by obtain ⟨k, _, hr⟩ := hrd x hx; exact ⟨_, hr⟩⟩, by omega, by rw [hL]⟩, ?_, ?_, fun x => ?_⟩
  · rw [Maps.size_eq, hp.length_eq, List.length_map]
    simpa using hs
  · rw [hpk.nodup_iff]
    have hpw := ((MapKept.stamped_iff _ _).1 hst).2.2
    refine List.pairwise_map.2 (hpw.imp_of_mem fun {p q} hp' hq' hne e => hne ?_)
    obtain ⟨k1, hk1, _⟩ := hrd p hp'
    obtain ⟨k2, hk2, _⟩ := hrd q hq'
    rw [hk1, hk2] at e ⊢
    simp only [strOf] at e
    have : k1 = k2 := by rw [← ofB_of k1, e, ofB_of k2]
    rw [this]
  · rw [hpk.mem_iff, List.mem_map]
    constructor
    · rintro ⟨e, he, hx⟩
      obtain ⟨k, hk, _⟩ := hrd e he
      rw [hk] at hx
      simp only [strOf] at hx
      subst hx
      rw [ofB_of]
      rw [(hg k e.val).2 ⟨e, he, hk, rfl⟩]
      rfl
    · intro h
      obtain ⟨v, hv⟩ := Option.isSome_iff_exists.1 h
      obtain ⟨e, he, hk, _⟩ := (hg _ _).1 hv
      refine ⟨e, he, ?_⟩
      rw [hk]
      simp [strOf, ofB]

set_option maxHeartbeats 1000000 in
theorem psorted_any {W : World} {b n : Nat} {S : List ByteArray} (hM : Hid (Mg W b n (gset S))) (hn : n ≤ 1000000) :
    Calls Tryz.prog 113 #[.func (.func 159) #[] #[.pointer (some ⟨W.heap.size, 0, none⟩)]] (W.alloc (.cells #[.map (some b)] 160)) fun e w' => ∃ v zs, e = .returned v ∧ Sw w' (W.heap.size + 1) v zs ∧ Ris zs ∧ (∀ x, x ∈ zs ↔ x ∈ S) ∧ Below (W.heap.size + 1) (W.alloc (.cells #[.map (some b)] 160)) w' := by
  obtain ⟨D, hown, hsz, hnd, hmem⟩ := owns_set hM.out (by unfold maxLen; omega)
  have hbl := hown.lt
  have hseq : SeqGives Fence.wide 2 Tryz.prog 159 #[.pointer (some ⟨W.heap.size, 0, none⟩)] encStr (fun ss => ss.Perm (strKeys D)) (Maps.size D) (W.alloc (.cells #[.map (some b)] 160)) :=
    AnyZ.keys_gives (ρ := It.keys_ren) { It.keys with } Fence.wide _ trivial rfl (by omega) W.heap.size b n D _ (by simp) (by simp) (by
      obtain ⟨es, clock, hb, Ft, hs, hD⟩ := hown
      exact ⟨es, clock, (Below.heap_alloc _ _ b hbl).trans hb, Ft, hs, hD⟩)
  have cS := AnyZ.sorted_in It.sorted Fence.wide 5 trivial trivial trivial trivial rfl (by omega) (sorts38 _) (enters_of Tryz.func158 (by kernel_rfl) rfl) 159 #[.pointer (some ⟨W.heap.size, 0, none⟩)] trivial (enters_of Tryz.func159 (by kernel_rfl) rfl) _ _ (by rw [hsz]; unfold maxLen; omega) (by rw [hsz]; omega) _ hseq
  have cS2 := callsIn_wide.1 cS
  change Calls Tryz.prog 113 _ _ _ at cS2
  refine cS2.mono ?_
  rintro e w' ⟨v, ss, rfl, hP, hrow, _, hb⟩
  have hsort := List.mergeSort_perm ss (fun x y => decide (x ≤ y))
  have hle : (ss.mergeSort (fun x y => decide (x ≤ y))).length = ss.length := hsort.length_eq
  refine ⟨v, (ss.mergeSort (fun x y => decide (x ≤ y))).map ofB, rfl, ?_, ?_, fun x => ?_, by simpa using hb⟩
  · unfold Sw
    rw [List.length_map, hle, List.map_map]
    have : (Value.string ∘ ofB) = encStr := by funext x; simp [encStr, ofB]
    rw [this]
    have e1 : (W.alloc (.cells #[.map (some b)] 160)).heap.size = W.heap.size + 1 := by simp
    rw [e1] at hrow
    exact hrow
  · have tr : ∀ a b c : List UInt8, decide (a ≤ b) = true → decide (b ≤ c) = true → decide (a ≤ c) = true := fun a b c h1 h2 => by simp only [decide_eq_true_eq] at *; exact List.le_trans h1 h2
    have tot : ∀ a b : List UInt8, (decide (a ≤ b) || decide (b ≤ a)) = true := fun a b => by simp only [Bool.or_eq_true, decide_eq_true_eq]; exact List.le_total a b
    have hpw := List.pairwise_mergeSort (le := fun x y => decide (x ≤ y)) tr tot ss
    have hnd2 : (ss.mergeSort (fun x y => decide (x ≤ y))).Nodup := (hsort.trans hP).nodup_iff.2 hnd
    refine List.pairwise_map.2 ((hpw.and hnd2).imp fun {x y} h => ?_)
    obtain ⟨h1, h2⟩ := h
    have h3 : slt (ofB y) (ofB x) = false := by
      cases hq : slt (ofB y) (ofB x) with
      | false => rfl
      | true =>
        unfold slt at hq
        rw [bytesLess_iff] at hq
        simp only [decide_eq_true_eq] at h1
        have : (ofB y).toList < (ofB x).toList := hq
        rw [ByteArray.toList_eq, ByteArray.toList_eq] at this
        simp only [ofB] at this
        exact absurd this (List.not_lt.2 h1)
    cases hq : slt (ofB x) (ofB y) with
    | true => rfl
    | false => exact absurd (ofB_inj (slt_tri hq h3)) h2
  · rw [List.mem_map]
    constructor
    · rintro ⟨y, hy, rfl⟩
      have := (hmem y).1 (hP.mem_iff.1 (hsort.mem_iff.1 hy))
      unfold gset at this
      split at this
      · rename_i h; exact (hin_iff _ _).1 h
      · cases this
    · intro hx
      refine ⟨x.data.toList, hsort.mem_iff.2 (hP.mem_iff.2 ((hmem _).2 ?_)), ofB_of x⟩
      rw [ofB_of]
      unfold gset
      rw [if_pos ((hin_iff _ _).2 hx)]
      rfl

end Go.Proofs.YtcnjjhdmnagkgaaGreatDoor

namespace Go.Proofs.YtcnjjhdmnagkgaaGreatDoor
open Go.RowKit
set_option linter.unusedVariables false
set_option linter.unusedSimpArgs false

theorem Sw.again {w : World} {base b c k : Nat} {zs : List ByteArray} {z : ByteArray} (h : Sw w base (.slice (some ⟨b, 0, none⟩) zs.length c) zs) (hz : zs[k]? = some z) :
    Sw (w.setCell ⟨b, k, none⟩ (.string z)) base (.slice (some ⟨b, 0, none⟩) zs.length c) zs ∧ w.cell? ⟨b, k, none⟩ = some (.string z) ∧ w.frozen? ⟨b, k, none⟩ = false ∧ b < w.heap.size ∧ base ≤ b := by
  have hk : k < zs.length := (List.getElem?_eq_some_iff.1 hz).1
  have hc := h.cellAt k (by omega)
  obtain ⟨h0, h⟩ := h
  rcases h with ⟨he, hn⟩ | ⟨g, cap, cur, he, hg, hh, h1, h2, h3, h4⟩
  · simp at he
  · simp only [Value.slice.injEq, Option.some.injEq, Addr.mk.injEq] at he
    obtain ⟨⟨rfl, _, _⟩, _, rfl⟩ := he
    have hcur : (w.setCell ⟨b, k, none⟩ (.string z)).heap[b]? = some (.cells (cur.setIfInBounds k (.string z)) 9 (0, 0)) := by
      rw [setCell_eq_setRow w b k cur 9 (0, 0) (.string z) hh]
      exact setRow_heap w b cur _ 9 _ hh
    refine ⟨⟨h0, .inr ⟨b, c, _, rfl, hg, hcur, h1, h2, by simpa using h3, ?_⟩⟩, ?_, by simp [World.frozen?, hh], (Array.getElem?_eq_some_iff.1 hh).1, hg⟩
    · rw [Array.toList_setIfInBounds, List.take_set, h4]
      apply List.ext_getElem?
      intro j
      rw [List.getElem?_set]
      split
      · rename_i e
        subst e
        simp [hk]
        exact ((List.getElem?_eq_some_iff.1 hz).2).symm
      · rfl
    · rw [hc]
      simp [hz]

set_option maxRecDepth 10000 in
set_option maxHeartbeats 2000000 in
theorem pcopied_any {W : World} {base : Nat} {v : Value} {zs : List ByteArray} (hS : Hid (Sw W base v zs)) (hz : Hid (∀ z ∈ zs, Tsm z)) (hb : Hid (base ≤ W.heap.size)) :
    Calls Tryz.prog 112 #[v] W fun e W' => e = .returned v ∧ Sw W' base v zs ∧ Below base W W' := by
  obtain ⟨a, c, rfl⟩ := hS.out.slice
  obtain ⟨h1, h2, h3, h4, h6⟩ := Sb.of_own hS.out
  clear h1 h6
  go_enter Tryz.func112, Tryz.ntmps112
  go_wp2
  go_loopw [7] (fun v wr => ∃ k : Nat, v = .int .i64 (k : Int) ∧ k ≤ zs.length ∧ Hid (Sw wr base (.slice a zs.length c) zs) ∧ Hid (Below base W wr)) (fun v _ => zs.length - (intOf v).toNat)
  case atStart => exact ⟨0, rfl, by omega, hS, Below.refl _ _⟩
  case round =>
    obtain ⟨k, rfl, hk, HS, HB⟩ := hrel
    clear hS
    by_cases hkl : k < zs.length
    · obtain ⟨b, off, rfl, hlt, hc⟩ := (Sb.of_own HS.out).hmem (by omega)
      obtain rfl : off = 0 := by
        rcases HS.out.2 with ⟨he, _⟩ | ⟨g, cap, cur, he, _⟩
        · simp at he
        · simp only [Value.slice.injEq, Option.some.injEq, Addr.mk.injEq] at he
          exact he.1.2.1
      obtain ⟨z, hzk⟩ : ∃ z, zs[k]? = some z := ⟨zs[k]'hkl, List.getElem?_eq_getElem hkl⟩
      have hcell := hc k z hzk
      have Q : Hid _ := pclone_any z wr (hz.out z (List.mem_of_getElem? hzk))
      have HZ : Hid _ := hzk
      rw [Nat.zero_add] at hcell
      have hcell0 : wr.cell? ⟨b, 0 + k, none⟩ = some (.string z) := by rw [Nat.zero_add]; exact hcell
      clear hc hzk
      go_wp2_with fail
      refine Calls.mono Q.out ?_
      rintro e w1 ⟨rfl, hb1⟩
      obtain ⟨hs2, x1, x2, x3, x4⟩ := Sw.again (HS.out.below hb1) HZ.out
      have HB2 : Hid (Below base W (w1.setCell ⟨b, k, none⟩ (.string z))) := (HB.out.trans (hb1.mono (Nat.le_trans hb.out HB.out.size))).setCell (p := ⟨b, k, none⟩) x4 _
      have HS2 : Hid _ := hs2
      have y1 : w1.cell? ⟨b, 0 + k, none⟩ = some (.string z) := by rw [Nat.zero_add]; exact x1
      have y2 : w1.frozen? ⟨b, 0 + k, none⟩ = false := by rw [Nat.zero_add]; exact x2
      clear hb1 Q HB HS HZ hs2
      go_wp2
      go_roundw
      case rel => first | exact ⟨k + 1, by go_num, by omega, HS2, HB2⟩ | ((repeat apply Exists.intro); exact ⟨⟨k + 1, by go_num, by omega, HS2, HB2⟩, rfl⟩)
      case measure => simp [intOf]; omega
    · obtain rfl : k = zs.length := by omega
      go_wp2
      go_ret
      exact ⟨rfl, HS.out, HB.out⟩

end Go.Proofs.YtcnjjhdmnagkgaaGreatDoor
