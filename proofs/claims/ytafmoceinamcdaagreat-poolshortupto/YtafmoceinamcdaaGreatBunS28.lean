/- Put together by a program out of these texts of mine: VNw. -/
import Derived.Test.YtafmoceinamcdaaGreatBunS27

namespace Go.Proofs.YtafmoceinamcdaaGreat
open Go.RowKit
set_option linter.unusedVariables false
set_option linter.unusedSimpArgs false

theorem pw_start (w w' : World) (d0 : Nat) (hw : w' = ((w.alloc (.map #[] 0)).alloc (.map #[] 0)).alloc (.cells #[.slice none 0 0, .map (some w.heap.size), .map (some (w.heap.size + 1))] 96)) :
    Pw w' (w.heap.size + 1 + 1) w.heap.size (w.heap.size + 1) (.slice none 0 0) (fun _ => none) (fun _ => False) d0 0 ∧ Below w.heap.size w w' := by
  have hb : Below w.heap.size w w' := by rw [hw]; exact (((Below.refl _ _).alloc (Nat.le_refl _) _).alloc (by simp) _).alloc (by simp; omega) _
  have m1 : Mg w' w.heap.size 0 (fun _ => none) := by
    rw [hw]
    exact ((Mg.made w).below (m := w.heap.size + 1) (Below.refl _ _) (by omega)).below (m := w.heap.size + 1) (((Below.refl _ _).alloc (by simp) _).alloc (by simp) _) (by omega)
  have m2 : Mg w' (w.heap.size + 1) 0 (fun _ => none) := by
    rw [hw]
    have h : Mg ((w.alloc (.map #[] 0)).alloc (.map #[] 0)) (w.heap.size + 1) 0 (fun _ => none) := by
      have h := Mg.made (w.alloc (.map #[] 0))
      simpa using h
    exact h.below (m := w.heap.size + 2) ((Below.refl _ _).alloc (by simp) _) (by omega)
  have m3 : Ob w' (w.heap.size + 1 + 1) #[.slice none 0 0, .map (some w.heap.size), .map (some (w.heap.size + 1))] 96 := by
    rw [hw]
    have := Ob.new ((w.alloc (.map #[] 0)).alloc (.map #[] 0)) #[.slice none 0 0, .map (some w.heap.size), .map (some (w.heap.size + 1))] 96
    simpa using this
  refine ⟨⟨fun _ _ => False, ⟨0, fun _ => none, ⟨m3, m1, ⟨by omega, by omega, by omega⟩, ⟨_, _, _, rfl⟩⟩, fun k => ⟨fun _ => rfl, fun kd H e => by cases e⟩⟩, ⟨fun b e => e.elim, 0, fun _ => none, m2, fun k v e => (by cases e), fun k k' v v' b e => (by cases e)⟩, fun b o e => e.elim⟩, hb⟩

def Nend (w0 : World) (n : Nat) (ms : List Md) (e : Ending) (W' : World) : Prop :=
  Below w0.heap.size w0 W' ∧ match tooK n ms with
  | true => e = .returned (.tuple #[.pointer none, .string ⟨#[]⟩, .int .i64 2])
  | false => match filesR ms n with
    | .ok h => ∃ bp bs be vf Z, e = .returned (.tuple #[.pointer (some ⟨bp, 0, none⟩), .string ⟨#[]⟩, .int .i64 0]) ∧ w0.heap.size ≤ bp ∧ Px (Rz Z) W' bp bs be vf h ∧ Zw W' Z ∧ Fws W' vf n ms
    | .error F => e = .returned (.tuple #[.pointer none, .string F, .int .i64 140])

theorem nend_ok {w0 W' : World} {n : Nat} {ms : List Md} {h : Sy} (hk : tooK n ms = false) (hr : filesR ms n = .ok h) (hb : Below w0.heap.size w0 W') {bp bs be : Nat} {vf : Value} {Z : Nat → Nat → Prop} (hl : w0.heap.size ≤ bp) (hp : Px (Rz Z) W' bp bs be vf h) (hz : Zw W' Z) (hx : Fws W' vf n ms) : Nend w0 n ms (.returned (.tuple #[.pointer (some ⟨bp, 0, none⟩), .string ⟨#[]⟩, .int .i64 0])) W' := by
  unfold Nend
  rw [hk]
  simp only
  rw [hr]
  exact ⟨hb, bp, bs, be, vf, Z, rfl, hl, hp, hz, hx⟩

theorem nend_err {w0 W' : World} {n : Nat} {ms : List Md} {F : ByteArray} (hk : tooK n ms = false) (hr : filesR ms n = .error F) (hb : Below w0.heap.size w0 W') : Nend w0 n ms (.returned (.tuple #[.pointer none, .string F, .int .i64 140])) W' := by
  unfold Nend
  rw [hk]
  simp only
  rw [hr]
  exact ⟨hb, rfl⟩

theorem nend_deep {w0 W' : World} {n : Nat} {ms : List Md} (hk : tooK n ms = true) (hb : Below w0.heap.size w0 W') : Nend w0 n ms (.returned (.tuple #[.pointer none, .string ⟨#[]⟩, .int .i64 2])) W' := by
  unfold Nend
  rw [hk]
  exact ⟨hb, rfl⟩

theorem gend_cases {w0 : World} {bp bs be : Nat} {n : Nat} {ms : List Md} {r : Except ByteArray Sy} {e : Ending} {W' : World} (h : Gend w0 bp bs be n ms r e W') :
    (∃ h', r = .ok h' ∧ e = .returned (.tuple #[.string ⟨#[]⟩, .int .i64 0]) ∧ Below w0.heap.size w0 W' ∧ ∃ vf Z, Px (Rz Z) W' bp bs be vf h' ∧ Zw W' Z ∧ Fws W' vf n ms) ∨
    (∃ F, r = .error F ∧ e = .returned (.tuple #[.string F, .int .i64 140]) ∧ Below w0.heap.size w0 W') := by
  cases r with
  | ok h' => exact .inl ⟨h', rfl, h.2.1, h.1, h.2.2⟩
  | error F => exact .inr ⟨F, rfl, h.2, h.1⟩

set_option maxRecDepth 100000 in
set_option maxHeartbeats 16000000 in
theorem qnew (w0 : World) (a : Option Addr) (n c : Nat) (ms : List Md) (HSRC : Hid (Src w0 22 (.ls a n c ms))) (HNM : Hid (Nm (.ls a n c ms))) (HCN : Hid (cntF ms n ≤ 900000000)) (hn : n ≤ 900000000) :
    Calls Tryz.prog 33 #[.slice a n c] w0 fun e W' => Nend w0 n ms e W' := by
  have hmm := @run_makeMap Tryz.prog
  have QC : Hid _ := pconF a n c ms w0 (show Hid _ from HSRC.out.1) (by omega)
  have HN : Hid (n ≤ 900000000) := hn
  clear hn
  rcases hk : tooK n ms with _ | _
  · rw [hk] at QC
    have HK : Hid _ := hk
    clear hk
    go_enter Tryz.func33, Tryz.ntmps33
    go_wp2_with fail
    refine Calls.mono QC.out ?_
    rintro e w1 ⟨rfl, hb1⟩
    obtain ⟨w2, hw2⟩ : ∃ w2, w2 = ((w1.alloc (.map #[] 0)).alloc (.map #[] 0)).alloc (.cells #[.slice none 0 0, .map (some w1.heap.size), .map (some (w1.heap.size + 1))] 96) := ⟨_, rfl⟩
    obtain ⟨hp2, hb2⟩ := pw_start w1 w2 w0.heap.size hw2
    have hs1 := hb1.size
    have QF : Hid _ := qfill w0 a n c ms HSRC HNM HK HCN HN.out w2 _ _ _ (show Hid _ from hb1.trans (hb2.mono hb1.size)) (show Hid _ from ⟨by omega, hs1, by omega⟩) (show Hid _ from hp2)
    have HW2 : Hid _ := hw2
    have HB1 : Hid _ := hb1
    clear hp2 hb2 hw2 hb1 QC hs1
    go_upto_region 4 with fail
    rw [← HW2.out]
    clear HW2
    go_wp2_with fail
    refine Calls.mono QF.out ?_
    rintro e w3 hg3
    rcases gend_cases hg3 with ⟨h', hr, rfl, hb3, vf, Z, hpx, hzw, hrow⟩ | ⟨F, hr, rfl, hb3⟩
    · have HG : Hid (w0.heap.size ≤ w1.heap.size + 1 + 1 ∧ Px (Rz Z) w3 (w1.heap.size + 1 + 1) w1.heap.size (w1.heap.size + 1) vf h' ∧ Zw w3 Z ∧ Fws w3 vf n ms) := ⟨by have := HB1.out.size; omega, hpx, hzw, hrow⟩
      have HR : Hid _ := hr
      have HB3 : Hid _ := hb3
      clear hg3 hr hb3 hpx hzw hrow QF
      go_wp2
      go_ret3
      exact nend_ok HK.out HR.out HB3.out HG.out.1 HG.out.2.1 HG.out.2.2.1 HG.out.2.2.2
    · have HR : Hid _ := hr
      have HB3 : Hid _ := hb3
      clear hg3 hr hb3 QF
      go_wp2
      go_ret3
      exact nend_err HK.out HR.out HB3.out
  · rw [hk] at QC
    have HK : Hid _ := hk
    clear hk
    go_enter Tryz.func33, Tryz.ntmps33
    go_wp2_with fail
    refine Calls.mono QC.out ?_
    rintro e w1 ⟨rfl, hb1⟩
    have HB1 : Hid _ := hb1
    clear hb1 QC
    go_wp2
    go_ret3
    exact nend_deep HK.out HB1.out

end Go.Proofs.YtafmoceinamcdaaGreat
