/- Put together by a program out of these texts of mine: DEr, DBv, DEv, DBo, DEo. -/
import Derived.Deep.DeepCutAuto
import Derived.Test.YtafmoceinamcdaaGreatBunS4
import Derived.Test.YtafmoceinamcdaaGreatBunS6
import Derived.Test.YtafmoceinamcdaaGreatBunS8

namespace Go.Proofs.YtafmoceinamcdaaGreat
open Go.RowKit
set_option linter.unusedVariables false
set_option linter.unusedSimpArgs false

theorem krange_any (A : TypeId → Prop) (hA : True) (x0 x1 : Int) (w : World) :
    Calls Tryz.prog 82 #[.agg #[.int .i64 x0, .int .i64 x1]] w fun e w' => e = .returned (.agg #[.int .i64 x0, .int .i64 x1]) ∧ CpyL w' w.heap.size A [2, 2] [.num .i64 x0, .num .i64 x1] [.int .i64 x0, .int .i64 x1] ∧ Below w.heap.size w w' := by
  go_enter Tryz.func82, Tryz.ntmps82
  go_wp2
  refine bodyPost_ret (v := .agg #[.int .i64 x0, .int .i64 x1]) (by simp [results, Tryz.results82, go_sem]) rfl ⟨rfl, ?_, ?_⟩
  · exact CpyL.cons (Cpy.num x0 Tryz.underlying2) (CpyL.cons (Cpy.num x1 Tryz.underlying2) (CpyL.nil _ _ _))
  · exact ((Below.refl _ _).alloc (Nat.le_refl _) _).alloc (by simp) _

theorem flds_range : flds Tryz.prog 137 = [2, 2] := by kernel_rfl

theorem range_at {w : World} {a : Option Addr} {n c : Nat} {ms : List Md} (h : Src w 36 (.ls a n c ms)) (i : Nat) (hi : i < n) :
    ∃ b off x0 x1, a = some ⟨b, off, none⟩ ∧ b < w.heap.size ∧ w.cell? ⟨b, off + i * 2, none⟩ = some (.int .i64 x0) ∧ w.cell? ⟨b, off + i * 2 + 1, none⟩ = some (.int .i64 x1) ∧ ms[i * 2 + 0]? = some (.num .i64 x0) ∧ ms[i * 2 + 1]? = some (.num .i64 x1) := by
  obtain ⟨h, hz⟩ := h
  cases h with
  | ls hT hnc hm hnil hlen hmem hk =>
    rename_i E
    have hE : E = 137 := by
      have := Tryz.underlying36
      rw [this] at hT
      cases hT
      rfl
    subst hE
    cases hz with
    | ls hT2 hb2 hk2 =>
    rename_i E
    have hE : E = 137 := by
      have := Tryz.underlying36
      rw [this] at hT2
      cases hT2
      rfl
    subst hE
    rw [flds_range] at hlen hk hk2
    obtain ⟨b, off, rfl, hb, hc⟩ := hmem (by omega)
    have hg : ∀ j, j < 2 → ∃ m, ms[i * 2 + j]? = some m := fun j hj => ⟨_, List.getElem?_eq_getElem (by simp at hlen; omega)⟩
    have hmod : ∀ j, j < 2 → (i * 2 + j) % 2 = j := fun j hj => by omega
    obtain ⟨q0, hq0⟩ := hg 0 (by omega)
    have ok0 := hk _ _ 2 hq0 (by rw [show ([2, 2] : List TypeId).length = 2 from rfl, hmod 0 (by omega)]; rfl)
    have sz0 := hk2 _ _ 2 hq0 (by rw [show ([2, 2] : List TypeId).length = 2 from rfl, hmod 0 (by omega)]; rfl)
    have cl0 := hc _ _ hq0
    obtain ⟨q1, hq1⟩ := hg 1 (by omega)
    have ok1 := hk _ _ 2 hq1 (by rw [show ([2, 2] : List TypeId).length = 2 from rfl, hmod 1 (by omega)]; rfl)
    have sz1 := hk2 _ _ 2 hq1 (by rw [show ([2, 2] : List TypeId).length = 2 from rfl, hmod 1 (by omega)]; rfl)
    have cl1 := hc _ _ hq1
    obtain ⟨x0, rfl⟩ := ok_num2 Tryz.underlying2 ok0
    obtain ⟨x1, rfl⟩ := ok_num2 Tryz.underlying2 ok1
    refine ⟨b, off, x0, x1, rfl, hb, ?_, ?_, hq0, hq1⟩
    · simpa [Md.val, Nat.add_assoc] using cl0
    · simpa [Md.val, Nat.add_assoc] using cl1

theorem Tryz.infrange : (Tryz.prog.info? 137).map (fun i => (i.zero, i.size, i.bytes)) = some (some (.agg #[.int .i64 0, .int .i64 0]), 2, 16) := by kernel_rfl

theorem new_range (w : World) (x0 : Value) (x1 : Value) (t : TypeId) : ∀ (j : Nat) (u : Value), [x0, x1][j]? = some u → (w.alloc (.cells #[x0, x1] t)).cell? (({ block := w.heap.size, off := 0 } : Addr).add j) = some u := by
  intro j u hj
  have hl : j < 2 := (List.getElem?_eq_some_iff.1 hj).1
  match j, hl with
  | 0, _ => simp at hj; subst hj; simp [Addr.add]
  | 1, _ => simp at hj; subst hj; simp [Addr.add]

theorem hes_range {ms : List Md} {k : Nat} {q0 q1 : Md} (h : ms[k * 2 + 0]? = some q0 ∧ ms[k * 2 + 1]? = some q1) : ∀ j, j < [2, 2].length → ms[k * 2 + j]? = [q0, q1][j]? := by
  intro j hj
  have hl : j < 2 := hj
  match j, hl with
  | 0, _ => exact h.1
  | 1, _ => exact h.2

set_option maxRecDepth 100000 in
set_option maxHeartbeats 4000000 in
theorem kranges_any (A : TypeId → Prop) (hA : A 137) (a : Option Addr) (n c : Nat) (ms : List Md) (w : World) (hs : Hid (Src w 36 (.ls a n c ms))) :
    Calls Tryz.prog 81 #[.slice a n c, .func (.func 82) #[] #[]] w fun e w' => ∃ v, e = .returned v ∧ Cpy w' w.heap.size A 36 (.ls a n c ms) v ∧ Below w.heap.size w w' := by
  obtain ⟨i0, hi, hz0, hz1, hz2⟩ := info_parts Tryz.infrange
  obtain ⟨hn, hby, hml⟩ : (n : Int) ≤ 9223372036854775807 ∧ n * 16 ≤ 140737488355328 ∧ ms.length = n * 2 := by
    obtain ⟨ok, sz⟩ := hs.out
    refine ⟨?_, ?_, ?_⟩
    · cases ok with
      | ls hT hnc hm => unfold maxLen at hm; omega
    · cases sz with
      | ls hT hb hk =>
        rw [Tryz.underlying36] at hT
        cases hT
        have : Tryz.prog.bytesOf 137 = 16 := by kernel_rfl
        rw [this] at hb
        exact hb
    · cases ok with
      | ls hT hnc hm hnil hlen hmem hk =>
        rw [Tryz.underlying36] at hT
        cases hT
        rw [flds_range] at hlen
        exact hlen
  have HML : Hid _ := hml
  clear hml
  have HA : Hid _ := hA
  clear hA
  go_enter Tryz.func81, Tryz.ntmps81
  go_wp2
  go_loopw [5, 10] (fun v i wr => ∃ k : Nat, k ≤ n ∧ i = .int .i64 (k : Int) ∧ Hid (Eac wr w.heap.size (fun X => A X ∧ X ≠ 137) 137 ms k v) ∧ Hid (Below w.heap.size w wr)) (fun _ i _ => n - (intOf i).toNat)
  case atStart => exact ⟨0, Nat.zero_le _, rfl, Eac.nil _ _ _ _ _, Below.refl _ _⟩
  case round =>
    obtain ⟨k, hk, rfl, HE, HW⟩ := hrel
    have hwz := HW.out.size
    by_cases hlk : k < n
    · obtain ⟨b, off, x0, x1, rfl, hlt, d0, d1, G0, G1⟩ := range_at (hs.out.under HW.out) k hlk
      have HG : Hid (ms[k * 2 + 0]? = some (.num .i64 x0) ∧ ms[k * 2 + 1]? = some (.num .i64 x1)) := ⟨G0, G1⟩
      clear G0 G1 hs
      have HX : Hid (Below wr.heap.size wr (wr.alloc (.cells #[.int .i64 x0, .int .i64 x1] 137))) := (Below.refl _ _).alloc (Nat.le_refl _) _
      have Q : Hid _ := krange_any (fun X => A X ∧ X ≠ 137) (show _ from (by have hA := HA.out; exact trivial)) x0 x1 (wr.alloc (.cells #[.int .i64 x0, .int .i64 x1] 137))  
      go_wp2_with fail
      refine Calls.mono Q.out ?_
      rintro e w2 ⟨rfl, hcp, hb2⟩
      have HB2 : Hid (Below wr.heap.size wr w2) := HX.out.trans (hb2.mono (by simp))
      have HC2 : Hid (CpyL w2 w.heap.size (fun X => A X ∧ X ≠ 137) [2, 2] [.num .i64 x0, .num .i64 x1] [.int .i64 x0, .int .i64 x1]) := (show CpyL _ _ _ _ _ _ from hcp).from (by simp; omega)
      have HE2 : Hid (Eac w2 w.heap.size (fun X => A X ∧ X ≠ 137) 137 ms k u5) := Eac.under HE.out HB2.out
      clear hcp hb2 Q HX HE
      have hzz := HB2.out.size
      have HE3 : Hid (Eac (w2.alloc (.cells #[.int .i64 x0, .int .i64 x1] 137)) w.heap.size (fun X => A X ∧ X ≠ 137) 137 ms k u5) := Eac.under HE2.out ((Below.refl _ _).alloc (Nat.le_refl _) _)
      have HC3 : Hid (CpyL (w2.alloc (.cells #[.int .i64 x0, .int .i64 x1] 137)) w.heap.size (fun X => A X ∧ X ≠ 137) [2, 2] [.num .i64 x0, .num .i64 x1] [.int .i64 x0, .int .i64 x1]) := CpyL.under HC2.out ((Below.refl _ _).alloc (Nat.le_refl _) _)
      obtain ⟨ms', hown0, hall0⟩ := HE3.out
      have HO : Hid ((w2.alloc (.cells #[.int .i64 x0, .int .i64 x1] 137)).ownsRow w.heap.size 137 2 u5 k (ms'.map Md.val)) := by rw [flds_range] at hown0; exact hown0
      have HO0 : Hid _ := hown0
      have HALL : Hid _ := hall0
      clear hown0 hall0 HE3 HE2 HC2
      go_wp2_with (at_builtin; refine wpList_append_own_at _ rfl _ _ 36 rfl w.heap.size 137 i0 (.agg #[.int .i64 0, .int .i64 0]) 2 16 Tryz.underlying36 hi hz0 hz1 hz2 rfl (by decide) _ k _ rfl HO.out ⟨w2.heap.size, 0, none⟩ 1 1 [.int .i64 x0, .int .i64 x1] rfl rfl (new_range _ _ _ _) (by intro u hu; simp at hu; rcases hu with rfl | rfl <;> rfl) (by unfold maxLen; omega) (by omega) (by simp; omega) ?_; intro v4 w4 hown4 hgrow4 hnil4 hat4; have HP4 : Hid (Eac w4 w.heap.size (fun X => A X ∧ X ≠ 137) 137 ms (k + 1) v4) := Eac.push (fun X h => h.2) HO0.out HALL.out (by rw [flds_range]; exact HC3.out) (by rw [flds_range]; rfl) (by rw [flds_range]; exact hes_range HG.out) hgrow4 (by rw [flds_range]; exact hown4); have HB4 : Hid (Below w.heap.size w w4) := (HW.out.trans ((HB2.out.alloc HB2.out.size _).mono HW.out.size)).grown hgrow4 (by simp; omega) (fun g hg => own_low HO.out hg); obtain ⟨a4, c4, rfl⟩ := own_slice hown4; clear hown4 hgrow4 hnil4 hat4 HO HO0 HALL HC3)
      go_roundw
      case rel => exact ⟨k + 1, by omega, by go_num, HP4.out, HB4.out⟩
      case measure => simp [intOf]; omega
    · have hkn : k = n := by omega
      subst hkn
      have HF : Hid (Cpy wr w.heap.size A 36 (.ls a k c ms) u5) := Eac.all Tryz.underlying36 (fun X h => h.1) HA.out (by rw [flds_range]; exact HML.out) HE.out
      go_wp2
      go_ret
      exact ⟨_, rfl, HF.out, HW.out⟩

theorem flds_ktexts0_any : flds Tryz.prog 9 = [9] := by kernel_rfl

theorem Tryz.infktexts0_any : (Tryz.prog.info? 9).map (fun i => (i.zero, i.size, i.bytes)) = some (some (.string ⟨#[]⟩), 1, 16) := by kernel_rfl

theorem at_ktexts0_any {w : World} {a : Option Addr} {n c : Nat} {ms : List Md} (h : Src w 30 (.ls a n c ms)) (i : Nat) (hi : i < n) :
    ∃ b off s, a = some ⟨b, off, none⟩ ∧ b < w.heap.size ∧ w.cell? ⟨b, off + i, none⟩ = some (.string s) ∧ s.size ≤ 140737488355328 ∧ ms[i]? = some (.str s) := by
  obtain ⟨h, hz⟩ := h
  cases h with
  | ls hT hnc hm hnil hlen hmem hk =>
    rename_i E
    have hE : E = 9 := by
      have := Tryz.underlying30
      rw [this] at hT
      cases hT
      rfl
    subst hE
    cases hz with
    | ls hT2 hb2 hk2 =>
    rename_i E
    have hE : E = 9 := by
      have := Tryz.underlying30
      rw [this] at hT2
      cases hT2
      rfl
    subst hE
    rw [flds_ktexts0_any] at hlen hk hk2
    obtain ⟨b, off, rfl, hb, hc⟩ := hmem (by omega)
    obtain ⟨q, hq⟩ : ∃ m, ms[i]? = some m := ⟨_, List.getElem?_eq_getElem (by simp at hlen; omega)⟩
    have ok := hk _ _ 9 hq (by simp [Nat.mod_one])
    have sz := hk2 _ _ 9 hq (by simp [Nat.mod_one])
    have cl := hc _ _ hq
    obtain ⟨s, rfl, _⟩ := ok_str2 Tryz.underlying9 ok
    exact ⟨b, off, _, rfl, hb, by simpa [Md.val] using cl, sz_str sz, hq⟩

set_option maxRecDepth 100000 in
set_option maxHeartbeats 4000000 in
theorem ktexts0_any (A : TypeId → Prop) (hA : A 9) (a : Option Addr) (n c : Nat) (ms : List Md) (w : World) (hs : Hid (Src w 30 (.ls a n c ms))) :
    Calls Tryz.prog 74 #[.slice a n c, .func (.func 45) #[] #[]] w fun e w' => ∃ v, e = .returned v ∧ Cpy w' w.heap.size A 30 (.ls a n c ms) v ∧ Below w.heap.size w w' := by
  obtain ⟨i0, hi, hz0, hz1, hz2⟩ := info_parts Tryz.infktexts0_any
  obtain ⟨hn, hby, hml⟩ : (n : Int) ≤ 9223372036854775807 ∧ n * 16 ≤ 140737488355328 ∧ ms.length = n * 1 := by
    obtain ⟨ok, sz⟩ := hs.out
    refine ⟨?_, ?_, ?_⟩
    · cases ok with
      | ls hT hnc hm => unfold maxLen at hm; omega
    · cases sz with
      | ls hT hb hk =>
        rw [Tryz.underlying30] at hT
        cases hT
        have : Tryz.prog.bytesOf 9 = 16 := by kernel_rfl
        rw [this] at hb
        exact hb
    · cases ok with
      | ls hT hnc hm hnil hlen hmem hk =>
        rw [Tryz.underlying30] at hT
        cases hT
        rw [flds_ktexts0_any] at hlen
        exact hlen
  have HML : Hid _ := hml
  clear hml
  have HA : Hid _ := hA
  clear hA
  go_enter Tryz.func74, Tryz.ntmps74
  go_wp2
  go_loopw [5, 10] (fun v i wr => ∃ k : Nat, k ≤ n ∧ i = .int .i64 (k : Int) ∧ Hid (Eac wr w.heap.size (fun X => A X ∧ X ≠ 9) 9 ms k v) ∧ Hid (Below w.heap.size w wr)) (fun _ i _ => n - (intOf i).toNat)
  case atStart => exact ⟨0, Nat.zero_le _, rfl, Eac.nil _ _ _ _ _, Below.refl _ _⟩
  case round =>
    obtain ⟨k, hk, rfl, HE, HW⟩ := hrel
    have hwz := HW.out.size
    by_cases hlk : k < n
    · obtain ⟨b, off, s, rfl, hlt, d0, Z0, G0⟩ := at_ktexts0_any (hs.out.under HW.out) k hlk
      have HZ0 : Hid _ := Z0
      have HG : Hid _ := G0
      clear Z0 G0 hs
      go_wp2_with fail
      refine Calls.mono (kclone_any s _ (show Hid _ from HZ0.out)) ?_
      rintro e w2 ⟨rfl, hb2⟩
      have HB2 : Hid (Below wr.heap.size wr w2) := hb2
      have HE2 : Hid (Eac w2 w.heap.size (fun X => A X ∧ X ≠ 9) 9 ms k u5) := Eac.under HE.out HB2.out
      clear hb2 HE
      have hzz := HB2.out.size
      have HE3 : Hid (Eac (w2.alloc (.cells #[.string s] 9)) w.heap.size (fun X => A X ∧ X ≠ 9) 9 ms k u5) := Eac.under HE2.out ((Below.refl _ _).alloc (Nat.le_refl _) _)
      have HC3 : Hid (CpyL (w2.alloc (.cells #[.string s] 9)) w.heap.size (fun X => A X ∧ X ≠ 9) [9] [.str s] [.string s]) := CpyL.cons (Cpy.str s) (CpyL.nil _ _ _)
      obtain ⟨ms', hown0, hall0⟩ := HE3.out
      have HO : Hid ((w2.alloc (.cells #[.string s] 9)).ownsRow w.heap.size 9 1 u5 k (ms'.map Md.val)) := by rw [flds_ktexts0_any] at hown0; exact hown0
      have HO0 : Hid _ := hown0
      have HALL : Hid _ := hall0
      clear hown0 hall0 HE3 HE2
      go_wp2_with (at_builtin; refine wpList_append_own_at _ rfl _ _ 30 rfl w.heap.size 9 i0 (.string ⟨#[]⟩) 1 16 Tryz.underlying30 hi hz0 hz1 hz2 rfl (by decide) _ k _ rfl HO.out ⟨w2.heap.size, 0, none⟩ 1 1 [.string s] rfl rfl (one_new _ _ _) (by intro u hu; simp at hu; subst hu; rfl) (by unfold maxLen; omega) (by omega) (by simp; omega) ?_; intro v4 w4 hown4 hgrow4 hnil4 hat4; have HP4 : Hid (Eac w4 w.heap.size (fun X => A X ∧ X ≠ 9) 9 ms (k + 1) v4) := Eac.push (fun X h => h.2) HO0.out HALL.out (by rw [flds_ktexts0_any]; exact HC3.out) (by rw [flds_ktexts0_any]; rfl) (by rw [flds_ktexts0_any]; exact hes1 HG.out _) hgrow4 (by rw [flds_ktexts0_any]; exact hown4); have HB4 : Hid (Below w.heap.size w w4) := (HW.out.trans ((HB2.out.alloc HB2.out.size _).mono HW.out.size)).grown hgrow4 (by simp; omega) (fun g hg => own_low HO.out hg); obtain ⟨a4, c4, rfl⟩ := own_slice hown4; clear hown4 hgrow4 hnil4 hat4 HO HO0 HALL HC3)
      go_roundw
      case rel => exact ⟨k + 1, by omega, by go_num, HP4.out, HB4.out⟩
      case measure => simp [intOf]; omega
    · have hkn : k = n := by omega
      subst hkn
      have HF : Hid (Cpy wr w.heap.size A 30 (.ls a k c ms) u5) := Eac.all Tryz.underlying30 (fun X h => h.1) HA.out (by rw [flds_ktexts0_any]; exact HML.out) HE.out
      go_wp2
      go_ret
      exact ⟨_, rfl, HF.out, HW.out⟩

theorem ktexts_any (A : TypeId → Prop) (hA : A 9) (a : Option Addr) (n c : Nat) (ms : List Md) (w : World) (hs : Hid (Src w 30 (.ls a n c ms))) :
    Calls Tryz.prog 36 #[.slice a n c] w fun e w' => ∃ v, e = .returned v ∧ Cpy w' w.heap.size A 30 (.ls a n c ms) v ∧ Below w.heap.size w w' := by
  have Q : Hid _ := ktexts0_any A hA a n c ms w hs
  clear hs
  go_enter Tryz.func36, Tryz.ntmps36
  go_wp2_with fail
  refine Calls.mono Q.out ?_
  rintro e w2 ⟨v, rfl, hc, hb⟩
  obtain ⟨a2, c2, rfl⟩ := cpy_ls hc
  go_wp2
  go_ret
  exact ⟨_, rfl, hc, hb⟩

theorem ksamei_any (x : Int) (w : World) : Calls Tryz.prog 111 #[.int .i64 x] w fun e w' => e = .returned (.int .i64 x) ∧ Below w.heap.size w w' := by
  go_enter Tryz.func111, Tryz.ntmps111
  go_wp2
  go_ret
  exact ⟨rfl, Below.refl _ _⟩

theorem flds_kplaces0_any : flds Tryz.prog 3 = [3] := by kernel_rfl

theorem Tryz.infkplaces0_any : (Tryz.prog.info? 3).map (fun i => (i.zero, i.size, i.bytes)) = some (some (.int .i64 0), 1, 8) := by kernel_rfl

theorem at_kplaces0_any {w : World} {a : Option Addr} {n c : Nat} {ms : List Md} (h : Src w 59 (.ls a n c ms)) (i : Nat) (hi : i < n) :
    ∃ b off x, a = some ⟨b, off, none⟩ ∧ b < w.heap.size ∧ w.cell? ⟨b, off + i, none⟩ = some (.int .i64 x) ∧ True ∧ ms[i]? = some (.num .i64 x) := by
  obtain ⟨h, hz⟩ := h
  cases h with
  | ls hT hnc hm hnil hlen hmem hk =>
    rename_i E
    have hE : E = 3 := by
      have := Tryz.underlying59
      rw [this] at hT
      cases hT
      rfl
    subst hE
    cases hz with
    | ls hT2 hb2 hk2 =>
    rename_i E
    have hE : E = 3 := by
      have := Tryz.underlying59
      rw [this] at hT2
      cases hT2
      rfl
    subst hE
    rw [flds_kplaces0_any] at hlen hk hk2
    obtain ⟨b, off, rfl, hb, hc⟩ := hmem (by omega)
    obtain ⟨q, hq⟩ : ∃ m, ms[i]? = some m := ⟨_, List.getElem?_eq_getElem (by simp at hlen; omega)⟩
    have ok := hk _ _ 3 hq (by simp [Nat.mod_one])
    have sz := hk2 _ _ 3 hq (by simp [Nat.mod_one])
    have cl := hc _ _ hq
    obtain ⟨x, rfl⟩ := ok_num2 Tryz.underlying3 ok
    exact ⟨b, off, _, rfl, hb, by simpa [Md.val] using cl, trivial, hq⟩

set_option maxRecDepth 100000 in
set_option maxHeartbeats 4000000 in
theorem kplaces0_any (A : TypeId → Prop) (hA : A 3) (a : Option Addr) (n c : Nat) (ms : List Md) (w : World) (hs : Hid (Src w 59 (.ls a n c ms))) :
    Calls Tryz.prog 110 #[.slice a n c, .func (.func 111) #[] #[]] w fun e w' => ∃ v, e = .returned v ∧ Cpy w' w.heap.size A 59 (.ls a n c ms) v ∧ Below w.heap.size w w' := by
  obtain ⟨i0, hi, hz0, hz1, hz2⟩ := info_parts Tryz.infkplaces0_any
  obtain ⟨hn, hby, hml⟩ : (n : Int) ≤ 9223372036854775807 ∧ n * 8 ≤ 140737488355328 ∧ ms.length = n * 1 := by
    obtain ⟨ok, sz⟩ := hs.out
    refine ⟨?_, ?_, ?_⟩
    · cases ok with
      | ls hT hnc hm => unfold maxLen at hm; omega
    · cases sz with
      | ls hT hb hk =>
        rw [Tryz.underlying59] at hT
        cases hT
        have : Tryz.prog.bytesOf 3 = 8 := by kernel_rfl
        rw [this] at hb
        exact hb
    · cases ok with
      | ls hT hnc hm hnil hlen hmem hk =>
        rw [Tryz.underlying59] at hT
        cases hT
        rw [flds_kplaces0_any] at hlen
        exact hlen
  have HML : Hid _ := hml
  clear hml
  have HA : Hid _ := hA
  clear hA
  go_enter Tryz.func110, Tryz.ntmps110
  go_wp2
  go_loopw [5, 10] (fun v i wr => ∃ k : Nat, k ≤ n ∧ i = .int .i64 (k : Int) ∧ Hid (Eac wr w.heap.size (fun X => A X ∧ X ≠ 3) 3 ms k v) ∧ Hid (Below w.heap.size w wr)) (fun _ i _ => n - (intOf i).toNat)
  case atStart => exact ⟨0, Nat.zero_le _, rfl, Eac.nil _ _ _ _ _, Below.refl _ _⟩
  case round =>
    obtain ⟨k, hk, rfl, HE, HW⟩ := hrel
    have hwz := HW.out.size
    by_cases hlk : k < n
    · obtain ⟨b, off, x, rfl, hlt, d0, Z0, G0⟩ := at_kplaces0_any (hs.out.under HW.out) k hlk
      have HZ0 : Hid _ := Z0
      have HG : Hid _ := G0
      clear Z0 G0 hs
      go_wp2_with fail
      refine Calls.mono (ksamei_any x _) ?_
      rintro e w2 ⟨rfl, hb2⟩
      have HB2 : Hid (Below wr.heap.size wr w2) := hb2
      have HE2 : Hid (Eac w2 w.heap.size (fun X => A X ∧ X ≠ 3) 3 ms k u5) := Eac.under HE.out HB2.out
      clear hb2 HE
      have hzz := HB2.out.size
      have HE3 : Hid (Eac (w2.alloc (.cells #[.int .i64 x] 3)) w.heap.size (fun X => A X ∧ X ≠ 3) 3 ms k u5) := Eac.under HE2.out ((Below.refl _ _).alloc (Nat.le_refl _) _)
      have HC3 : Hid (CpyL (w2.alloc (.cells #[.int .i64 x] 3)) w.heap.size (fun X => A X ∧ X ≠ 3) [3] [.num .i64 x] [.int .i64 x]) := CpyL.cons (Cpy.num x Tryz.underlying3) (CpyL.nil _ _ _)
      obtain ⟨ms', hown0, hall0⟩ := HE3.out
      have HO : Hid ((w2.alloc (.cells #[.int .i64 x] 3)).ownsRow w.heap.size 3 1 u5 k (ms'.map Md.val)) := by rw [flds_kplaces0_any] at hown0; exact hown0
      have HO0 : Hid _ := hown0
      have HALL : Hid _ := hall0
      clear hown0 hall0 HE3 HE2
      go_wp2_with (at_builtin; refine wpList_append_own_at _ rfl _ _ 59 rfl w.heap.size 3 i0 (.int .i64 0) 1 8 Tryz.underlying59 hi hz0 hz1 hz2 rfl (by decide) _ k _ rfl HO.out ⟨w2.heap.size, 0, none⟩ 1 1 [.int .i64 x] rfl rfl (one_new _ _ _) (by intro u hu; simp at hu; subst hu; rfl) (by unfold maxLen; omega) (by omega) (by simp; omega) ?_; intro v4 w4 hown4 hgrow4 hnil4 hat4; have HP4 : Hid (Eac w4 w.heap.size (fun X => A X ∧ X ≠ 3) 3 ms (k + 1) v4) := Eac.push (fun X h => h.2) HO0.out HALL.out (by rw [flds_kplaces0_any]; exact HC3.out) (by rw [flds_kplaces0_any]; rfl) (by rw [flds_kplaces0_any]; exact hes1 HG.out _) hgrow4 (by rw [flds_kplaces0_any]; exact hown4); have HB4 : Hid (Below w.heap.size w w4) := (HW.out.trans ((HB2.out.alloc HB2.out.size _).mono HW.out.size)).grown hgrow4 (by simp; omega) (fun g hg => own_low HO.out hg); obtain ⟨a4, c4, rfl⟩ := own_slice hown4; clear hown4 hgrow4 hnil4 hat4 HO HO0 HALL HC3)
      go_roundw
      case rel => exact ⟨k + 1, by omega, by go_num, HP4.out, HB4.out⟩
      case measure => simp [intOf]; omega
    · have hkn : k = n := by omega
      subst hkn
      have HF : Hid (Cpy wr w.heap.size A 59 (.ls a k c ms) u5) := Eac.all Tryz.underlying59 (fun X h => h.1) HA.out (by rw [flds_kplaces0_any]; exact HML.out) HE.out
      go_wp2
      go_ret
      exact ⟨_, rfl, HF.out, HW.out⟩

theorem kplaces_any (A : TypeId → Prop) (hA : A 3) (a : Option Addr) (n c : Nat) (ms : List Md) (w : World) (hs : Hid (Src w 59 (.ls a n c ms))) :
    Calls Tryz.prog 63 #[.slice a n c] w fun e w' => ∃ v, e = .returned v ∧ Cpy w' w.heap.size A 59 (.ls a n c ms) v ∧ Below w.heap.size w w' := by
  have Q : Hid _ := kplaces0_any A hA a n c ms w hs
  clear hs
  go_enter Tryz.func63, Tryz.ntmps63
  go_wp2_with fail
  refine Calls.mono Q.out ?_
  rintro e w2 ⟨v, rfl, hc, hb⟩
  obtain ⟨a2, c2, rfl⟩ := cpy_ls hc
  go_wp2
  go_ret
  exact ⟨_, rfl, hc, hb⟩

set_option maxRecDepth 100000 in
set_option maxHeartbeats 4000000 in
theorem kvalue_any (A : TypeId → Prop) (hA : A 5) (lv : Int) (s0 : ByteArray) (x1 : Int) (a2 : Option Addr) (n2 k2 : Nat) (m2 : List Md) (a3 : Option Addr) (n3 k3 : Nat) (m3 : List Md) (w : World) (h2 : Hid (Src w 38 (.ls a2 n2 k2 m2))) (h3 : Hid (Src w 38 (.ls a3 n3 k3 m3))) (h0 : Hid (s0.size ≤ 140737488355328)) :
    Calls Tryz.prog 88 #[.agg #[.int .i64 lv, .bool false], .agg #[.string s0, .int .i64 x1, .slice a2 n2 k2, .slice a3 n3 k3]] w fun e w' => ∃ p2 r2 p3 r3, e = .returned (.agg #[.string s0, .int .i64 x1, .slice p2 n2 r2, .slice p3 n3 r3]) ∧ CpyL w' w.heap.size A [9, 2, 38, 38] [.str s0, .num .i64 x1, .ls a2 n2 k2 m2, .ls a3 n3 k3 m3] [.string s0, .int .i64 x1, .slice p2 n2 r2, .slice p3 n3 r3] ∧ Below w.heap.size w w' := by
  obtain ⟨W, hW⟩ : ∃ W, ((w.alloc (.cells #[.int .i64 lv, .bool false] 100)).alloc (.cells #[.string s0, .int .i64 x1, .slice a2 n2 k2, .slice a3 n3 k3] 146)).alloc (.cells #[.string ⟨#[]⟩, .int .i64 0, .slice none 0 0, .slice none 0 0] 146) = W := ⟨_, rfl⟩
  have o0 : Ob W w.heap.size #[.int .i64 lv, .bool false] 100 := by rw [← hW]; exact ((Ob.new w _ _).alloc _).alloc _
  have o1 : Ob W (w.heap.size + 1) #[.string s0, .int .i64 x1, .slice a2 n2 k2, .slice a3 n3 k3] 146 := by rw [← hW]; have := Ob.new (w.alloc (.cells #[.int .i64 lv, .bool false] 100)) #[.string s0, .int .i64 x1, .slice a2 n2 k2, .slice a3 n3 k3] 146; rw [World.size_alloc] at this; exact this.alloc _
  have o2 : Ob W (w.heap.size + 1 + 1) #[.string ⟨#[]⟩, .int .i64 0, .slice none 0 0, .slice none 0 0] 146 := by rw [← hW]; have := Ob.new ((w.alloc (.cells #[.int .i64 lv, .bool false] 100)).alloc (.cells #[.string s0, .int .i64 x1, .slice a2 n2 k2, .slice a3 n3 k3] 146)) #[.string ⟨#[]⟩, .int .i64 0, .slice none 0 0, .slice none 0 0] 146; simp only [World.size_alloc] at this; exact this
  have hb : Below w.heap.size w W := by rw [← hW]; exact (((Below.refl _ _).alloc (Nat.le_refl _) _).alloc (by simp) _).alloc (by simp; omega) _
  have HW : Hid _ := hW
  have O0 : Hid _ := o0
  have O1 : Hid _ := o1
  have O2 : Hid _ := o2
  have HB : Hid _ := hb
  have l0 := o0.lt
  have l1 := o1.lt
  have l2 := o2.lt
  clear hW o0 o1 o2 hb
  go_enter Tryz.func88, Tryz.ntmps88
  go_upto_region 1 with fail
  rw [HW.out]
  clear HW
  have HD : Hid (Below W.heap.size W W.drew) := (Below.refl _ _).drew
  refine wp_region_heldG 13 (S := fun V => Below W.heap.size W V) rfl ?_
  refine wpAnyG_take (i := 0) (v := ?_) rfl (by kernel_rfl) (by kernel_rfl) (by kernel_rfl) (by kernel_rfl) (fun _ _ _ h => h) (Or.inl ⟨by rfl, ?_⟩) HD.out ?_
  rotate_left
  · intro V HV
    go_simp
    try with_reducible rfl
  refine wpAnyG_take (i := 1) (v := ?_) rfl (by kernel_rfl) (by kernel_rfl) (by kernel_rfl) (by kernel_rfl) (fun _ _ _ h => h) (Or.inl ⟨by rfl, ?_⟩) HD.out ?_
  rotate_left
  · intro V HV
    have z0 := (HV.cell (p := ⟨w.heap.size + 1, 0, none⟩) l1).trans (O1.out.cell 0 rfl)
    go_simp
    try with_reducible rfl
  refine wpAnyG_take (i := 3) (v := ?_) rfl (by kernel_rfl) (by kernel_rfl) (by kernel_rfl) (by kernel_rfl) (fun _ _ _ h => h) (Or.inl ⟨by rfl, ?_⟩) HD.out ?_
  rotate_left
  · intro V HV
    go_simp
    try with_reducible rfl
  refine wpAnyG_take (i := 4) (v := ?_) rfl (by kernel_rfl) (by kernel_rfl) (by kernel_rfl) (by kernel_rfl) (fun _ _ _ h => h) (Or.inl ⟨by rfl, ?_⟩) HD.out ?_
  rotate_left
  · intro V HV
    have z0 := (HV.cell (p := ⟨w.heap.size + 1, 1, none⟩) l1).trans (O1.out.cell 1 rfl)
    go_simp
    try with_reducible rfl
  refine wpAnyG_take (i := 5) (v := ?_) rfl (by kernel_rfl) (by kernel_rfl) (by kernel_rfl) (by kernel_rfl) (fun _ _ _ h => h) (Or.inl ⟨by rfl, ?_⟩) HD.out ?_
  rotate_left
  · intro V HV
    go_simp
    try with_reducible rfl
  refine wpAnyG_take (i := 6) (v := ?_) rfl (by kernel_rfl) (by kernel_rfl) (by kernel_rfl) (by kernel_rfl) (fun _ _ _ h => h) (Or.inl ⟨by rfl, ?_⟩) HD.out ?_
  rotate_left
  · intro V HV
    have z0 := (HV.cell (p := ⟨w.heap.size + 1, 2, none⟩) l1).trans (O1.out.cell 2 rfl)
    go_simp
    try with_reducible rfl
  refine wpAnyG_take (i := 8) (v := ?_) rfl (by kernel_rfl) (by kernel_rfl) (by kernel_rfl) (by kernel_rfl) (fun _ _ _ h => h) (Or.inl ⟨by rfl, ?_⟩) HD.out ?_
  rotate_left
  · intro V HV
    have z0 := (HV.cell (p := ⟨w.heap.size, 0, none⟩) l0).trans (O0.out.cell 0 rfl)
    have z1 := (HV.cell (p := ⟨w.heap.size, 1, none⟩) l0).trans (O0.out.cell 1 rfl)
    go_simp
    try with_reducible rfl
  refine wpAnyG_take (i := 9) (v := ?_) rfl (by kernel_rfl) (by kernel_rfl) (by kernel_rfl) (by kernel_rfl) (fun _ _ _ h => h) (Or.inl ⟨by rfl, ?_⟩) HD.out ?_
  rotate_left
  · intro V HV
    go_simp
    try with_reducible rfl
  refine wpAnyG_take (i := 10) (v := ?_) rfl (by kernel_rfl) (by kernel_rfl) (by kernel_rfl) (by kernel_rfl) (fun _ _ _ h => h) (Or.inl ⟨by rfl, ?_⟩) HD.out ?_
  rotate_left
  · intro V HV
    have z0 := (HV.cell (p := ⟨w.heap.size + 1, 3, none⟩) l1).trans (O1.out.cell 3 rfl)
    go_simp
    try with_reducible rfl
  refine wpAnyG_all (rs := [2]) (by kernel_rfl) (by simp) ?_
  intro i hi
  obtain rfl : i = 2 := by simpa using hi
  clear hi
  refine wpOp_listV rfl ?_
  intro Q' hQ'
  have HQ : Hid _ := hQ'
  clear hQ'
  go_wp2_with fail
  refine Calls.mono (kclone_any s0 _ h0) ?_
  rintro e w4 ⟨rfl, hbl⟩
  have HB4 : Hid (Below W.heap.size W w4) := HD.out.trans (hbl.mono HD.out.size)
  clear hbl
  go_wp2
  refine HQ.out _ _ ⟨.inr HB4.out, ?_⟩
  clear HQ
  refine wpAnyG_all (rs := [7]) (by kernel_rfl) (by simp) ?_
  intro i hi
  obtain rfl : i = 7 := by simpa using hi
  clear hi
  refine wpOp_listV rfl ?_
  intro Q' hQ'
  have HQ : Hid _ := hQ'
  clear hQ'
  go_wp2_with fail
  refine Calls.mono (kbytes_any A hA a2 n2 k2 m2 _ (show Hid _ from ((h2.out.under HB.out).under HB4.out).1) (show Hid _ from h2.out.2)) ?_
  rintro e w5 ⟨v, rfl, hcp, hbl⟩
  have HB5 : Hid (Below W.heap.size W w5) := HB4.out.trans (hbl.mono HB4.out.size)
  obtain ⟨p2, r2, rfl⟩ := cpy_ls hcp
  have C2_5 : Hid (Cpy w5 W.heap.size A 38 (.ls a2 n2 k2 m2) (.slice p2 n2 r2)) := hcp.from HB4.out.size
  clear hcp
  clear hbl
  go_wp2
  refine HQ.out _ _ ⟨.inr HB5.out, ?_⟩
  clear HQ
  refine wpAnyG_all (rs := [11]) (by kernel_rfl) (by simp) ?_
  intro i hi
  obtain rfl : i = 11 := by simpa using hi
  clear hi
  refine wpOp_listV rfl ?_
  intro Q' hQ'
  have HQ : Hid _ := hQ'
  clear hQ'
  go_wp2_with fail
  refine Calls.mono (kunk_any A hA (.int .i64 lv) a3 n3 k3 m3 _ (show Hid _ from ((h3.out.under HB.out).under HB5.out).1) (show Hid _ from h3.out.2)) ?_
  rintro e w6 ⟨v, rfl, hcp, hbl⟩
  have HB6 : Hid (Below W.heap.size W w6) := HB5.out.trans (hbl.mono HB5.out.size)
  have C2_6 : Hid (Cpy w6 W.heap.size A 38 (.ls a2 n2 k2 m2) (.slice p2 n2 r2)) := Cpy.under C2_5.out hbl
  clear C2_5
  obtain ⟨p3, r3, rfl⟩ := cpy_ls hcp
  have C3_6 : Hid (Cpy w6 W.heap.size A 38 (.ls a3 n3 k3 m3) (.slice p3 n3 r3)) := hcp.from HB5.out.size
  clear hcp
  clear hbl
  go_wp2
  refine HQ.out _ _ ⟨.inr HB6.out, ?_⟩
  clear HQ
  refine wpAnyG_take (i := 12) (v := ?_) rfl (by kernel_rfl) (by kernel_rfl) (by kernel_rfl) (by kernel_rfl) (fun _ _ _ h => h) (Or.inl ⟨by rfl, ?_⟩) HB6.out ?_
  rotate_left
  · intro V HV
    go_simp
    try with_reducible rfl
  refine wpAnyG_all (rs := [13]) (by kernel_rfl) (by simp) ?_
  intro i hi
  obtain rfl : i = 13 := by simpa using hi
  clear hi
  refine wpOp_listV rfl ?_
  intro Q' hQ'
  have HQ : Hid _ := hQ'
  clear hQ'
  have O2' : Hid _ := O2.out.below HB6.out l2
  obtain ⟨⟨y0, y1, y2, y3⟩, ⟨g0, g1, g2, g3⟩, l2'⟩ := ob4 (show Ob w6 (w.heap.size + 1 + 1) #[.string ⟨#[]⟩, .int .i64 0, .slice none 0 0, .slice none 0 0] 146 from O2'.out)
  go_wp2
  refine HQ.out _ _ ⟨.inl trivial, ?_⟩
  clear HQ
  refine wpAnyG_done (by kernel_rfl) ?_ _
  go_wp2
  refine bodyPost_ret (v := .agg #[.string s0, .int .i64 x1, .slice p2 n2 r2, .slice p3 n3 r3]) (by simp [results, Tryz.results88, go_sem, y0, y1, y2, y3]) rfl ⟨_, _, _, _, rfl, ?_, ?_⟩
  · exact CpyL.cons (Cpy.str s0) (CpyL.cons (Cpy.num x1 Tryz.underlying2) (CpyL.cons (Cpy.from (Cpy.set (Cpy.set (Cpy.set (Cpy.set (C2_6.out) (b := w.heap.size + 1 + 1) l2 0 _) (b := w.heap.size + 1 + 1) l2 1 _) (b := w.heap.size + 1 + 1) l2 2 _) (b := w.heap.size + 1 + 1) l2 3 _) HB.out.size) (CpyL.cons (Cpy.from (Cpy.set (Cpy.set (Cpy.set (Cpy.set (C3_6.out) (b := w.heap.size + 1 + 1) l2 0 _) (b := w.heap.size + 1 + 1) l2 1 _) (b := w.heap.size + 1 + 1) l2 2 _) (b := w.heap.size + 1 + 1) l2 3 _) HB.out.size) (CpyL.nil _ _ _))))
  · exact ((((HB.out.trans (HB6.out.mono HB.out.size)).setCell (p := ⟨w.heap.size + 1 + 1, 0, none⟩) (by simp; omega) _).setCell (p := ⟨w.heap.size + 1 + 1, 1, none⟩) (by simp; omega) _).setCell (p := ⟨w.heap.size + 1 + 1, 2, none⟩) (by simp; omega) _).setCell (p := ⟨w.heap.size + 1 + 1, 3, none⟩) (by simp; omega) _

theorem flds_value : flds Tryz.prog 146 = [9, 2, 38, 38] := by kernel_rfl

theorem value_at {w : World} {a : Option Addr} {n c : Nat} {ms : List Md} (h : Src w 41 (.ls a n c ms)) (i : Nat) (hi : i < n) :
    ∃ b off s0 x1 a2 n2 k2 m2 a3 n3 k3 m3, a = some ⟨b, off, none⟩ ∧ b < w.heap.size ∧ w.cell? ⟨b, off + i * 4, none⟩ = some (.string s0) ∧ w.cell? ⟨b, off + i * 4 + 1, none⟩ = some (.int .i64 x1) ∧ w.cell? ⟨b, off + i * 4 + 2, none⟩ = some (.slice a2 n2 k2) ∧ w.cell? ⟨b, off + i * 4 + 3, none⟩ = some (.slice a3 n3 k3) ∧ Src w 38 (.ls a2 n2 k2 m2) ∧ Src w 38 (.ls a3 n3 k3 m3) ∧ s0.size ≤ 140737488355328 ∧ ms[i * 4 + 0]? = some (.str s0) ∧ ms[i * 4 + 1]? = some (.num .i64 x1) ∧ ms[i * 4 + 2]? = some (.ls a2 n2 k2 m2) ∧ ms[i * 4 + 3]? = some (.ls a3 n3 k3 m3) := by
  obtain ⟨h, hz⟩ := h
  cases h with
  | ls hT hnc hm hnil hlen hmem hk =>
    rename_i E
    have hE : E = 146 := by
      have := Tryz.underlying41
      rw [this] at hT
      cases hT
      rfl
    subst hE
    cases hz with
    | ls hT2 hb2 hk2 =>
    rename_i E
    have hE : E = 146 := by
      have := Tryz.underlying41
      rw [this] at hT2
      cases hT2
      rfl
    subst hE
    rw [flds_value] at hlen hk hk2
    obtain ⟨b, off, rfl, hb, hc⟩ := hmem (by omega)
    have hg : ∀ j, j < 4 → ∃ m, ms[i * 4 + j]? = some m := fun j hj => ⟨_, List.getElem?_eq_getElem (by simp at hlen; omega)⟩
    have hmod : ∀ j, j < 4 → (i * 4 + j) % 4 = j := fun j hj => by omega
    obtain ⟨q0, hq0⟩ := hg 0 (by omega)
    have ok0 := hk _ _ 9 hq0 (by rw [show ([9, 2, 38, 38] : List TypeId).length = 4 from rfl, hmod 0 (by omega)]; rfl)
    have sz0 := hk2 _ _ 9 hq0 (by rw [show ([9, 2, 38, 38] : List TypeId).length = 4 from rfl, hmod 0 (by omega)]; rfl)
    have cl0 := hc _ _ hq0
    obtain ⟨q1, hq1⟩ := hg 1 (by omega)
    have ok1 := hk _ _ 2 hq1 (by rw [show ([9, 2, 38, 38] : List TypeId).length = 4 from rfl, hmod 1 (by omega)]; rfl)
    have sz1 := hk2 _ _ 2 hq1 (by rw [show ([9, 2, 38, 38] : List TypeId).length = 4 from rfl, hmod 1 (by omega)]; rfl)
    have cl1 := hc _ _ hq1
    obtain ⟨q2, hq2⟩ := hg 2 (by omega)
    have ok2 := hk _ _ 38 hq2 (by rw [show ([9, 2, 38, 38] : List TypeId).length = 4 from rfl, hmod 2 (by omega)]; rfl)
    have sz2 := hk2 _ _ 38 hq2 (by rw [show ([9, 2, 38, 38] : List TypeId).length = 4 from rfl, hmod 2 (by omega)]; rfl)
    have cl2 := hc _ _ hq2
    obtain ⟨q3, hq3⟩ := hg 3 (by omega)
    have ok3 := hk _ _ 38 hq3 (by rw [show ([9, 2, 38, 38] : List TypeId).length = 4 from rfl, hmod 3 (by omega)]; rfl)
    have sz3 := hk2 _ _ 38 hq3 (by rw [show ([9, 2, 38, 38] : List TypeId).length = 4 from rfl, hmod 3 (by omega)]; rfl)
    have cl3 := hc _ _ hq3
    obtain ⟨s0, rfl, _⟩ := ok_str2 Tryz.underlying9 ok0
    obtain ⟨x1, rfl⟩ := ok_num2 Tryz.underlying2 ok1
    obtain ⟨a2, n2, k2, m2, rfl⟩ := ok_ls2 Tryz.underlying38 ok2
    obtain ⟨a3, n3, k3, m3, rfl⟩ := ok_ls2 Tryz.underlying38 ok3
    refine ⟨b, off, s0, x1, a2, n2, k2, m2, a3, n3, k3, m3, rfl, hb, ?_, ?_, ?_, ?_, ⟨ok2, sz2⟩, ⟨ok3, sz3⟩, sz_str sz0, hq0, hq1, hq2, hq3⟩
    · simpa [Md.val, Nat.add_assoc] using cl0
    · simpa [Md.val, Nat.add_assoc] using cl1
    · simpa [Md.val, Nat.add_assoc] using cl2
    · simpa [Md.val, Nat.add_assoc] using cl3

theorem Tryz.infvalue : (Tryz.prog.info? 146).map (fun i => (i.zero, i.size, i.bytes)) = some (some (.agg #[.string ⟨#[]⟩, .int .i64 0, .slice none 0 0, .slice none 0 0]), 4, 72) := by kernel_rfl

theorem new_value (w : World) (x0 : Value) (x1 : Value) (x2 : Value) (x3 : Value) (t : TypeId) : ∀ (j : Nat) (u : Value), [x0, x1, x2, x3][j]? = some u → (w.alloc (.cells #[x0, x1, x2, x3] t)).cell? (({ block := w.heap.size, off := 0 } : Addr).add j) = some u := by
  intro j u hj
  have hl : j < 4 := (List.getElem?_eq_some_iff.1 hj).1
  match j, hl with
  | 0, _ => simp at hj; subst hj; simp [Addr.add]
  | 1, _ => simp at hj; subst hj; simp [Addr.add]
  | 2, _ => simp at hj; subst hj; simp [Addr.add]
  | 3, _ => simp at hj; subst hj; simp [Addr.add]

theorem hes_value {ms : List Md} {k : Nat} {q0 q1 q2 q3 : Md} (h : ms[k * 4 + 0]? = some q0 ∧ ms[k * 4 + 1]? = some q1 ∧ ms[k * 4 + 2]? = some q2 ∧ ms[k * 4 + 3]? = some q3) : ∀ j, j < [9, 2, 38, 38].length → ms[k * 4 + j]? = [q0, q1, q2, q3][j]? := by
  intro j hj
  have hl : j < 4 := hj
  match j, hl with
  | 0, _ => exact h.1
  | 1, _ => exact h.2.1
  | 2, _ => exact h.2.2.1
  | 3, _ => exact h.2.2.2

set_option maxRecDepth 100000 in
set_option maxHeartbeats 4000000 in
theorem kvalues_any (A : TypeId → Prop) (hA : A 5 ∧ A 146) (lv : Int) (a : Option Addr) (n c : Nat) (ms : List Md) (w : World) (hs : Hid (Src w 41 (.ls a n c ms))) :
    Calls Tryz.prog 87 #[.slice a n c, .func (.func 88) #[.agg #[.int .i64 lv, .bool false]] #[]] w fun e w' => ∃ v, e = .returned v ∧ Cpy w' w.heap.size A 41 (.ls a n c ms) v ∧ Below w.heap.size w w' := by
  obtain ⟨i0, hi, hz0, hz1, hz2⟩ := info_parts Tryz.infvalue
  obtain ⟨hn, hby, hml⟩ : (n : Int) ≤ 9223372036854775807 ∧ n * 72 ≤ 140737488355328 ∧ ms.length = n * 4 := by
    obtain ⟨ok, sz⟩ := hs.out
    refine ⟨?_, ?_, ?_⟩
    · cases ok with
      | ls hT hnc hm => unfold maxLen at hm; omega
    · cases sz with
      | ls hT hb hk =>
        rw [Tryz.underlying41] at hT
        cases hT
        have : Tryz.prog.bytesOf 146 = 72 := by kernel_rfl
        rw [this] at hb
        exact hb
    · cases ok with
      | ls hT hnc hm hnil hlen hmem hk =>
        rw [Tryz.underlying41] at hT
        cases hT
        rw [flds_value] at hlen
        exact hlen
  have HML : Hid _ := hml
  clear hml
  have HA : Hid _ := hA
  clear hA
  go_enter Tryz.func87, Tryz.ntmps87
  go_wp2
  go_loopw [5, 10] (fun v i wr => ∃ k : Nat, k ≤ n ∧ i = .int .i64 (k : Int) ∧ Hid (Eac wr w.heap.size (fun X => A X ∧ X ≠ 146) 146 ms k v) ∧ Hid (Below w.heap.size w wr)) (fun _ i _ => n - (intOf i).toNat)
  case atStart => exact ⟨0, Nat.zero_le _, rfl, Eac.nil _ _ _ _ _, Below.refl _ _⟩
  case round =>
    obtain ⟨k, hk, rfl, HE, HW⟩ := hrel
    have hwz := HW.out.size
    by_cases hlk : k < n
    · obtain ⟨b, off, s0, x1, a2, n2, k2, m2, a3, n3, k3, m3, rfl, hlt, d0, d1, d2, d3, S2, S3, Z0, G0, G1, G2, G3⟩ := value_at (hs.out.under HW.out) k hlk
      have HS2 : Hid _ := S2
      have HS3 : Hid _ := S3
      have HZ0 : Hid _ := Z0
      have HG : Hid (ms[k * 4 + 0]? = some (.str s0) ∧ ms[k * 4 + 1]? = some (.num .i64 x1) ∧ ms[k * 4 + 2]? = some (.ls a2 n2 k2 m2) ∧ ms[k * 4 + 3]? = some (.ls a3 n3 k3 m3)) := ⟨G0, G1, G2, G3⟩
      clear S2 S3 Z0 G0 G1 G2 G3 hs
      have HX : Hid (Below wr.heap.size wr (wr.alloc (.cells #[.string s0, .int .i64 x1, .slice a2 n2 k2, .slice a3 n3 k3] 146))) := (Below.refl _ _).alloc (Nat.le_refl _) _
      have Q : Hid _ := kvalue_any (fun X => A X ∧ X ≠ 146) (show _ from (by have hA := HA.out; exact ⟨hA.1, by decide⟩)) lv s0 x1 a2 n2 k2 m2 a3 n3 k3 m3 (wr.alloc (.cells #[.string s0, .int .i64 x1, .slice a2 n2 k2, .slice a3 n3 k3] 146)) (show Hid _ from Src.under HS2.out HX.out) (show Hid _ from Src.under HS3.out HX.out) (show Hid _ from HZ0.out)
      go_wp2_with fail
      refine Calls.mono Q.out ?_
      rintro e w2 ⟨p2, r2, p3, r3, rfl, hcp, hb2⟩
      have HB2 : Hid (Below wr.heap.size wr w2) := HX.out.trans (hb2.mono (by simp))
      have HC2 : Hid (CpyL w2 w.heap.size (fun X => A X ∧ X ≠ 146) [9, 2, 38, 38] [.str s0, .num .i64 x1, .ls a2 n2 k2 m2, .ls a3 n3 k3 m3] [.string s0, .int .i64 x1, .slice p2 n2 r2, .slice p3 n3 r3]) := (show CpyL _ _ _ _ _ _ from hcp).from (by simp; omega)
      have HE2 : Hid (Eac w2 w.heap.size (fun X => A X ∧ X ≠ 146) 146 ms k u5) := Eac.under HE.out HB2.out
      clear hcp hb2 Q HX HE
      have hzz := HB2.out.size
      have HE3 : Hid (Eac (w2.alloc (.cells #[.string s0, .int .i64 x1, .slice p2 n2 r2, .slice p3 n3 r3] 146)) w.heap.size (fun X => A X ∧ X ≠ 146) 146 ms k u5) := Eac.under HE2.out ((Below.refl _ _).alloc (Nat.le_refl _) _)
      have HC3 : Hid (CpyL (w2.alloc (.cells #[.string s0, .int .i64 x1, .slice p2 n2 r2, .slice p3 n3 r3] 146)) w.heap.size (fun X => A X ∧ X ≠ 146) [9, 2, 38, 38] [.str s0, .num .i64 x1, .ls a2 n2 k2 m2, .ls a3 n3 k3 m3] [.string s0, .int .i64 x1, .slice p2 n2 r2, .slice p3 n3 r3]) := CpyL.under HC2.out ((Below.refl _ _).alloc (Nat.le_refl _) _)
      obtain ⟨ms', hown0, hall0⟩ := HE3.out
      have HO : Hid ((w2.alloc (.cells #[.string s0, .int .i64 x1, .slice p2 n2 r2, .slice p3 n3 r3] 146)).ownsRow w.heap.size 146 4 u5 k (ms'.map Md.val)) := by rw [flds_value] at hown0; exact hown0
      have HO0 : Hid _ := hown0
      have HALL : Hid _ := hall0
      clear hown0 hall0 HE3 HE2 HC2
      go_wp2_with (at_builtin; refine wpList_append_own_at _ rfl _ _ 41 rfl w.heap.size 146 i0 (.agg #[.string ⟨#[]⟩, .int .i64 0, .slice none 0 0, .slice none 0 0]) 4 72 Tryz.underlying41 hi hz0 hz1 hz2 rfl (by decide) _ k _ rfl HO.out ⟨w2.heap.size, 0, none⟩ 1 1 [.string s0, .int .i64 x1, .slice p2 n2 r2, .slice p3 n3 r3] rfl rfl (new_value _ _ _ _ _ _) (by intro u hu; simp at hu; rcases hu with rfl | rfl | rfl | rfl <;> rfl) (by unfold maxLen; omega) (by omega) (by simp; omega) ?_; intro v4 w4 hown4 hgrow4 hnil4 hat4; have HP4 : Hid (Eac w4 w.heap.size (fun X => A X ∧ X ≠ 146) 146 ms (k + 1) v4) := Eac.push (fun X h => h.2) HO0.out HALL.out (by rw [flds_value]; exact HC3.out) (by rw [flds_value]; rfl) (by rw [flds_value]; exact hes_value HG.out) hgrow4 (by rw [flds_value]; exact hown4); have HB4 : Hid (Below w.heap.size w w4) := (HW.out.trans ((HB2.out.alloc HB2.out.size _).mono HW.out.size)).grown hgrow4 (by simp; omega) (fun g hg => own_low HO.out hg); obtain ⟨a4, c4, rfl⟩ := own_slice hown4; clear hown4 hgrow4 hnil4 hat4 HO HO0 HALL HC3)
      go_roundw
      case rel => exact ⟨k + 1, by omega, by go_num, HP4.out, HB4.out⟩
      case measure => simp [intOf]; omega
    · have hkn : k = n := by omega
      subst hkn
      have HF : Hid (Cpy wr w.heap.size A 41 (.ls a k c ms) u5) := Eac.all Tryz.underlying41 (fun X h => h.1) HA.out.2 (by rw [flds_value]; exact HML.out) HE.out
      go_wp2
      go_ret
      exact ⟨_, rfl, HF.out, HW.out⟩

set_option maxRecDepth 100000 in
set_option maxHeartbeats 4000000 in
theorem koneof_any (A : TypeId → Prop) (hA : A 5) (lv : Int) (s0 : ByteArray) (a1 : Option Addr) (n1 k1 : Nat) (m1 : List Md) (a2 : Option Addr) (n2 k2 : Nat) (m2 : List Md) (w : World) (h1 : Hid (Src w 38 (.ls a1 n1 k1 m1))) (h2 : Hid (Src w 38 (.ls a2 n2 k2 m2))) (h0 : Hid (s0.size ≤ 140737488355328)) :
    Calls Tryz.prog 84 #[.agg #[.int .i64 lv, .bool false], .agg #[.string s0, .slice a1 n1 k1, .slice a2 n2 k2]] w fun e w' => ∃ p1 r1 p2 r2, e = .returned (.agg #[.string s0, .slice p1 n1 r1, .slice p2 n2 r2]) ∧ CpyL w' w.heap.size A [9, 38, 38] [.str s0, .ls a1 n1 k1 m1, .ls a2 n2 k2 m2] [.string s0, .slice p1 n1 r1, .slice p2 n2 r2] ∧ Below w.heap.size w w' := by
  obtain ⟨W, hW⟩ : ∃ W, ((w.alloc (.cells #[.int .i64 lv, .bool false] 100)).alloc (.cells #[.string s0, .slice a1 n1 k1, .slice a2 n2 k2] 141)).alloc (.cells #[.string ⟨#[]⟩, .slice none 0 0, .slice none 0 0] 141) = W := ⟨_, rfl⟩
  have o0 : Ob W w.heap.size #[.int .i64 lv, .bool false] 100 := by rw [← hW]; exact ((Ob.new w _ _).alloc _).alloc _
  have o1 : Ob W (w.heap.size + 1) #[.string s0, .slice a1 n1 k1, .slice a2 n2 k2] 141 := by rw [← hW]; have := Ob.new (w.alloc (.cells #[.int .i64 lv, .bool false] 100)) #[.string s0, .slice a1 n1 k1, .slice a2 n2 k2] 141; rw [World.size_alloc] at this; exact this.alloc _
  have o2 : Ob W (w.heap.size + 1 + 1) #[.string ⟨#[]⟩, .slice none 0 0, .slice none 0 0] 141 := by rw [← hW]; have := Ob.new ((w.alloc (.cells #[.int .i64 lv, .bool false] 100)).alloc (.cells #[.string s0, .slice a1 n1 k1, .slice a2 n2 k2] 141)) #[.string ⟨#[]⟩, .slice none 0 0, .slice none 0 0] 141; simp only [World.size_alloc] at this; exact this
  have hb : Below w.heap.size w W := by rw [← hW]; exact (((Below.refl _ _).alloc (Nat.le_refl _) _).alloc (by simp) _).alloc (by simp; omega) _
  have HW : Hid _ := hW
  have O0 : Hid _ := o0
  have O1 : Hid _ := o1
  have O2 : Hid _ := o2
  have HB : Hid _ := hb
  have l0 := o0.lt
  have l1 := o1.lt
  have l2 := o2.lt
  clear hW o0 o1 o2 hb
  go_enter Tryz.func84, Tryz.ntmps84
  go_upto_region 1 with fail
  rw [HW.out]
  clear HW
  have HD : Hid (Below W.heap.size W W.drew) := (Below.refl _ _).drew
  refine wp_region_heldG 11 (S := fun V => Below W.heap.size W V) rfl ?_
  refine wpAnyG_take (i := 0) (v := ?_) rfl (by kernel_rfl) (by kernel_rfl) (by kernel_rfl) (by kernel_rfl) (fun _ _ _ h => h) (Or.inl ⟨by rfl, ?_⟩) HD.out ?_
  rotate_left
  · intro V HV
    go_simp
    try with_reducible rfl
  refine wpAnyG_take (i := 1) (v := ?_) rfl (by kernel_rfl) (by kernel_rfl) (by kernel_rfl) (by kernel_rfl) (fun _ _ _ h => h) (Or.inl ⟨by rfl, ?_⟩) HD.out ?_
  rotate_left
  · intro V HV
    have z0 := (HV.cell (p := ⟨w.heap.size + 1, 0, none⟩) l1).trans (O1.out.cell 0 rfl)
    go_simp
    try with_reducible rfl
  refine wpAnyG_take (i := 3) (v := ?_) rfl (by kernel_rfl) (by kernel_rfl) (by kernel_rfl) (by kernel_rfl) (fun _ _ _ h => h) (Or.inl ⟨by rfl, ?_⟩) HD.out ?_
  rotate_left
  · intro V HV
    go_simp
    try with_reducible rfl
  refine wpAnyG_take (i := 4) (v := ?_) rfl (by kernel_rfl) (by kernel_rfl) (by kernel_rfl) (by kernel_rfl) (fun _ _ _ h => h) (Or.inl ⟨by rfl, ?_⟩) HD.out ?_
  rotate_left
  · intro V HV
    have z0 := (HV.cell (p := ⟨w.heap.size + 1, 1, none⟩) l1).trans (O1.out.cell 1 rfl)
    go_simp
    try with_reducible rfl
  refine wpAnyG_take (i := 6) (v := ?_) rfl (by kernel_rfl) (by kernel_rfl) (by kernel_rfl) (by kernel_rfl) (fun _ _ _ h => h) (Or.inl ⟨by rfl, ?_⟩) HD.out ?_
  rotate_left
  · intro V HV
    have z0 := (HV.cell (p := ⟨w.heap.size, 0, none⟩) l0).trans (O0.out.cell 0 rfl)
    have z1 := (HV.cell (p := ⟨w.heap.size, 1, none⟩) l0).trans (O0.out.cell 1 rfl)
    go_simp
    try with_reducible rfl
  refine wpAnyG_take (i := 7) (v := ?_) rfl (by kernel_rfl) (by kernel_rfl) (by kernel_rfl) (by kernel_rfl) (fun _ _ _ h => h) (Or.inl ⟨by rfl, ?_⟩) HD.out ?_
  rotate_left
  · intro V HV
    go_simp
    try with_reducible rfl
  refine wpAnyG_take (i := 8) (v := ?_) rfl (by kernel_rfl) (by kernel_rfl) (by kernel_rfl) (by kernel_rfl) (fun _ _ _ h => h) (Or.inl ⟨by rfl, ?_⟩) HD.out ?_
  rotate_left
  · intro V HV
    have z0 := (HV.cell (p := ⟨w.heap.size + 1, 2, none⟩) l1).trans (O1.out.cell 2 rfl)
    go_simp
    try with_reducible rfl
  refine wpAnyG_all (rs := [2]) (by kernel_rfl) (by simp) ?_
  intro i hi
  obtain rfl : i = 2 := by simpa using hi
  clear hi
  refine wpOp_listV rfl ?_
  intro Q' hQ'
  have HQ : Hid _ := hQ'
  clear hQ'
  go_wp2_with fail
  refine Calls.mono (kclone_any s0 _ h0) ?_
  rintro e w4 ⟨rfl, hbl⟩
  have HB4 : Hid (Below W.heap.size W w4) := HD.out.trans (hbl.mono HD.out.size)
  clear hbl
  go_wp2
  refine HQ.out _ _ ⟨.inr HB4.out, ?_⟩
  clear HQ
  refine wpAnyG_all (rs := [5]) (by kernel_rfl) (by simp) ?_
  intro i hi
  obtain rfl : i = 5 := by simpa using hi
  clear hi
  refine wpOp_listV rfl ?_
  intro Q' hQ'
  have HQ : Hid _ := hQ'
  clear hQ'
  go_wp2_with fail
  refine Calls.mono (kbytes_any A hA a1 n1 k1 m1 _ (show Hid _ from ((h1.out.under HB.out).under HB4.out).1) (show Hid _ from h1.out.2)) ?_
  rintro e w5 ⟨v, rfl, hcp, hbl⟩
  have HB5 : Hid (Below W.heap.size W w5) := HB4.out.trans (hbl.mono HB4.out.size)
  obtain ⟨p1, r1, rfl⟩ := cpy_ls hcp
  have C1_5 : Hid (Cpy w5 W.heap.size A 38 (.ls a1 n1 k1 m1) (.slice p1 n1 r1)) := hcp.from HB4.out.size
  clear hcp
  clear hbl
  go_wp2
  refine HQ.out _ _ ⟨.inr HB5.out, ?_⟩
  clear HQ
  refine wpAnyG_all (rs := [9]) (by kernel_rfl) (by simp) ?_
  intro i hi
  obtain rfl : i = 9 := by simpa using hi
  clear hi
  refine wpOp_listV rfl ?_
  intro Q' hQ'
  have HQ : Hid _ := hQ'
  clear hQ'
  go_wp2_with fail
  refine Calls.mono (kunk_any A hA (.int .i64 lv) a2 n2 k2 m2 _ (show Hid _ from ((h2.out.under HB.out).under HB5.out).1) (show Hid _ from h2.out.2)) ?_
  rintro e w6 ⟨v, rfl, hcp, hbl⟩
  have HB6 : Hid (Below W.heap.size W w6) := HB5.out.trans (hbl.mono HB5.out.size)
  have C1_6 : Hid (Cpy w6 W.heap.size A 38 (.ls a1 n1 k1 m1) (.slice p1 n1 r1)) := Cpy.under C1_5.out hbl
  clear C1_5
  obtain ⟨p2, r2, rfl⟩ := cpy_ls hcp
  have C2_6 : Hid (Cpy w6 W.heap.size A 38 (.ls a2 n2 k2 m2) (.slice p2 n2 r2)) := hcp.from HB5.out.size
  clear hcp
  clear hbl
  go_wp2
  refine HQ.out _ _ ⟨.inr HB6.out, ?_⟩
  clear HQ
  refine wpAnyG_take (i := 10) (v := ?_) rfl (by kernel_rfl) (by kernel_rfl) (by kernel_rfl) (by kernel_rfl) (fun _ _ _ h => h) (Or.inl ⟨by rfl, ?_⟩) HB6.out ?_
  rotate_left
  · intro V HV
    go_simp
    try with_reducible rfl
  refine wpAnyG_all (rs := [11]) (by kernel_rfl) (by simp) ?_
  intro i hi
  obtain rfl : i = 11 := by simpa using hi
  clear hi
  refine wpOp_listV rfl ?_
  intro Q' hQ'
  have HQ : Hid _ := hQ'
  clear hQ'
  have O2' : Hid _ := O2.out.below HB6.out l2
  obtain ⟨⟨y0, y1, y2⟩, ⟨g0, g1, g2⟩, l2'⟩ := ob3 (show Ob w6 (w.heap.size + 1 + 1) #[.string ⟨#[]⟩, .slice none 0 0, .slice none 0 0] 141 from O2'.out)
  go_wp2
  refine HQ.out _ _ ⟨.inl trivial, ?_⟩
  clear HQ
  refine wpAnyG_done (by kernel_rfl) ?_ _
  go_wp2
  refine bodyPost_ret (v := .agg #[.string s0, .slice p1 n1 r1, .slice p2 n2 r2]) (by simp [results, Tryz.results84, go_sem, y0, y1, y2]) rfl ⟨_, _, _, _, rfl, ?_, ?_⟩
  · exact CpyL.cons (Cpy.str s0) (CpyL.cons (Cpy.from (Cpy.set (Cpy.set (Cpy.set (C1_6.out) (b := w.heap.size + 1 + 1) l2 0 _) (b := w.heap.size + 1 + 1) l2 1 _) (b := w.heap.size + 1 + 1) l2 2 _) HB.out.size) (CpyL.cons (Cpy.from (Cpy.set (Cpy.set (Cpy.set (C2_6.out) (b := w.heap.size + 1 + 1) l2 0 _) (b := w.heap.size + 1 + 1) l2 1 _) (b := w.heap.size + 1 + 1) l2 2 _) HB.out.size) (CpyL.nil _ _ _)))
  · exact (((HB.out.trans (HB6.out.mono HB.out.size)).setCell (p := ⟨w.heap.size + 1 + 1, 0, none⟩) (by simp; omega) _).setCell (p := ⟨w.heap.size + 1 + 1, 1, none⟩) (by simp; omega) _).setCell (p := ⟨w.heap.size + 1 + 1, 2, none⟩) (by simp; omega) _

theorem flds_oneof : flds Tryz.prog 141 = [9, 38, 38] := by kernel_rfl

theorem oneof_at {w : World} {a : Option Addr} {n c : Nat} {ms : List Md} (h : Src w 37 (.ls a n c ms)) (i : Nat) (hi : i < n) :
    ∃ b off s0 a1 n1 k1 m1 a2 n2 k2 m2, a = some ⟨b, off, none⟩ ∧ b < w.heap.size ∧ w.cell? ⟨b, off + i * 3, none⟩ = some (.string s0) ∧ w.cell? ⟨b, off + i * 3 + 1, none⟩ = some (.slice a1 n1 k1) ∧ w.cell? ⟨b, off + i * 3 + 2, none⟩ = some (.slice a2 n2 k2) ∧ Src w 38 (.ls a1 n1 k1 m1) ∧ Src w 38 (.ls a2 n2 k2 m2) ∧ s0.size ≤ 140737488355328 ∧ ms[i * 3 + 0]? = some (.str s0) ∧ ms[i * 3 + 1]? = some (.ls a1 n1 k1 m1) ∧ ms[i * 3 + 2]? = some (.ls a2 n2 k2 m2) := by
  obtain ⟨h, hz⟩ := h
  cases h with
  | ls hT hnc hm hnil hlen hmem hk =>
    rename_i E
    have hE : E = 141 := by
      have := Tryz.underlying37
      rw [this] at hT
      cases hT
      rfl
    subst hE
    cases hz with
    | ls hT2 hb2 hk2 =>
    rename_i E
    have hE : E = 141 := by
      have := Tryz.underlying37
      rw [this] at hT2
      cases hT2
      rfl
    subst hE
    rw [flds_oneof] at hlen hk hk2
    obtain ⟨b, off, rfl, hb, hc⟩ := hmem (by omega)
    have hg : ∀ j, j < 3 → ∃ m, ms[i * 3 + j]? = some m := fun j hj => ⟨_, List.getElem?_eq_getElem (by simp at hlen; omega)⟩
    have hmod : ∀ j, j < 3 → (i * 3 + j) % 3 = j := fun j hj => by omega
    obtain ⟨q0, hq0⟩ := hg 0 (by omega)
    have ok0 := hk _ _ 9 hq0 (by rw [show ([9, 38, 38] : List TypeId).length = 3 from rfl, hmod 0 (by omega)]; rfl)
    have sz0 := hk2 _ _ 9 hq0 (by rw [show ([9, 38, 38] : List TypeId).length = 3 from rfl, hmod 0 (by omega)]; rfl)
    have cl0 := hc _ _ hq0
    obtain ⟨q1, hq1⟩ := hg 1 (by omega)
    have ok1 := hk _ _ 38 hq1 (by rw [show ([9, 38, 38] : List TypeId).length = 3 from rfl, hmod 1 (by omega)]; rfl)
    have sz1 := hk2 _ _ 38 hq1 (by rw [show ([9, 38, 38] : List TypeId).length = 3 from rfl, hmod 1 (by omega)]; rfl)
    have cl1 := hc _ _ hq1
    obtain ⟨q2, hq2⟩ := hg 2 (by omega)
    have ok2 := hk _ _ 38 hq2 (by rw [show ([9, 38, 38] : List TypeId).length = 3 from rfl, hmod 2 (by omega)]; rfl)
    have sz2 := hk2 _ _ 38 hq2 (by rw [show ([9, 38, 38] : List TypeId).length = 3 from rfl, hmod 2 (by omega)]; rfl)
    have cl2 := hc _ _ hq2
    obtain ⟨s0, rfl, _⟩ := ok_str2 Tryz.underlying9 ok0
    obtain ⟨a1, n1, k1, m1, rfl⟩ := ok_ls2 Tryz.underlying38 ok1
    obtain ⟨a2, n2, k2, m2, rfl⟩ := ok_ls2 Tryz.underlying38 ok2
    refine ⟨b, off, s0, a1, n1, k1, m1, a2, n2, k2, m2, rfl, hb, ?_, ?_, ?_, ⟨ok1, sz1⟩, ⟨ok2, sz2⟩, sz_str sz0, hq0, hq1, hq2⟩
    · simpa [Md.val, Nat.add_assoc] using cl0
    · simpa [Md.val, Nat.add_assoc] using cl1
    · simpa [Md.val, Nat.add_assoc] using cl2

theorem Tryz.infoneof : (Tryz.prog.info? 141).map (fun i => (i.zero, i.size, i.bytes)) = some (some (.agg #[.string ⟨#[]⟩, .slice none 0 0, .slice none 0 0]), 3, 64) := by kernel_rfl

theorem new_oneof (w : World) (x0 : Value) (x1 : Value) (x2 : Value) (t : TypeId) : ∀ (j : Nat) (u : Value), [x0, x1, x2][j]? = some u → (w.alloc (.cells #[x0, x1, x2] t)).cell? (({ block := w.heap.size, off := 0 } : Addr).add j) = some u := by
  intro j u hj
  have hl : j < 3 := (List.getElem?_eq_some_iff.1 hj).1
  match j, hl with
  | 0, _ => simp at hj; subst hj; simp [Addr.add]
  | 1, _ => simp at hj; subst hj; simp [Addr.add]
  | 2, _ => simp at hj; subst hj; simp [Addr.add]

theorem hes_oneof {ms : List Md} {k : Nat} {q0 q1 q2 : Md} (h : ms[k * 3 + 0]? = some q0 ∧ ms[k * 3 + 1]? = some q1 ∧ ms[k * 3 + 2]? = some q2) : ∀ j, j < [9, 38, 38].length → ms[k * 3 + j]? = [q0, q1, q2][j]? := by
  intro j hj
  have hl : j < 3 := hj
  match j, hl with
  | 0, _ => exact h.1
  | 1, _ => exact h.2.1
  | 2, _ => exact h.2.2

set_option maxRecDepth 100000 in
set_option maxHeartbeats 4000000 in
theorem koneofs_any (A : TypeId → Prop) (hA : A 5 ∧ A 141) (lv : Int) (a : Option Addr) (n c : Nat) (ms : List Md) (w : World) (hs : Hid (Src w 37 (.ls a n c ms))) :
    Calls Tryz.prog 83 #[.slice a n c, .func (.func 84) #[.agg #[.int .i64 lv, .bool false]] #[]] w fun e w' => ∃ v, e = .returned v ∧ Cpy w' w.heap.size A 37 (.ls a n c ms) v ∧ Below w.heap.size w w' := by
  obtain ⟨i0, hi, hz0, hz1, hz2⟩ := info_parts Tryz.infoneof
  obtain ⟨hn, hby, hml⟩ : (n : Int) ≤ 9223372036854775807 ∧ n * 64 ≤ 140737488355328 ∧ ms.length = n * 3 := by
    obtain ⟨ok, sz⟩ := hs.out
    refine ⟨?_, ?_, ?_⟩
    · cases ok with
      | ls hT hnc hm => unfold maxLen at hm; omega
    · cases sz with
      | ls hT hb hk =>
        rw [Tryz.underlying37] at hT
        cases hT
        have : Tryz.prog.bytesOf 141 = 64 := by kernel_rfl
        rw [this] at hb
        exact hb
    · cases ok with
      | ls hT hnc hm hnil hlen hmem hk =>
        rw [Tryz.underlying37] at hT
        cases hT
        rw [flds_oneof] at hlen
        exact hlen
  have HML : Hid _ := hml
  clear hml
  have HA : Hid _ := hA
  clear hA
  go_enter Tryz.func83, Tryz.ntmps83
  go_wp2
  go_loopw [5, 10] (fun v i wr => ∃ k : Nat, k ≤ n ∧ i = .int .i64 (k : Int) ∧ Hid (Eac wr w.heap.size (fun X => A X ∧ X ≠ 141) 141 ms k v) ∧ Hid (Below w.heap.size w wr)) (fun _ i _ => n - (intOf i).toNat)
  case atStart => exact ⟨0, Nat.zero_le _, rfl, Eac.nil _ _ _ _ _, Below.refl _ _⟩
  case round =>
    obtain ⟨k, hk, rfl, HE, HW⟩ := hrel
    have hwz := HW.out.size
    by_cases hlk : k < n
    · obtain ⟨b, off, s0, a1, n1, k1, m1, a2, n2, k2, m2, rfl, hlt, d0, d1, d2, S1, S2, Z0, G0, G1, G2⟩ := oneof_at (hs.out.under HW.out) k hlk
      have HS1 : Hid _ := S1
      have HS2 : Hid _ := S2
      have HZ0 : Hid _ := Z0
      have HG : Hid (ms[k * 3 + 0]? = some (.str s0) ∧ ms[k * 3 + 1]? = some (.ls a1 n1 k1 m1) ∧ ms[k * 3 + 2]? = some (.ls a2 n2 k2 m2)) := ⟨G0, G1, G2⟩
      clear S1 S2 Z0 G0 G1 G2 hs
      have HX : Hid (Below wr.heap.size wr (wr.alloc (.cells #[.string s0, .slice a1 n1 k1, .slice a2 n2 k2] 141))) := (Below.refl _ _).alloc (Nat.le_refl _) _
      have Q : Hid _ := koneof_any (fun X => A X ∧ X ≠ 141) (show _ from (by have hA := HA.out; exact ⟨hA.1, by decide⟩)) lv s0 a1 n1 k1 m1 a2 n2 k2 m2 (wr.alloc (.cells #[.string s0, .slice a1 n1 k1, .slice a2 n2 k2] 141)) (show Hid _ from Src.under HS1.out HX.out) (show Hid _ from Src.under HS2.out HX.out) (show Hid _ from HZ0.out)
      go_wp2_with fail
      refine Calls.mono Q.out ?_
      rintro e w2 ⟨p1, r1, p2, r2, rfl, hcp, hb2⟩
      have HB2 : Hid (Below wr.heap.size wr w2) := HX.out.trans (hb2.mono (by simp))
      have HC2 : Hid (CpyL w2 w.heap.size (fun X => A X ∧ X ≠ 141) [9, 38, 38] [.str s0, .ls a1 n1 k1 m1, .ls a2 n2 k2 m2] [.string s0, .slice p1 n1 r1, .slice p2 n2 r2]) := (show CpyL _ _ _ _ _ _ from hcp).from (by simp; omega)
      have HE2 : Hid (Eac w2 w.heap.size (fun X => A X ∧ X ≠ 141) 141 ms k u5) := Eac.under HE.out HB2.out
      clear hcp hb2 Q HX HE
      have hzz := HB2.out.size
      have HE3 : Hid (Eac (w2.alloc (.cells #[.string s0, .slice p1 n1 r1, .slice p2 n2 r2] 141)) w.heap.size (fun X => A X ∧ X ≠ 141) 141 ms k u5) := Eac.under HE2.out ((Below.refl _ _).alloc (Nat.le_refl _) _)
      have HC3 : Hid (CpyL (w2.alloc (.cells #[.string s0, .slice p1 n1 r1, .slice p2 n2 r2] 141)) w.heap.size (fun X => A X ∧ X ≠ 141) [9, 38, 38] [.str s0, .ls a1 n1 k1 m1, .ls a2 n2 k2 m2] [.string s0, .slice p1 n1 r1, .slice p2 n2 r2]) := CpyL.under HC2.out ((Below.refl _ _).alloc (Nat.le_refl _) _)
      obtain ⟨ms', hown0, hall0⟩ := HE3.out
      have HO : Hid ((w2.alloc (.cells #[.string s0, .slice p1 n1 r1, .slice p2 n2 r2] 141)).ownsRow w.heap.size 141 3 u5 k (ms'.map Md.val)) := by rw [flds_oneof] at hown0; exact hown0
      have HO0 : Hid _ := hown0
      have HALL : Hid _ := hall0
      clear hown0 hall0 HE3 HE2 HC2
      go_wp2_with (at_builtin; refine wpList_append_own_at _ rfl _ _ 37 rfl w.heap.size 141 i0 (.agg #[.string ⟨#[]⟩, .slice none 0 0, .slice none 0 0]) 3 64 Tryz.underlying37 hi hz0 hz1 hz2 rfl (by decide) _ k _ rfl HO.out ⟨w2.heap.size, 0, none⟩ 1 1 [.string s0, .slice p1 n1 r1, .slice p2 n2 r2] rfl rfl (new_oneof _ _ _ _ _) (by intro u hu; simp at hu; rcases hu with rfl | rfl | rfl <;> rfl) (by unfold maxLen; omega) (by omega) (by simp; omega) ?_; intro v4 w4 hown4 hgrow4 hnil4 hat4; have HP4 : Hid (Eac w4 w.heap.size (fun X => A X ∧ X ≠ 141) 141 ms (k + 1) v4) := Eac.push (fun X h => h.2) HO0.out HALL.out (by rw [flds_oneof]; exact HC3.out) (by rw [flds_oneof]; rfl) (by rw [flds_oneof]; exact hes_oneof HG.out) hgrow4 (by rw [flds_oneof]; exact hown4); have HB4 : Hid (Below w.heap.size w w4) := (HW.out.trans ((HB2.out.alloc HB2.out.size _).mono HW.out.size)).grown hgrow4 (by simp; omega) (fun g hg => own_low HO.out hg); obtain ⟨a4, c4, rfl⟩ := own_slice hown4; clear hown4 hgrow4 hnil4 hat4 HO HO0 HALL HC3)
      go_roundw
      case rel => exact ⟨k + 1, by omega, by go_num, HP4.out, HB4.out⟩
      case measure => simp [intOf]; omega
    · have hkn : k = n := by omega
      subst hkn
      have HF : Hid (Cpy wr w.heap.size A 37 (.ls a k c ms) u5) := Eac.all Tryz.underlying37 (fun X h => h.1) HA.out.2 (by rw [flds_oneof]; exact HML.out) HE.out
      go_wp2
      go_ret
      exact ⟨_, rfl, HF.out, HW.out⟩

end Go.Proofs.YtafmoceinamcdaaGreat
