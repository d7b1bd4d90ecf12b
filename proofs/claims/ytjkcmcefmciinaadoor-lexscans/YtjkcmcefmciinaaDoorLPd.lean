/- The contract of the program's own skip. -/
import Derived.Test.YtjkcmcefmciinaaDoorLPc2
namespace Go.Proofs.YtjkcmcefmciinaaDoor
open Go.RowKit
set_option linter.unusedVariables false
set_option linter.unusedSimpArgs false

theorem lsc_blank (s : List Int) (f i : Nat) (out : List Tk) (ms : List Nat) (hi : i < s.length) (hb : lblank (s.getD i 0) = true) : lsc s (f + 1) i out ms = lsc s (f + 1) (i + 1) out ms := by
  obtain ⟨m, hm⟩ : ∃ m, s.length - i = m + 1 := ⟨s.length - i - 1, by omega⟩
  have e : lrun lblank s s.length (s.length - i) i = lrun lblank s s.length (s.length - (i + 1)) (i + 1) := by
    rw [hm, lrun, if_pos ⟨hi, hb⟩, show m = s.length - (i + 1) by omega]
  rw [lsc, lsc, e]

theorem lrun_here (s : List Int) (i : Nat) (hb : lblank (s.getD i 0) = false) : lrun lblank s s.length (s.length - i) i = i := lrun_stay lblank s s.length _ i hb

theorem lsc_line (s : List Int) (f i : Nat) (out : List Tk) (ms : List Nat) (hi : i + 1 < s.length) (h1 : s.getD i 0 = 47) (h2 : s.getD (i + 1) 0 = 47) : lsc s (f + 1) i out ms = lsc s f (lrun leol s s.length (s.length - i) i) out ms := by
  rw [lsc, lrun_here s i (by rw [h1]; decide)]
  simp only
  rw [if_neg (by omega), if_pos ⟨hi, h1, h2⟩]

theorem lsc_block (s : List Int) (f i : Nat) (out : List Tk) (ms : List Nat) (hi : i + 1 < s.length) (h1 : s.getD i 0 = 47) (h2 : s.getD (i + 1) 0 = 42) : lsc s (f + 1) i out ms = if lcl s (s.length - (i + 2)) (i + 2) + 1 < s.length then lsc s f (lcl s (s.length - (i + 2)) (i + 2) + 2) out (ms ++ [i, lcl s (s.length - (i + 2)) (i + 2) + 1]) else ([], (i : Int), 51) := by
  rw [lsc, lrun_here s i (by rw [h1]; decide)]
  simp only
  rw [if_neg (by omega), if_neg (fun h => by rw [h2] at h; exact absurd h.2.2 (by decide)), if_pos ⟨hi, h1, h2⟩]

/-- What skip ends in. -/
def SkEnd (i0 : Nat) (w : World) (s : List Int) (R : List Tk × Int × Int) (g base : Nat) (o : Value) (out : List Tk) (e : Ending) (w' : World) : Prop :=
  (∃ (k f : Nat) (ms : List Nat) (v : Value) (D : List Int) (U O : Bool), e = .returned (.tuple #[.int .i64 (k : Int), .int .i64 0]) ∧ i0 ≤ k ∧ k ≤ s.length ∧ s.length < k + f ∧ Hid (R = lsc s f k out ms) ∧
    Hid (k = s.length ∨ (lblank (s.getD k 0) = false ∧ ¬ (k + 1 < s.length ∧ s.getD k 0 = 47 ∧ s.getD (k + 1) 0 = 47) ∧ ¬ (k + 1 < s.length ∧ s.getD k 0 = 47 ∧ s.getD (k + 1) 0 = 42))) ∧
    Hid (Rel s ms k D U O) ∧ Hid (∀ c ∈ D, 0 ≤ c ∧ c ≤ 255) ∧ D.length ≤ k ∧ Hid (Ah w' g base v D U O) ∧ Hid (To w' base o out) ∧ Below base w w') ∨
  (∃ k : Nat, e = .returned (.tuple #[.int .i64 (k : Int), .int .i64 51]) ∧ R = ([], (k : Int), 51) ∧ Below base w w')

/-- What holds at skip's label. -/
def KJ (i0 : Nat) (w : World) (S : ByteArray) (s : List Int) (R : List Tk × Int × Int) (g base : Nat) (o : Value) (out : List Tk) (a' : Act) (wr : World) : Prop :=
  ∃ (i f : Nat) (ms : List Nat) (v : Value) (D : List Int) (U O : Bool) (us : Nat → Value), a' = { tmps := #[.pointer (some ⟨g, 0, none⟩), .string S, .int .i64 (i : Int), undef, undef, undef, .int .i64 0, .int .i64 0, us 8, us 9, us 10, us 11, us 12, us 13, us 14, us 15, us 16, us 17, us 18, us 19, us 20, us 21, us 22, us 23, us 24, us 25, us 26, us 27, us 28, us 29, us 30, us 31, us 32, us 33, us 34, us 35, us 36, us 37, us 38, us 39, us 40, us 41, us 42, us 43, us 44, us 45, us 46, us 47, us 48, us 49, us 50, us 51, us 52, us 53, us 54, us 55, us 56, us 57, us 58, us 59, us 60, us 61, us 62, us 63], defers := [] } ∧
    i0 ≤ i ∧ i ≤ s.length ∧ s.length < i + f ∧ Hid (R = lsc s f i out ms) ∧ Hid (Rel s ms i D U O) ∧ Hid (∀ c ∈ D, 0 ≤ c ∧ c ≤ 255) ∧ D.length ≤ i ∧ Hid (Ah wr g base v D U O) ∧ Hid (To wr base o out) ∧ Hid (Below base w wr)

theorem KJ.mk {i0 : Nat} {w : World} {S : ByteArray} {s : List Int} {R : List Tk × Int × Int} {g base : Nat} {o : Value} {out : List Tk} {a' : Act} {wr : World} (i f : Nat) (ms : List Nat) (v : Value) (D : List Int) (U O : Bool) (us : Nat → Value) (_hu : us = fun k => a'.tmps.getD k undef)
    (h1 : a' = { tmps := #[.pointer (some ⟨g, 0, none⟩), .string S, .int .i64 (i : Int), undef, undef, undef, .int .i64 0, .int .i64 0, us 8, us 9, us 10, us 11, us 12, us 13, us 14, us 15, us 16, us 17, us 18, us 19, us 20, us 21, us 22, us 23, us 24, us 25, us 26, us 27, us 28, us 29, us 30, us 31, us 32, us 33, us 34, us 35, us 36, us 37, us 38, us 39, us 40, us 41, us 42, us 43, us 44, us 45, us 46, us 47, us 48, us 49, us 50, us 51, us 52, us 53, us 54, us 55, us 56, us 57, us 58, us 59, us 60, us 61, us 62, us 63], defers := [] })
    (h2' : i0 ≤ i) (h2 : i ≤ s.length) (h3 : s.length < i + f) (h4 : R = lsc s f i out ms) (h5 : Rel s ms i D U O) (h6 : ∀ c ∈ D, 0 ≤ c ∧ c ≤ 255) (h7 : D.length ≤ i) (h8 : Ah wr g base v D U O) (h9 : To wr base o out) (h10 : Below base w wr) : KJ i0 w S s R g base o out a' wr :=
  ⟨i, f, ms, v, D, U, O, us, h1, h2', h2, h3, h4, h5, h6, h7, h8, h9, h10⟩

theorem php_any (s : List Int) (i : Nat) (T : ByteArray) (hT : T = strOfNums (s.drop i)) (hz : ∀ i, 0 ≤ s.getD i 0 ∧ s.getD i 0 ≤ 255) (a b : Nat) (ha : a ≤ 255) (hb : b ≤ 255) (L : ByteArray) (hL : L.data.toList = [UInt8.ofNat a, UInt8.ofNat b]) (w : World) :
    Calls Tryd.prog 34 #[.string T, .string L] w fun e w' => e = .returned (.bool (decide (i + 1 < s.length ∧ s.getD i 0 = a ∧ s.getD (i + 1) 0 = b))) ∧ w = w' := by
  refine (Sh.strings_HasPrefix T L w).mono ?_
  rintro e w' ⟨rfl, rfl⟩
  refine ⟨?_, rfl⟩
  rw [hT, nums_list, hL, pre2 s i a b ha hb hz]

theorem line_ge (s : List Int) (i : Nat) {e : Nat} (hi : i + 1 < s.length) (h1 : s.getD i 0 = 47) (h2 : s.getD (i + 1) 0 = 47) (he : e = lrun leol s s.length (s.length - i) i) : i + 2 ≤ e := by
  obtain ⟨m, hm⟩ : ∃ m, s.length - i = m + 1 + 1 := ⟨s.length - i - 2, by omega⟩
  rw [he, hm, lrun, if_pos ⟨by omega, by rw [h1]; decide⟩, lrun, if_pos ⟨hi, by rw [h2]; decide⟩]
  exact lrun_ge _ _ _ _ _

theorem cut_two (s : List Int) (i e : Nat) : (strOfNums (lpc s i e)).extract 2 (strOfNums (lpc s i e)).size = strOfNums (lpc s (i + 2) e) := by
  rw [str_cut, strOfNums_size]
  congr 1
  unfold lpc
  rw [List.drop_drop, List.take_of_length_le (by simp only [List.length_drop, List.length_take]; omega)]

theorem cut_two' (s : List Int) (i : Nat) (T : ByteArray) (hT : T = strOfNums (s.drop i)) : T.extract 2 T.size = strOfNums (s.drop (i + 2)) := by
  subst hT
  rw [str_cut, strOfNums_size]
  congr 1
  rw [List.drop_drop, List.take_of_length_le (by simp only [List.length_drop]; omega)]

set_option maxRecDepth 10000 in
set_option maxHeartbeats 2000000 in
theorem pskip_any (S : ByteArray) (s : List Int) (R : List Tk × Int × Int) (i0 f0 g base : Nat) (out : List Tk) (ms0 : List Nat) (v0 o : Value) (D0 : List Int) (U0 O0 : Bool) (w : World) (HS : Hid (Src S s)) (HL : Hid (s.length ≤ 100000)) (hi : i0 ≤ s.length) (hf0 : s.length < i0 + f0) (HR : Hid (R = lsc s f0 i0 out ms0))
    (HRel : Hid (Rel s ms0 i0 D0 U0 O0)) (HD : Hid (∀ c ∈ D0, 0 ≤ c ∧ c ≤ 255)) (hD : D0.length ≤ i0) (HA : Hid (Ah w g base v0 D0 U0 O0)) (HTo : Hid (To w base o out)) (hTb : Hid (∀ W, Below base w W → LTab W)) (hbase : base ≤ w.heap.size) :
    Calls Tryd.prog 18 #[.pointer (some ⟨g, 0, none⟩), .string S, .int .i64 (i0 : Int)] w fun e w' => SkEnd i0 w s R g base o out e w' := by
  have hsz := HS.out.sz
  have hlen : (s.length : Int) ≤ 100000 := by have := HL.out; omega
  go_enter Tryd.func18, Tryd.ntmps18
  go_wp2
  refine wp_scope_loop 0 (KJ i0 w S s R g base o out) (fun a' _ => s.length - (intOf (a'.tmps.getD 2 undef)).toNat) rfl ?_ ?_
  · intro HJ
    go_wp2
    go_step3
    rename_i hK
    refine hK _ _ ?_
    refine HJ.out _ _ ?_
    exact KJ.mk i0 f0 ms0 v0 D0 U0 O0 _ rfl rfl (Nat.le_refl _) hi hf0 HR.out HRel.out HD.out hD HA.out HTo.out (Below.refl _ _)
  · rintro a' wr ⟨i, f1, ms, v, D, U, O, us, rfl, hi0, hi, hf, HR, HRel, HD, hD, HA, HTo, HB⟩
    obtain ⟨f, rfl⟩ : ∃ f, f1 = f + 1 := ⟨f1 - 1, by omega⟩
    have hrc := run_cut_to S i (i : Int) rfl (by omega)
    obtain ⟨T, hT⟩ : ∃ T, T = strOfNums (s.drop i) := ⟨_, rfl⟩
    have hct : S.extract i S.size = T := by
      rw [HS.out.cut i S.size, hsz, hT]
      unfold lpc
      rw [List.take_length]
    rw [hct] at hrc
    have hTs : T.size = s.length - i := by rw [hT, strOfNums_size, List.length_drop]
    have hin : (i : Int) ≤ (s.length : Int) := by omega
    by_cases hil : i < s.length
    · have hne : (T.toList == []) = false := by rw [hT, drop_cons hil, str_ne]
      have hT0 : 0 < s.length - i := by omega
      have hat : ((T[0]'(hTs ▸ hT0)).toNat : Int) = s.getD i 0 := by
        subst hT
        rw [str_at _ (fun j => by rw [getD_drop']; exact HS.out.bd _) 0 _, getD_drop', Nat.add_zero]
      have hcb := HS.out.bd i
      obtain ⟨c, hc⟩ : ∃ c, c = s.getD i 0 := ⟨_, rfl⟩
      have HC : Hid (c = s.getD i 0) := hc
      have HT : Hid (T = strOfNums (s.drop i)) := hT
      by_cases h10 : c = 10
      · rw [← hc, h10] at hat
        have E : Hid (R = lsc s (f + 1) (i + 1) out ms) := by show _ = _; rw [HR.out, lsc_blank s f i out ms hil (by rw [← hc, h10]; decide)]
        have HRel2 : Hid (Rel s ms (i + 1) (if O = true then D else []) false false) := HRel.out.eol hil (by rw [← hc, h10])
        have HD2 : Hid (∀ x ∈ (if O = true then D else []), 0 ≤ x ∧ x ≤ 255) := by
          show ∀ x ∈ (if O = true then D else []), 0 ≤ x ∧ x ≤ 255
          split
          · exact HD.out
          · simp
        have hD2 : (if O = true then D else []).length ≤ i + 1 := by
          split
          · omega
          · simp
        have Q : Hid _ := pend_any HA HTo
        generalize (if O = true then D else []) = D2 at HRel2 HD2 hD2 Q
        clear hc hct hT h10 hcb HR HRel
        go_wp2_with fail
        refine Calls.mono Q.out ?_
        rintro e w1 ⟨rfl, ⟨v2, hA2⟩, hTo2, hb2⟩
        go_wp2
        go_step3
        rw [show ((i : Int) + 1) = ((i + 1 : Nat) : Int) by omega]
        refine ⟨rfl, KJ.mk (i + 1) (f + 1) ms v2 D2 false false _ rfl rfl (by omega) (by omega) (by omega) E.out HRel2.out HD2.out hD2 hA2 hTo2 (HB.out.trans hb2), ?_⟩
        simp [intOf]
        omega
      have h10' : (c == 10) = false := by simpa using h10
      obtain ⟨ix, qx, _, hx⟩ := pix_of { data := #[32, 9, 11, 12, 13] } c
      rw [blank_mem c (by rw [hc]; exact hcb)] at hx
      have QX : Hid _ := qx
      by_cases hbl : lblank c = true
      · have hix : 0 ≤ ix := hx.2 ⟨hbl, h10⟩
        have E : Hid (R = lsc s (f + 1) (i + 1) out ms) := by show _ = _; rw [HR.out, lsc_blank s f i out ms hil (by rw [← hc]; exact hbl)]
        have HRel2 : Hid (Rel s ms (i + 1) D U O) := HRel.out.blank hil (by rw [← hc]; exact hbl) (by rw [← hc]; exact h10)
        rw [← hc] at hat
        clear hc hct hT h10 hcb HR HRel hx qx hbl
        go_wp2_with fail
        refine Calls.mono (QX.out _) ?_
        rintro e w1 ⟨rfl, rfl⟩
        go_wp2
        go_step3
        rw [show ((i : Int) + 1) = ((i + 1 : Nat) : Int) by omega]
        refine ⟨rfl, KJ.mk (i + 1) (f + 1) ms v D U O _ rfl rfl (by omega) (by omega) (by omega) E.out HRel2.out HD.out (by omega) HA.out HTo.out HB.out, ?_⟩
        simp [intOf]
        omega
      have hix : ix < 0 := by
        rcases Int.lt_or_le ix 0 with g | g
        · exact g
        · exact absurd (hx.1 g).1 hbl
      have q1 := fun W => php_any s i T hT HS.out.bd 47 47 (by omega) (by omega) { data := #[47, 47] } rfl W
      have q2 := fun W => php_any s i T hT HS.out.bd 47 42 (by omega) (by omega) { data := #[47, 42] } rfl W
      by_cases k1 : i + 1 < s.length ∧ s.getD i 0 = 47 ∧ s.getD (i + 1) 0 = 47
      · rw [decide_eq_true (by exact k1)] at q1
        obtain ⟨e, he⟩ : ∃ e, e = lrun leol s s.length (s.length - i) i := ⟨_, rfl⟩
        have E : Hid (R = lsc s f e out ms) := by show _ = _; rw [HR.out, lsc_line s f i out ms k1.1 k1.2.1 k1.2.2, he]
        have HRel2 := HRel.out.line k1.1 k1.2.1 k1.2.2 he
        have hge : i + 2 ≤ e := line_ge s i k1.1 k1.2.1 k1.2.2 he
        have hle : e ≤ s.length := by rw [he]; exact lrun_le _ _ _ _ _ (by omega)
        have htk : (s.drop i).takeWhile leol = lpc s i e := by rw [he, lrun_take leol s _ i (by omega) (by omega)]
        have q3 := fun W hW => pfirst_any (s.drop i) W hW (mem_bd (fun j => by rw [getD_drop']; exact HS.out.bd _)) (by rw [List.length_drop]; omega)
        rw [htk, ← hT] at q3
        obtain ⟨n, rfl⟩ : ∃ n, e = i + n := ⟨e - i, by omega⟩
        have hrl := run_cut_to (strOfNums (lpc s i (i + n))) 2 (2 : Int) rfl (by rw [strOfNums_size, lpc_len s i (i + n) (by omega) hle]; omega)
        rw [cut_two] at hrl
        have hLs : (strOfNums (lpc s i (i + n))).size = n := by rw [strOfNums_size, lpc_len s i (i + n) (by omega) hle]; omega
        have htl : (lpc s (i + 2) (i + n)).length = n - 2 := by rw [lpc_len s (i + 2) (i + n) (by omega) hle]; omega
        have htb : ∀ x ∈ lpc s (i + 2) (i + n), 0 ≤ x ∧ x ≤ 255 := fun x hx => mem_bd HS.out.bd x (List.mem_of_mem_take (List.mem_of_mem_drop hx))
        generalize strOfNums (lpc s i (i + n)) = L at q3 hrl hLs
        generalize lpc s (i + 2) (i + n) = t at HRel2 hrl htl htb
        have HD2 : Hid (∀ x ∈ (if U = true then D else D ++ (t ++ [10])), 0 ≤ x ∧ x ≤ 255) := by
          show ∀ x ∈ (if U = true then D else D ++ (t ++ [10])), 0 ≤ x ∧ x ≤ 255
          split
          · exact HD.out
          · intro x hx
            simp only [List.mem_append, List.mem_cons, List.not_mem_nil, or_false] at hx
            rcases hx with hx | hx | hx
            · exact HD.out x hx
            · exact htb x hx
            · omega
        have hD2 : (if U = true then D else D ++ (t ++ [10])).length ≤ i + n := by
          split
          · omega
          · simp only [List.length_append, List.length_cons, List.length_nil]; omega
        have Q1 : Hid _ := q1
        have Q3 : Hid _ := q3
        have HTB : Hid _ := htb
        have HX : Hid _ := HRel2
        have HLT : Hid (D.length + t.length ≤ 1000000) := by show _ ≤ _; omega
        have HTW : Hid (LTab wr) := hTb.out wr HB.out
        have HBS : Hid (base ≤ wr.heap.size) := Nat.le_trans hbase HB.out.size
        rw [← hc] at hat
        clear hc hct hT h10 hcb HR HRel hx qx hbl q1 q2 q3 k1 htk he htb htl HRel2
        go_wp2_with fail
        refine Calls.mono (QX.out _) ?_
        rintro e w1 ⟨rfl, rfl⟩
        go_wp2_with fail
        refine Calls.mono (Q1.out _) ?_
        rintro e w1 ⟨rfl, rfl⟩
        go_wp2_with fail
        refine Calls.mono (Q3.out _ HTW) ?_
        rintro e w1 ⟨rfl, hb1⟩
        have HA1 : Hid (Ah w1 g base v D U O) := HA.out.below hb1
        have HTo1 : Hid (To w1 base o out) := HTo.out.below hb1
        have Q4 : Hid _ := premark_any HA1 HTo1 HTB HLT.out (Nat.le_trans HBS.out hb1.size)
        go_wp2_with fail
        refine Calls.mono Q4.out ?_
        rintro e w2 ⟨rfl, ⟨v2, hA2⟩, hTo2, hb2⟩
        generalize (if U = true then D else D ++ (t ++ [10])) = D2 at HX HD2 hD2 hA2
        generalize (if U = true then O else true) = O2 at HX hA2
        go_wp2
        go_step3
        rw [show ((i : Int) + (n : Int)) = ((i + n : Nat) : Int) by omega]
        refine ⟨rfl, KJ.mk (i + n) f ms v2 D2 true O2 _ rfl rfl (by omega) (by omega) (by omega) E.out HX.out HD2.out hD2 hA2 hTo2 ((HB.out.trans (hb1.mono HBS.out)).trans hb2), ?_⟩
        simp [intOf]
        omega
      rw [decide_eq_false (by exact k1)] at q1
      by_cases k2 : i + 1 < s.length ∧ s.getD i 0 = 47 ∧ s.getD (i + 1) 0 = 42
      · rw [decide_eq_true (by exact k2)] at q2
        obtain ⟨m, hm⟩ := (hTb.out wr HB.out).2
        have hcut := run_cut_to T 2 (2 : Int) rfl (by omega)
        rw [cut_two' s i T hT] at hcut
        have q3 := Sh.strings_Index (strOfNums (s.drop (i + 2))) { data := #[42, 47] } m wr (by rw [strOfNums_size, List.length_drop]; omega) hm
        rw [nums_list, show ({ data := #[42, 47] } : ByteArray).data.toList = [42, 47] from rfl, ixcl s HS.out.bd (s.length - (i + 2)) (i + 2) (by omega)] at q3
        have E := HR.out
        rw [lsc_block s f i out ms k2.1 k2.2.1 k2.2.2] at E
        have hge := lcl_ge s (s.length - (i + 2)) (i + 2)
        by_cases hK : lcl s (s.length - (i + 2)) (i + 2) + 1 < s.length
        · rw [if_pos hK] at q3 E
          have he := lcl_end s (s.length - (i + 2)) (i + 2) (by omega) hK
          have HRel2 := HRel.out.block k2.1 k2.2.1 k2.2.2 hge hK he.1 he.2
          generalize lcl s (s.length - (i + 2)) (i + 2) = K at q3 E hge hK he HRel2
          obtain ⟨n, rfl⟩ : ∃ n, K = i + 2 + n := ⟨K - (i + 2), by omega⟩
          rw [show ((i + 2 + n : Nat) : Int) - ((i + 2 : Nat) : Int) = (n : Int) by omega] at q3
          obtain ⟨c0, c1, c2, f0, f1, f2⟩ := HA.out.cells
          have hgb := HA.out.2.1
          have Q1 : Hid _ := q1
          have Q2 : Hid _ := q2
          have Q3 : Hid _ := q3
          have HE : Hid _ := E
          have HX : Hid _ := HRel2
          rw [← hc] at hat
          generalize strOfNums (s.drop (i + 2)) = T2 at hcut Q3 q3
          clear hc hct hT h10 hcb HR HRel hx qx hbl q1 q2 q3 k1 k2 he E HRel2 hm
          go_wp2_with fail
          refine Calls.mono (QX.out _) ?_
          rintro e w1 ⟨rfl, rfl⟩
          go_wp2_with fail
          refine Calls.mono (Q1.out _) ?_
          rintro e w1 ⟨rfl, rfl⟩
          go_wp2_with fail
          refine Calls.mono (Q2.out _) ?_
          rintro e w1 ⟨rfl, rfl⟩
          go_wp2_with fail
          refine Calls.mono Q3.out ?_
          rintro e w1 ⟨rfl, hw1⟩
          subst hw1
          go_wp2
          go_step3
          rw [show ((i : Int) + (2 + (n : Int) + 2)) = ((i + 2 + n + 2 : Nat) : Int) by omega]
          refine ⟨rfl, KJ.mk (i + 2 + n + 2) f (ms ++ [i, i + 2 + n + 1]) v D true O _ rfl rfl (by omega) (by omega) (by omega) HE.out HX.out HD.out (by omega) (HA.out.set 1 _ rfl HA.out.2.2) (HTo.out.set HA.out 1 _) (HB.out.setCell (p := ⟨g, 1, none⟩) hgb _), ?_⟩
          simp [intOf]
          omega
        · rw [if_neg hK] at q3 E
          have Q1 : Hid _ := q1
          have Q2 : Hid _ := q2
          have Q3 : Hid _ := q3
          have HE : Hid _ := E
          rw [← hc] at hat
          generalize strOfNums (s.drop (i + 2)) = T2 at hcut Q3 q3
          clear hc hct hT h10 hcb HR HRel hx qx hbl q1 q2 q3 k1 k2 E hm hK hge
          go_wp2_with fail
          refine Calls.mono (QX.out _) ?_
          rintro e w1 ⟨rfl, rfl⟩
          go_wp2_with fail
          refine Calls.mono (Q1.out _) ?_
          rintro e w1 ⟨rfl, rfl⟩
          go_wp2_with fail
          refine Calls.mono (Q2.out _) ?_
          rintro e w1 ⟨rfl, rfl⟩
          go_wp2_with fail
          refine Calls.mono Q3.out ?_
          rintro e w1 ⟨rfl, hw1⟩
          subst hw1
          go_wp2
          simp only [Exit.jump]
          go_ret2
          exact .inr ⟨i, rfl, HE.out, HB.out⟩
      rw [decide_eq_false (by exact k2)] at q2
      have Q1 : Hid _ := q1
      have Q2 : Hid _ := q2
      have HK : Hid (i = s.length ∨ (lblank (s.getD i 0) = false ∧ ¬ (i + 1 < s.length ∧ s.getD i 0 = 47 ∧ s.getD (i + 1) 0 = 47) ∧ ¬ (i + 1 < s.length ∧ s.getD i 0 = 47 ∧ s.getD (i + 1) 0 = 42))) := .inr ⟨by rw [← hc]; simpa using hbl, k1, k2⟩
      rw [← hc] at hat
      clear hc hct hT h10 hcb hx qx hbl q1 q2 k1 k2
      go_wp2_with fail
      refine Calls.mono (QX.out _) ?_
      rintro e w1 ⟨rfl, rfl⟩
      go_wp2_with fail
      refine Calls.mono (Q1.out _) ?_
      rintro e w1 ⟨rfl, rfl⟩
      go_wp2_with fail
      refine Calls.mono (Q2.out _) ?_
      rintro e w1 ⟨rfl, rfl⟩
      go_wp2
      simp only [Exit.jump]
      go_ret2
      exact .inl ⟨_, _, ms, v, D, U, O, rfl, hi0, hi, hf, HR, HK, HRel, HD, hD, HA, HTo, HB.out⟩
    · obtain rfl : i = s.length := by omega
      have hne : (T.toList == []) = true := by rw [hT, List.drop_length, str_list]; rfl
      clear hct hT
      go_wp2
      simp only [Exit.jump]
      go_ret2
      exact .inl ⟨_, _, ms, v, D, U, O, rfl, hi0, hi, hf, HR, .inl rfl, HRel, HD, hD, HA, HTo, HB.out⟩

end Go.Proofs.YtjkcmcefmciinaaDoor
