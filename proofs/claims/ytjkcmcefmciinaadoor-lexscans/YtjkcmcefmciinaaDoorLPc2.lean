/- The contracts of the program's own takeText, take. -/
import Derived.Test.YtjkcmcefmciinaaDoorLPc
namespace Go.Proofs.YtjkcmcefmciinaaDoor
open Go.RowKit
set_option linter.unusedVariables false
set_option linter.unusedSimpArgs false

set_option maxRecDepth 10000 in
set_option maxHeartbeats 1000000 in
theorem pttext_any (S : ByteArray) (s : List Int) (i : Nat) (w : World) (HS : Hid (Src S s)) (HL : Hid (s.length ≤ 100000)) (hi : i < s.length) (hT : Hid (QTab w)) :
    Calls Tryd.prog 39 #[.string S, .int .i64 (i : Int)] w fun e w' => e = .returned (tkv (if (qtake (s.drop i)).2.2 = 0 then .inl (⟨3, (qtake (s.drop i)).1, 0, i, []⟩, i + (qtake (s.drop i)).2.1.toNat) else .inr ((i : Int) + (qtake (s.drop i)).2.1, (qtake (s.drop i)).2.2))) ∧ Below w.heap.size w w' := by
  have hsz := HS.out.sz
  have hlen : (s.length : Int) ≤ 100000 := by have := HL.out; omega
  have hrc := run_cut_to S i (i : Int) rfl (by omega)
  have hct : S.extract i S.size = strOfNums (s.drop i) := by
    rw [HS.out.cut i S.size, hsz]
    unfold lpc
    rw [List.take_length]
  rw [hct] at hrc
  have hzd : Hid (∀ j, 0 ≤ (s.drop i).getD j 0 ∧ (s.drop i).getD j 0 ≤ 255) := fun j => by rw [getD_drop']; exact HS.out.bd _
  have q := fun W hW => ptak_any (s.drop i) W hW hzd (by rw [List.length_drop]; omega)
  have hpl := qtake_place (s.drop i)
  rw [List.length_drop] at hpl
  have hqb := qtake_bd (s.drop i) (mem_bd hzd.out)
  generalize qtake (s.drop i) = R at q hpl hqb ⊢
  obtain ⟨b, n, e⟩ := R
  simp only at q hpl hqb ⊢
  obtain ⟨T, hT2⟩ : ∃ T, T = strOfNums (s.drop i) := ⟨_, rfl⟩
  rw [← hT2] at hrc q
  obtain ⟨n0, n1⟩ := hpl
  have Q : Hid _ := q
  have HB : Hid (∀ c ∈ b, 0 ≤ c ∧ c ≤ 255) := hqb
  clear q hct hT2 hzd hqb
  have hT' : Hid (QTab (w.alloc (.cells #[.int .i64 0, .string { data := #[] }, .int .u64 0, .int .i64 0, .string { data := #[] }] 40))) := hT.out.below ((Below.refl w.heap.size w).alloc (Nat.le_refl _) _) (Nat.le_refl _)
  by_cases he : e = 0
  · subst he
    rw [if_pos rfl]
    obtain ⟨N, rfl⟩ : ∃ N : Nat, n = (N : Int) := ⟨n.toNat, by omega⟩
    rw [Int.toNat_natCast]
    go_enter Tryd.func39, Tryd.ntmps39
    go_wp2_with fail
    refine Calls.mono (Q.out _ hT') ?_
    rintro e w1 ⟨v, rfl, hown, hb1⟩
    obtain ⟨hbb, hlt, c0, c1, c2, c3, c4, f0, f1, f2⟩ := after_call0 hb1
    obtain ⟨f3, f4⟩ := after_call5 hb1
    obtain ⟨a, c, rfl⟩ := own_slice hown
    have hcv := (Bs.of_owns hown HB.out).conv
    have HO : Hid (w1.ownsRow _ _ _ _ _ _) := hown
    clear hown
    go_wp2
    (try simp only [Exit.inBlock, Exit.then])
    refine tk_ret rfl w.heap.size _ _ _ _ _ rfl (five_set (new_kept hb1) _ _ _ _ _) rfl ⟨?_, five_below hbb (Nat.le_refl _) _ _ _ _ _⟩
    rw [tkv]
    rfl
  · rw [if_neg he]
    have he' : (e != 0) = true := by simpa using he
    clear he
    go_enter Tryd.func39, Tryd.ntmps39
    go_wp2_with fail
    refine Calls.mono (Q.out _ hT') ?_
    rintro e w1 ⟨v, rfl, hown, hb1⟩
    obtain ⟨hbb, hlt, c0, c1, c2, c3, c4, f0, f1, f2⟩ := after_call0 hb1
    obtain ⟨f3, f4⟩ := after_call5 hb1
    clear hown
    go_wp2
    (try simp only [Exit.inBlock, Exit.then])
    refine tk_ret rfl w.heap.size _ _ _ _ _ rfl (five_set (new_kept hb1) _ _ _ _ _) rfl ⟨?_, five_below hbb (Nat.le_refl _) _ _ _ _ _⟩
    rw [tkv]
    rfl

theorem ptrun_any (S : ByteArray) (s : List Int) (i : Nat) (w : World) (HS : Hid (Src S s)) (HL : Hid (s.length ≤ 100000)) (hi : i < s.length) (hl : lletter (s.getD i 0) = true) :
    Calls Tryd.prog 38 #[.string S, .int .i64 (i : Int)] w fun e w' => e = .returned (tkv (ltok s i [])) ∧ Below w.heap.size w w' := by
  unfold ltok
  rw [if_pos hl]
  simp only
  by_cases hn : lnumb (s.getD i 0) = true
  · rw [if_pos hn]
    by_cases hq : (qnum (lpc s i (lrun lletter s s.length (s.length - (i + 1)) (i + 1)))).2 = true
    · rw [if_pos hq]
      exact ptrun_num S s i w HS HL hi _ rfl hn hq
    · rw [if_neg hq]
      exact ptrun_bad S s i w HS HL hi _ rfl hn (Bool.eq_false_iff.2 hq)
  · rw [if_neg hn]
    exact ptrun_name S s i w HS HL hi _ rfl (Bool.eq_false_iff.2 hn)

theorem pix_of (D : ByteArray) (c : Int) : ∃ ix : Int, (∀ w : World, Calls Tryd.prog 33 #[.string D, .int .u8 c] w fun e w' => e = .returned (.int .i64 ix) ∧ w = w') ∧ -1 ≤ ix ∧ (0 ≤ ix ↔ UInt8.ofNat c.toNat ∈ D.data.toList) := by
  refine ⟨Lib.indexByte D.data.toList c.toNat.toUInt8, fun w => ?_, (ixb_mem _ _).2, ?_⟩
  · refine (Sh.strings_IndexByte D c w).mono ?_
    rintro e w' ⟨rfl, rfl⟩
    exact ⟨rfl, rfl⟩
  · exact (ixb_mem _ _).1

theorem quo_mem (c : Int) (h : 0 ≤ c ∧ c ≤ 255) : UInt8.ofNat c.toNat ∈ ({ data := #[34, 39] } : ByteArray).data.toList ↔ (c = 34 ∨ c = 39) := by
  simp only [List.mem_cons, List.not_mem_nil, or_false]
  rw [show (34 : UInt8) = UInt8.ofNat 34 from rfl, show (39 : UInt8) = UInt8.ofNat 39 from rfl, u8_eq c h 34 (by omega), u8_eq c h 39 (by omega)]
  simp

theorem blank_mem (c : Int) (h : 0 ≤ c ∧ c ≤ 255) : UInt8.ofNat c.toNat ∈ ({ data := #[32, 9, 11, 12, 13] } : ByteArray).data.toList ↔ (lblank c = true ∧ c ≠ 10) := by
  simp only [List.mem_cons, List.not_mem_nil, or_false]
  rw [show (32 : UInt8) = UInt8.ofNat 32 from rfl, show (9 : UInt8) = UInt8.ofNat 9 from rfl, show (11 : UInt8) = UInt8.ofNat 11 from rfl, show (12 : UInt8) = UInt8.ofNat 12 from rfl, show (13 : UInt8) = UInt8.ofNat 13 from rfl,
    u8_eq c h 32 (by omega), u8_eq c h 9 (by omega), u8_eq c h 11 (by omega), u8_eq c h 12 (by omega), u8_eq c h 13 (by omega)]
  unfold lblank
  simp only [decide_eq_true_eq]
  omega

theorem sign_mem (c : Int) (h : 0 ≤ c ∧ c ≤ 255) : UInt8.ofNat c.toNat ∈ ({ data := #[59, 44, 46, 61, 123, 125, 91, 93, 40, 41, 60, 62, 58, 45] } : ByteArray).data.toList ↔ lsign c = true := by
  simp only [List.mem_cons, List.not_mem_nil, or_false]
  rw [show (59 : UInt8) = UInt8.ofNat 59 from rfl, show (44 : UInt8) = UInt8.ofNat 44 from rfl, show (46 : UInt8) = UInt8.ofNat 46 from rfl, show (61 : UInt8) = UInt8.ofNat 61 from rfl, show (123 : UInt8) = UInt8.ofNat 123 from rfl,
    show (125 : UInt8) = UInt8.ofNat 125 from rfl, show (91 : UInt8) = UInt8.ofNat 91 from rfl, show (93 : UInt8) = UInt8.ofNat 93 from rfl, show (40 : UInt8) = UInt8.ofNat 40 from rfl, show (41 : UInt8) = UInt8.ofNat 41 from rfl,
    show (60 : UInt8) = UInt8.ofNat 60 from rfl, show (62 : UInt8) = UInt8.ofNat 62 from rfl, show (58 : UInt8) = UInt8.ofNat 58 from rfl, show (45 : UInt8) = UInt8.ofNat 45 from rfl,
    u8_eq c h 59 (by omega), u8_eq c h 44 (by omega), u8_eq c h 46 (by omega), u8_eq c h 61 (by omega), u8_eq c h 123 (by omega), u8_eq c h 125 (by omega), u8_eq c h 91 (by omega), u8_eq c h 93 (by omega), u8_eq c h 40 (by omega), u8_eq c h 41 (by omega), u8_eq c h 60 (by omega), u8_eq c h 62 (by omega), u8_eq c h 58 (by omega), u8_eq c h 45 (by omega)]
  unfold lsign
  simp only [decide_eq_true_eq]
  omega

def tok0 : Obj := .cells #[.int .i64 0, .string { data := #[] }, .int .u64 0, .int .i64 0, .string { data := #[] }] 40

set_option maxRecDepth 10000 in
set_option maxHeartbeats 2000000 in
theorem ptake_any (S : ByteArray) (s : List Int) (i : Nat) (w : World) (HS : Hid (Src S s)) (HL : Hid (s.length ≤ 100000)) (hi : i ≤ s.length) (hT : Hid (QTab w)) :
    Calls Tryd.prog 19 #[.string S, .int .i64 (i : Int)] w fun e w' => e = .returned (tkv (if i = s.length then .inl (⟨0, [], 0, i, []⟩, i) else ltok s i [])) ∧ Below w.heap.size w w' := by
  have hsz := HS.out.sz
  have hlen : (s.length : Int) ≤ 100000 := by have := HL.out; omega
  by_cases hil : i = s.length
  · subst hil
    rw [if_pos rfl]
    go_enter Tryd.func19, Tryd.ntmps19
    go_wp2
    (try simp only [Exit.inBlock, Exit.then])
    refine tk_ret rfl w.heap.size _ _ _ _ _ rfl (heap_alloc_new w _) rfl ⟨?_, (Below.refl _ _).alloc (Nat.le_refl _) _⟩
    rw [tkv]
    rfl
  rw [if_neg hil]
  have hne : ((i : Int) == (s.length : Int)) = false := by simp; omega
  have hil' : i < s.length := by omega
  have hat := HS.out.at i hil'
  have hcb := HS.out.bd i
  have qr := fun W => prun_any (s.getD i 0) W hcb.1 hcb.2
  have hT' : Hid (QTab (w.alloc (.cells #[.int .i64 0, .string { data := #[] }, .int .u64 0, .int .i64 0, .string { data := #[] }] 40))) := hT.out.below ((Below.refl w.heap.size w).alloc (Nat.le_refl _) _) (Nat.le_refl _)
  by_cases hl : lletter (s.getD i 0) = true
  · have q := fun W => ptrun_any S s i W HS HL hil' hl
    rw [hl] at qr
    obtain ⟨R, hR⟩ : ∃ R, R = ltok s i [] := ⟨_, rfl⟩
    rw [← hR] at q ⊢
    generalize s.getD i 0 = c at hat qr hcb
    have QR : Hid _ := qr
    clear hR qr hl hil
    rcases R with ⟨t, k⟩ | ⟨k, e⟩
    · rw [tkv] at q
      have Q : Hid _ := q
      clear q
      go_enter Tryd.func19, Tryd.ntmps19
      go_wp2_with fail
      refine Calls.mono (QR.out _) ?_
      rintro e w1 ⟨rfl, rfl⟩
      go_wp2_with fail
      refine Calls.mono (Q.out _) ?_
      rintro e w1 ⟨rfl, hb1⟩
      obtain ⟨hbb, hlt, c0, c1, c2, c3, c4, f0, f1, f2⟩ := after_call0 hb1
      obtain ⟨f3, f4⟩ := after_call5 hb1
      go_wp2
      (try simp only [Exit.inBlock, Exit.then])
      refine tk_ret rfl w.heap.size _ _ _ _ _ rfl (five_set (new_kept hb1) _ _ _ _ _) rfl ⟨?_, five_below hbb (Nat.le_refl _) _ _ _ _ _⟩
      rw [tkv]
      rfl
    · rw [tkv] at q
      have Q : Hid _ := q
      clear q
      go_enter Tryd.func19, Tryd.ntmps19
      go_wp2_with fail
      refine Calls.mono (QR.out _) ?_
      rintro e w1 ⟨rfl, rfl⟩
      go_wp2_with fail
      refine Calls.mono (Q.out _) ?_
      rintro e w1 ⟨rfl, hb1⟩
      obtain ⟨hbb, hlt, c0, c1, c2, c3, c4, f0, f1, f2⟩ := after_call0 hb1
      obtain ⟨f3, f4⟩ := after_call5 hb1
      go_wp2
      (try simp only [Exit.inBlock, Exit.then])
      refine tk_ret rfl w.heap.size _ _ _ _ _ rfl (five_set (new_kept hb1) _ _ _ _ _) rfl ⟨?_, five_below hbb (Nat.le_refl _) _ _ _ _ _⟩
      rw [tkv]
      rfl
  have hl' : lletter (s.getD i 0) = false := by simpa using hl
  rw [hl'] at qr
  have QR : Hid _ := qr
  obtain ⟨ix, qx, _, hx⟩ := pix_of { data := #[34, 39] } (s.getD i 0)
  rw [quo_mem _ hcb] at hx
  have QX : Hid _ := qx
  by_cases hq : s.getD i 0 = 34 ∨ s.getD i 0 = 39
  · have hix : 0 ≤ ix := hx.2 hq
    have q := fun W hW => pttext_any S s i W HS HL hil' hW
    have hE : ltok s i [] = if (qtake (s.drop i)).2.2 = 0 then .inl (⟨3, (qtake (s.drop i)).1, 0, i, []⟩, i + (qtake (s.drop i)).2.1.toNat) else .inr ((i : Int) + (qtake (s.drop i)).2.1, (qtake (s.drop i)).2.2) := by
      unfold ltok
      rw [if_neg hl, if_pos hq]
    rw [← hE] at q
    obtain ⟨R, hR⟩ : ∃ R, R = ltok s i [] := ⟨_, rfl⟩
    rw [← hR] at q ⊢
    clear hE hR hl hl' hil hx qx qr hq
    generalize s.getD i 0 = c at hat QR hcb QX
    rcases R with ⟨t, k⟩ | ⟨k, e⟩
    · rw [tkv] at q
      have Q : Hid _ := q
      clear q
      go_enter Tryd.func19, Tryd.ntmps19
      go_wp2_with fail
      refine Calls.mono (QR.out _) ?_
      rintro e w1 ⟨rfl, rfl⟩
      go_wp2_with fail
      refine Calls.mono (QX.out _) ?_
      rintro e w1 ⟨rfl, rfl⟩
      go_wp2_with fail
      refine Calls.mono (Q.out _ hT') ?_
      rintro e w1 ⟨rfl, hb1⟩
      obtain ⟨hbb, hlt, c0, c1, c2, c3, c4, f0, f1, f2⟩ := after_call0 hb1
      obtain ⟨f3, f4⟩ := after_call5 hb1
      go_wp2
      (try simp only [Exit.inBlock, Exit.then])
      refine tk_ret rfl w.heap.size _ _ _ _ _ rfl (five_set (new_kept hb1) _ _ _ _ _) rfl ⟨?_, five_below hbb (Nat.le_refl _) _ _ _ _ _⟩
      rw [tkv]
      rfl
    · rw [tkv] at q
      have Q : Hid _ := q
      clear q
      go_enter Tryd.func19, Tryd.ntmps19
      go_wp2_with fail
      refine Calls.mono (QR.out _) ?_
      rintro e w1 ⟨rfl, rfl⟩
      go_wp2_with fail
      refine Calls.mono (QX.out _) ?_
      rintro e w1 ⟨rfl, rfl⟩
      go_wp2_with fail
      refine Calls.mono (Q.out _ hT') ?_
      rintro e w1 ⟨rfl, hb1⟩
      obtain ⟨hbb, hlt, c0, c1, c2, c3, c4, f0, f1, f2⟩ := after_call0 hb1
      obtain ⟨f3, f4⟩ := after_call5 hb1
      go_wp2
      (try simp only [Exit.inBlock, Exit.then])
      refine tk_ret rfl w.heap.size _ _ _ _ _ rfl (five_set (new_kept hb1) _ _ _ _ _) rfl ⟨?_, five_below hbb (Nat.le_refl _) _ _ _ _ _⟩
      rw [tkv]
      rfl
  have hix : ix < 0 := by
    rcases Int.lt_or_le ix 0 with g | g
    · exact g
    · exact absurd (hx.1 g) hq
  obtain ⟨iy, qy, _, hy⟩ := pix_of { data := #[59, 44, 46, 61, 123, 125, 91, 93, 40, 41, 60, 62, 58, 45] } (s.getD i 0)
  rw [sign_mem _ hcb] at hy
  have QY : Hid _ := qy
  by_cases hs : lsign (s.getD i 0) = true
  · have hiy : 0 ≤ iy := hy.2 hs
    have hE : ltok s i [] = .inl (⟨4, lpc s i (i + 1), 0, i, []⟩, i + 1) := by
      unfold ltok
      rw [if_neg hl, if_neg hq, if_pos hs]
    rw [hE]
    have hrc := run_cut S i (i + 1) (i : Int) ((i : Int) + 1) rfl (by omega) (by omega) (by omega)
    rw [HS.out.cut i (i + 1)] at hrc
    have qc := fun W => pclone_any (lpc s i (i + 1)) W (by rw [lpc_len s i (i + 1) (by omega) (by omega)]; omega)
    generalize lpc s i (i + 1) = P at hrc qc ⊢
    have QC : Hid _ := qc
    clear hE hl hl' hil hx qx qr hq hs hy qy qc
    generalize s.getD i 0 = c at hat QR hcb QX QY
    have hi1 : (i : Int) + 1 ≤ (s.length : Int) := by omega
    go_enter Tryd.func19, Tryd.ntmps19
    go_wp2_with fail
    refine Calls.mono (QR.out _) ?_
    rintro e w1 ⟨rfl, rfl⟩
    go_wp2_with fail
    refine Calls.mono (QX.out _) ?_
    rintro e w1 ⟨rfl, rfl⟩
    go_wp2_with fail
    refine Calls.mono (QY.out _) ?_
    rintro e w1 ⟨rfl, rfl⟩
    go_wp2_with fail
    refine Calls.mono (QC.out _) ?_
    rintro e w1 ⟨rfl, hb1⟩
    obtain ⟨hbb, hlt, c0, c1, c2, c3, c4, f0, f1, f2⟩ := after_call0 hb1
    obtain ⟨f3, f4⟩ := after_call5 hb1
    go_wp2
    (try simp only [Exit.inBlock, Exit.then])
    refine tk_ret rfl w.heap.size _ _ _ _ _ rfl (five_set (new_kept hb1) _ _ _ _ _) rfl ⟨?_, five_below hbb (Nat.le_refl _) _ _ _ _ _⟩
    rw [tkv]
    rfl
  · have hiy : iy < 0 := by
      rcases Int.lt_or_le iy 0 with g | g
      · exact g
      · exact absurd (hy.1 g) hs
    have hE : ltok s i [] = .inr ((i : Int), 50) := by
      unfold ltok
      rw [if_neg hl, if_neg hq, if_neg hs]
    rw [hE]
    clear hE hl hl' hil hx qx qr hq hs hy qy
    generalize s.getD i 0 = c at hat QR hcb QX QY
    go_enter Tryd.func19, Tryd.ntmps19
    go_wp2_with fail
    refine Calls.mono (QR.out _) ?_
    rintro e w1 ⟨rfl, rfl⟩
    go_wp2_with fail
    refine Calls.mono (QX.out _) ?_
    rintro e w1 ⟨rfl, rfl⟩
    go_wp2_with fail
    refine Calls.mono (QY.out _) ?_
    rintro e w1 ⟨rfl, rfl⟩
    go_wp2
    (try simp only [Exit.inBlock, Exit.then])
    refine tk_ret rfl w.heap.size _ _ _ _ _ rfl (heap_alloc_new w _) rfl ⟨?_, (Below.refl _ _).alloc (Nat.le_refl _) _⟩
    rw [tkv]
    rfl

end Go.Proofs.YtjkcmcefmciinaaDoor
