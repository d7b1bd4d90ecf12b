/- Put together by a program out of these texts of mine: CkH, CkO, CkP, CkQ. -/
import Derived.Laws.EntriesVeiled
import Derived.Test.YtcnjjhdmnagkgaaGreatDoorBunC5
import Derived.Test.YtcnjjhdmnagkgaaGreatDoorBunC12
import Derived.Test.YtcnjjhdmnagkgaaGreatDoorBunC14

namespace Go.Proofs.YtcnjjhdmnagkgaaGreatDoor
open Go.RowKit
set_option linter.unusedVariables false
set_option linter.unusedSimpArgs false

set_option maxRecDepth 100000 in
set_option maxHeartbeats 8000000 in
theorem ckFields2 (c : Value) (m s t : List Int) (hmb : Hid (byts m)) (hsb : Hid (byts s)) (htb : Hid (byts t)) (hml : m.length ≤ 1000) (hsl : s.length ≤ 1000) (htl : t.length ≤ 1000) (hs : nident s = true) (ht : nident t = true) (W : World) (hT : Hid (LoTab W)) {gm gf bw bn bm bt : Nat} (hF : Hid (Fs W W gm gf 2 bw bn bm bt (strOfNums m) (exR (strOfNums s) (strOfNums t)))) :
    Calls Tryz.prog 81 #[c, .pointer (some ⟨gm, 0, none⟩)] W fun e w' => Below W.heap.size W w' ∧ e = .panicked [brk (strOfNums (njoin m t)) 9] := by
  have hmm := @run_makeMap Tryz.prog
  have QN : Hid _ := ckNumbersOf
  have hs0 : s ≠ [] := by rintro rfl; cases hs
  have hsne : ((strOfNums s).toList == []) = false := by
    cases s with
    | nil => exact absurd rfl hs0
    | cons c r => exact str_ne c r
  have QI1 : Hid _ := fun V => pident_any s V trivial (fun i => bd_mem hsb.out i) (by omega)
  have QI2 : Hid _ := fun V => pident_any t V trivial (fun i => bd_mem htb.out i) (by omega)
  rw [hs] at QI1
  rw [ht] at QI2
  have QO1 : Hid _ := fun V => ckOf m s V hmb hsb (by omega) (by omega)
  have QO2 : Hid _ := fun V => ckOf m t V hmb htb (by omega) (by omega)
  have hz1 : (strOfNums s).size ≤ maxLen := by rw [strOfNums_size]; unfold maxLen; omega
  have hz2 : (strOfNums t).size ≤ maxLen := by rw [strOfNums_size]; unfold maxLen; omega
  have QW1 : Hid (∀ V, Mg V bw 0 (fun _ => none) → Calls Tryz.prog 123 #[.map (some bw), .string (strOfNums s)] V fun e w' => e = .returned (.bool false) ∧ Below V.heap.size V w') := fun V h => ckHasS (strOfNums s) hz1 V h (fun v e => by cases e)
  have QW2 : Hid (∀ V, Mg V bw 0 (fun _ => none) → Calls Tryz.prog 123 #[.map (some bw), .string (strOfNums t)] V fun e w' => e = .returned (.bool false) ∧ Below V.heap.size V w') := fun V h => ckHasS (strOfNums t) hz2 V h (fun v e => by cases e)
  have HZ1 : Hid _ := hz1
  have HSN : Hid _ := hsne
  clear hz1 hz2 hs0 hs ht hsne
  generalize strOfNums (njoin m s) = N1 at *
  generalize strOfNums (njoin m t) = N2 at *
  generalize strOfNums m = M at *
  generalize strOfNums s = S1 at *
  generalize strOfNums t = S2 at *
  have QK1 : Hid _ := ckKeeps N1
  have QK2 : Hid _ := ckKeeps N2
  have QKN : Hid _ := ckKeepsNo N2
  have QNH : Hid _ := ckHas 1
  have FM := hF.out.msg
  unfold exM at FM
  obtain ⟨⟨c0, c1, c2, c3, c4, c5, c6, c7, c8, c9, c10, c11, c12, c13, c14, c15, c16, c17⟩, hml2⟩ := ob18 FM
  clear FM
  have f4 := fun x : Ext W => x.cell (p := ⟨gm, 4, none⟩) hml2 c4
  have f7 := fun x : Ext W => x.cell (p := ⟨gm, 7, none⟩) hml2 c7
  clear c0 c1 c2 c3 c4 c5 c6 c7 c8 c9 c10 c11 c12 c13 c14 c15 c16 c17 hml2
  go_enter Tryz.func81, Tryz.ntmps81
  go_upto_region 0 with fail
  refine wp_region_then W 10 4 rfl (Below.refl _ _) (by kernel_rfl) (by kernel_rfl) (by kernel_rfl) (by kernel_rfl) ?_
  simp only [List.take]
  repeat (go_big_quiet_step (fail))
  refine wpQuiet_nil ?_
  rintro w1 ⟨⟨_, hb1⟩, rfl⟩
  clear f4 f7
  have HB1 : Hid _ := hb1
  have QC : Hid _ := ckConcat w1.heap.size 2 (w1.alloc (.cells #[.slice none 0 0, .slice none 0 0] 38)) ((Ob.new w1 _ _).cell 0 rfl) ((Ob.new w1 _ _).cell 1 rfl) (by simp)
  obtain ⟨wq, hwq⟩ : ∃ wq, w1.alloc (.cells #[.slice none 0 0, .slice none 0 0] 38) = wq := ⟨_, rfl⟩
  have hbq : Below w1.heap.size w1 wq := by rw [← hwq]; exact (Below.refl _ _).alloc (Nat.le_refl _) _
  have HBq : Hid (Below W.heap.size W wq) := hb1.trans (hbq.mono hb1.size)
  rw [hwq] at QC
  have HWq : Hid _ := hwq
  clear hb1 hbq hwq
  refine wpAny_force (i := 10) (by kernel_rfl) rfl ?_
  intro Q' hQ' hPn
  have HQ : Hid _ := hQ'
  clear hQ' hPn
  go_wp2
  rw [HWq.out]
  refine HQ.out _ _ ?_
  clear HQ HWq
  refine wpAny_force (i := 11) (by kernel_rfl) rfl ?_
  intro Q' hQ' hPn
  have HQ : Hid _ := hQ'
  clear hQ' hPn
  go_wp2_with fail
  refine Calls.mono QC.out ?_
  rintro e w2 ⟨rfl, rfl⟩
  go_wp2
  refine HQ.out _ _ ?_
  clear HQ QC
  refine wpAny_force (i := 12) (by kernel_rfl) rfl ?_
  intro Q' hQ' hPn
  have HQ : Hid _ := hQ'
  clear hQ' hPn
  go_wp2_with fail
  refine Calls.mono (QN.out _) ?_
  rintro e w3 ⟨rfl, hb3⟩
  have HB3 : Hid (Below W.heap.size W w3) := HBq.out.trans (hb3.mono HBq.out.size)
  clear hb3
  go_wp2
  refine HQ.out _ _ ?_
  clear HQ
  refine wpAny_force (i := 13) (by kernel_rfl) rfl ?_
  intro Q' hQ' hPn
  have HQ : Hid _ := hQ'
  clear hQ' hPn
  go_wp2
  refine HQ.out _ _ ?_
  clear HQ
  refine wpAny_end (by kernel_rfl) ?_
  obtain ⟨w4, hw4⟩ : ∃ w4, (w3.alloc (.map #[] 0)).alloc (.map #[] 0) = w4 := ⟨_, rfl⟩
  have hb4 : Below w3.heap.size w3 w4 := by rw [← hw4]; exact ((Below.refl _ _).alloc (Nat.le_refl _) _).alloc (by simp) _
  have MI : Hid (Mi w4 w3.heap.size 0 (fun _ => none)) := by rw [← hw4]; exact (Mi.made w3).below (m := w3.heap.size + 1) ((Below.refl _ _).alloc (by simp) _) (by omega)
  have MJ : Hid (Mg w4 (w3.heap.size + 1) 0 (fun _ => none)) := by rw [← hw4]; have := Mg.made (w3.alloc (.map #[] 0)); show Mg _ _ _ _; simpa using this
  have FS : Hid (Fs W w4 gm gf 2 bw bn bm bt M (exR S1 S2)) := (hF.out.under HB3.out (Nat.le_refl _)).under hb4 (Nat.le_refl _)
  have HT4 : Hid (LoTab w4) := (hT.out.below HB3.out (Nat.le_refl _)).below hb4 (Nat.le_refl _)
  have HW4 : Hid _ := hw4
  have HB4 : Hid (Below W.heap.size W w4) := HB3.out.trans (hb4.mono HB3.out.size)
  have HN : Hid (W.heap.size ≤ w3.heap.size ∧ gm < W.heap.size ∧ gf < W.heap.size ∧ bw < W.heap.size) := ⟨HB3.out.size, hF.out.msg.lt, hF.out.row.lt, hF.out.wrd.lt⟩
  have HT : Hid (LoTab W) := hT.out
  clear hw4 hb4 HB3 HBq HB1 hF hT HT4
  go_upto_region 2 with fail
  rw [HW4.out]
  clear HW4
  have FM := FS.out.msg
  unfold exM at FM
  obtain ⟨⟨c0, c1, c2, c3, c4, c5, c6, c7, c8, c9, c10, c11, c12, c13, c14, c15, c16, c17⟩, hml2⟩ := ob18 FM
  clear FM c0 c2 c3 c4 c5 c6 c7 c8 c9 c10 c11 c12 c13 c14 c15 c16 c17
  go_wp2
  have RS0 : Hid (Rs W w4 gm gf 2 bw bn bm bt M (exR S1 S2) w3.heap.size (fun _ => none) (fun _ => none)) := ⟨FS.out, ⟨_, MI.out⟩, ⟨_, MJ.out⟩⟩
  clear FS MI MJ c1 hml2 HB4
  generalize hbb : w3.heap.size = b at *
  clear hbb
  clear w3
  go_loopw [31] (fun v wr => (v = .int .i64 0 ∧ Hid (Rs W wr gm gf 2 bw bn bm bt M (exR S1 S2) b (fun _ => none) (fun _ => none))) ∨ (v = .int .i64 1 ∧ Hid (Rs W wr gm gf 2 bw bn bm bt M (exR S1 S2) b (fun x => if x = 1 then some (.agg #[]) else none) (fun x => if x = S1 then some (.agg #[]) else none)))) (fun v _ => 2 - (intOf v).toNat)
  case atStart => exact .inl ⟨rfl, RS0⟩
  case round =>
    rcases hrel with ⟨rfl, HS⟩ | ⟨rfl, HS⟩
    · have FR := HS.out.fs.row
      unfold exR at FR
      have d0 : wr.cell? ⟨gf, 0, none⟩ = some _ := FR.cell 0 rfl
      have d1 : wr.cell? ⟨gf, 1, none⟩ = some _ := FR.cell 1 rfl
      have d2 : wr.cell? ⟨gf, 2, none⟩ = some _ := FR.cell 2 rfl
      have d3 : wr.cell? ⟨gf, 3, none⟩ = some _ := FR.cell 3 rfl
      have d4 : wr.cell? ⟨gf, 4, none⟩ = some _ := FR.cell 4 rfl
      have d5 : wr.cell? ⟨gf, 5, none⟩ = some _ := FR.cell 5 rfl
      have d6 : wr.cell? ⟨gf, 6, none⟩ = some _ := FR.cell 6 rfl
      have d7 : wr.cell? ⟨gf, 7, none⟩ = some _ := FR.cell 7 rfl
      have d8 : wr.cell? ⟨gf, 8, none⟩ = some _ := FR.cell 8 rfl
      have d9 : wr.cell? ⟨gf, 9, none⟩ = some _ := FR.cell 9 rfl
      have d10 : wr.cell? ⟨gf, 10, none⟩ = some _ := FR.cell 10 rfl
      have d11 : wr.cell? ⟨gf, 11, none⟩ = some _ := FR.cell 11 rfl
      have d12 : wr.cell? ⟨gf, 12, none⟩ = some _ := FR.cell 12 rfl
      have dl := FR.lt
      obtain ⟨w5, hw5, hb5, o5⟩ := exF_new S1 wr
      unfold exF at hw5 o5
      have HW5 : Hid _ := hw5
      have EO5 : Hid (Ob w5 wr.heap.size #[.string S1, .int .i64 1, .int .i64 1, .int .i64 5, .string ⟨#[]⟩, .string ⟨#[]⟩, .string ⟨#[]⟩, .bool false, .int .i64 0, .string S1, .bool false, .slice none 0 0, .slice none 0 0] 34) := o5
      have R5 : Hid _ := HS.out.under hb5
      have HW0 : Hid (W.heap.size ≤ wr.heap.size ∧ b + 1 < wr.heap.size) := ⟨HS.out.fs.bel.size, by obtain ⟨_, h⟩ := HS.out.jsn; exact h.lt⟩
      clear FR hw5 hb5 o5 HS
      have FM := R5.out.fs.msg
      unfold exM at FM
      have c1 : w5.cell? ⟨gm, 1, none⟩ = some _ := FM.cell 1 rfl
      have g11 := fun x : Ext w5 => x.cell (p := ⟨gm, 11, none⟩) FM.lt (FM.cell 11 rfl)
      have h0 := fun x : Ext w5 => x.cell (p := ⟨wr.heap.size, 0, none⟩) EO5.out.lt (EO5.out.cell 0 rfl)
      clear FM c1
      go_upto_region 5 with fail
      rw [HW5.out]
      clear HW5 d0 d1 d2 d3 d4 d5 d6 d7 d8 d9 d10 d11 d12 dl
      refine wp_region_ext w5 (Below.refl _ _) (by kernel_rfl) (by kernel_rfl) ?_
      repeat (go_big_quiet_step (first | (go_at_call 121; exact Ext.call (fun V hV => QO1.out V) _)))
      refine wpQuiet_nil ?_
      rintro w6 ⟨⟨_, hb6⟩, rfl⟩
      clear g11 h0
      have EO6 : Hid _ := EO5.out.below hb6 EO5.out.lt
      have R6 : Hid _ := R5.out.under hb6
      clear EO5 R5 hb6
      have FM := R6.out.fs.msg
      unfold exM at FM
      have g14 := fun x : Ext w6 => x.cell (p := ⟨gm, 14, none⟩) FM.lt (FM.cell 14 rfl)
      have h0 := fun x : Ext w6 => x.cell (p := ⟨wr.heap.size, 0, none⟩) EO6.out.lt (EO6.out.cell 0 rfl)
      clear FM
      have QW : Hid _ := fun V (hV : Below w6.heap.size w6 V) => QW1.out V (R6.out.fs.wrd.below hV R6.out.fs.wrd.lt)
      go_upto_region 6 with fail
      refine wp_region_ext w6 (Below.refl _ _) (by kernel_rfl) (by kernel_rfl) ?_
      repeat (go_big_quiet_step (first | (go_at_call 26; exact Ext.call (fun V hV => QI1.out V) _) | (go_at_call 123; exact Ext.call (fun V hV => QW.out V hV) _) | (go_at_call 37; exact Ext.call_same (fun V => QK1.out _ V) _)))
      refine wpQuiet_nil ?_
      rintro w7 ⟨⟨_, hb7⟩, rfl⟩
      clear g14 h0 QW
      have EO : Hid _ := EO6.out.below hb7 EO6.out.lt
      have R7 : Hid _ := R6.out.under hb7
      clear EO6 R6 hb7
      obtain ⟨⟨e0, e1, e2, e3, e4, e5, e6, e7, e8, e9, e10, e11, e12⟩, _, el⟩ := ob13 EO.out
      obtain ⟨ia, hI⟩ := R7.out.met
      have QT : Hid (Calls Tryz.prog 126 #[.map (some b), .int .i64 1] w7 fun e w' => e = .returned (.bool true) ∧ (∃ n', Mi w' b n' (fun x => if x = 1 then some (.agg #[]) else none)) ∧ w7.grownBy w' (some b)) := ckTakeN 1 (by decide) w7 hI (fun v e => by cases e)
      clear hI ia
      go_wp2_with fail
      refine Calls.mono (ckNum1 _) ?_
      rintro e w8 ⟨rfl, rfl⟩
      go_wp2_with fail
      refine Calls.mono (QNH.out _) ?_
      rintro e w8 ⟨rfl, rfl⟩
      go_wp2_with fail
      refine Calls.mono QT.out ?_
      rintro e w8 ⟨rfl, hm8, hg8⟩
      have R8 : Hid _ := R7.out.setI HN.out hm8 hg8
      have EO8 : Hid (Ob w8 wr.heap.size #[.string S1, .int .i64 1, .int .i64 1, .int .i64 5, .string ⟨#[]⟩, .string ⟨#[]⟩, .string ⟨#[]⟩, .bool false, .int .i64 0, .string S1, .bool false, .slice none 0 0, .slice none 0 0] 34) := EO.out.grown hg8 (fun e => by have h1 := Option.some.inj e; have h2 := HW0.out; omega)
      clear hm8 hg8 EO R7 QT e0 e1 e2 e3 e4 e5 e6 e7 e8 e9 e10 e11 e12 el
      obtain ⟨⟨e0, e1, e2, e3, e4, e5, e6, e7, e8, e9, e10, e11, e12⟩, _, el⟩ := ob13 EO8.out
      go_wp2_with fail
      refine Calls.mono (QK1.out _ _) ?_
      rintro e w9 ⟨rfl, rfl⟩
      have QX : Hid _ := ckLabel S1 c w8
      unfold exF at QX
      go_wp2_with fail
      refine Calls.mono QX.out ?_
      rintro e w9 ⟨rfl, hb⟩
      have R9 : Hid _ := R8.out.under hb
      have EO9 : Hid (Ob w9 wr.heap.size #[.string S1, .int .i64 1, .int .i64 1, .int .i64 5, .string ⟨#[]⟩, .string ⟨#[]⟩, .string ⟨#[]⟩, .bool false, .int .i64 0, .string S1, .bool false, .slice none 0 0, .slice none 0 0] 34) := EO8.out.below hb EO8.out.lt
      clear hb QX R8 EO8 e0 e1 e2 e3 e4 e5 e6 e7 e8 e9 e10 e11 e12 el
      obtain ⟨⟨e0, e1, e2, e3, e4, e5, e6, e7, e8, e9, e10, e11, e12⟩, _, el⟩ := ob13 EO9.out
      go_wp2_with fail
      refine Calls.mono (QK1.out _ _) ?_
      rintro e wk ⟨rfl, rfl⟩
      have QX : Hid _ := ckTyped S1 N1 c w9 (show Hid _ from HT.out.below R9.out.fs.bel (Nat.le_refl _))
      unfold exF at QX
      go_wp2_with fail
      refine Calls.mono QX.out ?_
      rintro e w10 ⟨rfl, hb⟩
      have R10 : Hid _ := R9.out.under hb
      have EO10 : Hid (Ob w10 wr.heap.size #[.string S1, .int .i64 1, .int .i64 1, .int .i64 5, .string ⟨#[]⟩, .string ⟨#[]⟩, .string ⟨#[]⟩, .bool false, .int .i64 0, .string S1, .bool false, .slice none 0 0, .slice none 0 0] 34) := EO9.out.below hb EO9.out.lt
      clear hb QX R9 EO9 e0 e1 e2 e3 e4 e5 e6 e7 e8 e9 e10 e11 e12 el
      obtain ⟨⟨e0, e1, e2, e3, e4, e5, e6, e7, e8, e9, e10, e11, e12⟩, _, el⟩ := ob13 EO10.out
      have QX : Hid _ := ckOneof S1 c (.pointer (some ⟨gm, 0, none⟩)) w10
      unfold exF at QX
      go_wp2_with fail
      refine Calls.mono QX.out ?_
      rintro e w11 ⟨rfl, hb⟩
      have R11 : Hid _ := R10.out.under hb
      have EO11 : Hid (Ob w11 wr.heap.size #[.string S1, .int .i64 1, .int .i64 1, .int .i64 5, .string ⟨#[]⟩, .string ⟨#[]⟩, .string ⟨#[]⟩, .bool false, .int .i64 0, .string S1, .bool false, .slice none 0 0, .slice none 0 0] 34) := EO10.out.below hb EO10.out.lt
      clear hb QX R10 EO10 e0 e1 e2 e3 e4 e5 e6 e7 e8 e9 e10 e11 e12 el
      obtain ⟨⟨e0, e1, e2, e3, e4, e5, e6, e7, e8, e9, e10, e11, e12⟩, _, el⟩ := ob13 EO11.out
      go_wp2_with fail
      refine Calls.mono (QK1.out _ _) ?_
      rintro e wk ⟨rfl, rfl⟩
      obtain ⟨ja, hJ⟩ := R11.out.jsn
      have QT : Hid (Calls Tryz.prog 103 #[.map (some (b + 1)), .string S1] w11 fun e w' => e = .returned (.bool true) ∧ (∃ n', Mg w' (b + 1) n' (fun x => if x = S1 then some (.agg #[]) else none)) ∧ w11.grownBy w' (some (b + 1))) := ckTakeS S1 HZ1.out w11 hJ (fun v e => by cases e)
      clear hJ ja
      have hsn := HSN.out
      go_wp2_with fail
      refine Calls.mono QT.out ?_
      rintro e w12 ⟨rfl, hm, hg⟩
      have R12 : Hid _ := R11.out.setJ HN.out hm hg
      have EO12 : Hid (Ob w12 wr.heap.size #[.string S1, .int .i64 1, .int .i64 1, .int .i64 5, .string ⟨#[]⟩, .string ⟨#[]⟩, .string ⟨#[]⟩, .bool false, .int .i64 0, .string S1, .bool false, .slice none 0 0, .slice none 0 0] 34) := EO11.out.grown hg (fun e => by have h1 := Option.some.inj e; have h2 := HW0.out; omega)
      clear hm hg hsn EO11 R11 QT e0 e1 e2 e3 e4 e5 e6 e7 e8 e9 e10 e11 e12 el
      obtain ⟨⟨e0, e1, e2, e3, e4, e5, e6, e7, e8, e9, e10, e11, e12⟩, _, el⟩ := ob13 EO12.out
      go_wp2_with fail
      refine Calls.mono (QK1.out _ _) ?_
      rintro e wk ⟨rfl, rfl⟩
      have QX : Hid _ := ckIsEnt S1 c w12
      unfold exF at QX
      go_wp2_with fail
      refine Calls.mono QX.out ?_
      rintro e w13 ⟨rfl, hb⟩
      have R13 : Hid _ := R12.out.under hb
      have EO13 : Hid (Ob w13 wr.heap.size #[.string S1, .int .i64 1, .int .i64 1, .int .i64 5, .string ⟨#[]⟩, .string ⟨#[]⟩, .string ⟨#[]⟩, .bool false, .int .i64 0, .string S1, .bool false, .slice none 0 0, .slice none 0 0] 34) := EO12.out.below hb EO12.out.lt
      clear hb QX R12 EO12 e0 e1 e2 e3 e4 e5 e6 e7 e8 e9 e10 e11 e12 el
      obtain ⟨⟨e0, e1, e2, e3, e4, e5, e6, e7, e8, e9, e10, e11, e12⟩, _, el⟩ := ob13 EO13.out
      go_wp2_with fail
      refine Calls.mono (QK1.out _ _) ?_
      rintro e wk ⟨rfl, rfl⟩
      go_wp2
      go_roundw
      case rel => first | exact .inr ⟨by go_num, R13⟩ | ((repeat apply Exists.intro); exact ⟨.inr ⟨by go_num, R13⟩, rfl⟩)
      case measure => simp [intOf]
    · have FR := HS.out.fs.row
      unfold exR at FR
      have d0 : wr.cell? ⟨gf, 13, none⟩ = some _ := FR.cell 13 rfl
      have d1 : wr.cell? ⟨gf, 14, none⟩ = some _ := FR.cell 14 rfl
      have d2 : wr.cell? ⟨gf, 15, none⟩ = some _ := FR.cell 15 rfl
      have d3 : wr.cell? ⟨gf, 16, none⟩ = some _ := FR.cell 16 rfl
      have d4 : wr.cell? ⟨gf, 17, none⟩ = some _ := FR.cell 17 rfl
      have d5 : wr.cell? ⟨gf, 18, none⟩ = some _ := FR.cell 18 rfl
      have d6 : wr.cell? ⟨gf, 19, none⟩ = some _ := FR.cell 19 rfl
      have d7 : wr.cell? ⟨gf, 20, none⟩ = some _ := FR.cell 20 rfl
      have d8 : wr.cell? ⟨gf, 21, none⟩ = some _ := FR.cell 21 rfl
      have d9 : wr.cell? ⟨gf, 22, none⟩ = some _ := FR.cell 22 rfl
      have d10 : wr.cell? ⟨gf, 23, none⟩ = some _ := FR.cell 23 rfl
      have d11 : wr.cell? ⟨gf, 24, none⟩ = some _ := FR.cell 24 rfl
      have d12 : wr.cell? ⟨gf, 25, none⟩ = some _ := FR.cell 25 rfl
      have dl := FR.lt
      obtain ⟨w5, hw5, hb5, o5⟩ := exF_new S2 wr
      unfold exF at hw5 o5
      have HW5 : Hid _ := hw5
      have EO5 : Hid (Ob w5 wr.heap.size #[.string S2, .int .i64 1, .int .i64 1, .int .i64 5, .string ⟨#[]⟩, .string ⟨#[]⟩, .string ⟨#[]⟩, .bool false, .int .i64 0, .string S2, .bool false, .slice none 0 0, .slice none 0 0] 34) := o5
      have R5 : Hid _ := HS.out.under hb5
      have HW0 : Hid (W.heap.size ≤ wr.heap.size ∧ b + 1 < wr.heap.size) := ⟨HS.out.fs.bel.size, by obtain ⟨_, h⟩ := HS.out.jsn; exact h.lt⟩
      clear FR hw5 hb5 o5 HS
      have FM := R5.out.fs.msg
      unfold exM at FM
      have c1 : w5.cell? ⟨gm, 1, none⟩ = some _ := FM.cell 1 rfl
      have g11 := fun x : Ext w5 => x.cell (p := ⟨gm, 11, none⟩) FM.lt (FM.cell 11 rfl)
      have h0 := fun x : Ext w5 => x.cell (p := ⟨wr.heap.size, 0, none⟩) EO5.out.lt (EO5.out.cell 0 rfl)
      clear FM c1
      go_upto_region 5 with fail
      rw [HW5.out]
      clear HW5 d0 d1 d2 d3 d4 d5 d6 d7 d8 d9 d10 d11 d12 dl
      refine wp_region_ext w5 (Below.refl _ _) (by kernel_rfl) (by kernel_rfl) ?_
      repeat (go_big_quiet_step (first | (go_at_call 121; exact Ext.call (fun V hV => QO2.out V) _)))
      refine wpQuiet_nil ?_
      rintro w6 ⟨⟨_, hb6⟩, rfl⟩
      clear g11 h0
      have EO6 : Hid _ := EO5.out.below hb6 EO5.out.lt
      have R6 : Hid _ := R5.out.under hb6
      clear EO5 R5 hb6
      have FM := R6.out.fs.msg
      unfold exM at FM
      have g14 := fun x : Ext w6 => x.cell (p := ⟨gm, 14, none⟩) FM.lt (FM.cell 14 rfl)
      have h0 := fun x : Ext w6 => x.cell (p := ⟨wr.heap.size, 0, none⟩) EO6.out.lt (EO6.out.cell 0 rfl)
      clear FM
      have QW : Hid _ := fun V (hV : Below w6.heap.size w6 V) => QW2.out V (R6.out.fs.wrd.below hV R6.out.fs.wrd.lt)
      go_upto_region 6 with fail
      refine wp_region_ext w6 (Below.refl _ _) (by kernel_rfl) (by kernel_rfl) ?_
      repeat (go_big_quiet_step (first | (go_at_call 26; exact Ext.call (fun V hV => QI2.out V) _) | (go_at_call 123; exact Ext.call (fun V hV => QW.out V hV) _) | (go_at_call 37; exact Ext.call_same (fun V => QK2.out _ V) _)))
      refine wpQuiet_nil ?_
      rintro w7 ⟨⟨_, hb7⟩, rfl⟩
      clear g14 h0 QW
      have EO : Hid _ := EO6.out.below hb7 EO6.out.lt
      have R7 : Hid _ := R6.out.under hb7
      clear EO6 R6 hb7
      obtain ⟨⟨e0, e1, e2, e3, e4, e5, e6, e7, e8, e9, e10, e11, e12⟩, _, el⟩ := ob13 EO.out
      obtain ⟨ia, hI⟩ := R7.out.met
      have QT : Hid (Calls Tryz.prog 126 #[.map (some b), .int .i64 1] w7 fun e w' => e = .returned (.bool false) ∧ (∃ n', Mi w' b n' (fun x => if x = 1 then some (.agg #[]) else (if x = 1 then some (.agg #[]) else none))) ∧ w7.grownBy w' (some b)) := ckTakeN 1 (by decide) w7 hI (fun v e => by simpa using e.symm)
      clear hI ia
      go_wp2_with fail
      refine Calls.mono (ckNum1 _) ?_
      rintro e w8 ⟨rfl, rfl⟩
      go_wp2_with fail
      refine Calls.mono (QNH.out _) ?_
      rintro e w8 ⟨rfl, rfl⟩
      go_wp2_with fail
      refine Calls.mono QT.out ?_
      rintro e w8 ⟨rfl, hm8, hg8⟩
      have R8 : Hid (Rs W w8 gm gf 2 bw bn bm bt M (exR S1 S2) b _ _) := R7.out.setI HN.out hm8 hg8
      go_wp2_with fail
      refine Calls.mono (QKN.out _ _) ?_
      rintro e w9 ⟨rfl, rfl⟩
      exact ⟨rfl, R8.out.fs.bel, rfl⟩

set_option maxRecDepth 100000 in
set_option maxHeartbeats 8000000 in
theorem ckMsgs1 (m s t : List Int) (hmb : Hid (byts m)) (hsb : Hid (byts s)) (htb : Hid (byts t)) (hml : m.length ≤ 1000) (hsl : s.length ≤ 1000) (htl : t.length ≤ 1000) (hm : nident m = true) (hs : nident s = true) (ht : nident t = true) (W : World) (hT : Hid (LoTab W)) {gm gf bc bp bq : Nat}
    (hgm : Ob W gm (exG (strOfNums m) gf 1) 42) (hgf : Hid (Ob W gf (exF (strOfNums s)) 34)) (hc : Hid (W.cell? ⟨bc, 6, none⟩ = some (.bool false) ∧ bc < W.heap.size)) (hp : Ob W bp #[.pointer (some ⟨bc, 0, none⟩)] 155) (hq : Hid (Ob W bq #[.func (.func 77) #[] #[.pointer (some ⟨bp, 0, none⟩), .pointer (some ⟨bq, 0, none⟩)]] 156)) :
    Calls Tryz.prog 77 #[.slice (some ⟨gm, 0, none⟩) 1 1, .string (strOfNums []), .pointer none, .pointer (some ⟨bp, 0, none⟩), .pointer (some ⟨bq, 0, none⟩)] W fun e w' => Below W.heap.size W w' ∧ e = .returned (.tuple #[]) := by
  have QC : Hid _ := fun V h => ckCount1 m hmb hml gf (exF (strOfNums s)) (strOfNums s) (strOfNums t) rfl V h
  have QM : Hid _ := fun V a b gm n bw bn bm bt h => ckMessage m hmb hml hm bc V a b (gm := gm) (gf := gf) (n := n) (bw := bw) (bn := bn) (bm := bm) (bt := bt) (R := exF (strOfNums s)) h
  have QF : Hid _ := fun V a gm bw bn bm bt h => ckFields1 (.pointer (some ⟨bc, 0, none⟩)) m s t hmb hsb htb hml hsl htl hs ht V a (gm := gm) (gf := gf) (bw := bw) (bn := bn) (bm := bm) (bt := bt) h
  generalize hR : exF (strOfNums s) = R at *
  clear hR
  generalize strOfNums (njoin m t) = N2 at *
  generalize strOfNums (njoin m s) = N1 at *
  generalize strOfNums m = M at *
  generalize strOfNums [] = S0 at *
  have HP : Hid (Ob W bp #[.pointer (some ⟨bc, 0, none⟩)] 155) := hp
  have HGM : Hid (Ob W gm (exG M gf 1) 42) := hgm
  unfold exG at hgm
  obtain ⟨⟨d0, d1, d2, d3, d4, d5, d6, d7, d8, d9, d10⟩, _, dl⟩ := ob11 hgm
  obtain ⟨a0, _, al⟩ := ob1 hp
  clear hgm hp
  go_enter Tryz.func77, Tryz.ntmps77
  go_wp2
  go_loopw [13] (fun v wr => (v = .int .i64 0 ∧ W = wr) ∨ (v = .int .i64 1 ∧ Hid (Below W.heap.size W wr))) (fun v _ => 2 - (intOf v).toNat)
  case atStart => exact .inl ⟨rfl, rfl⟩
  case round =>
    rcases hrel with ⟨rfl, rfl⟩ | ⟨rfl, HB⟩
    · obtain ⟨w1, hw1⟩ : ∃ w1, W.alloc (.cells (exG M gf 1) 42) = w1 := ⟨_, rfl⟩
      have hb1 : Below W.heap.size W w1 := by rw [← hw1]; exact (Below.refl _ _).alloc (Nat.le_refl _) _
      have o1 : Ob w1 W.heap.size (exG M gf 1) 42 := by rw [← hw1]; exact Ob.new _ _ _
      have HW1 : Hid _ := hw1
      have HB1 : Hid _ := hb1
      have O1 : Hid (Ob w1 W.heap.size (exG M gf 1) 42) := o1
      have QC1 : Hid _ := QC.out w1 (show Hid _ from hgf.out.below hb1 hgf.out.lt)
      unfold exG at HW1 o1 QC1
      obtain ⟨⟨c0, c1, c2, c3, c4, c5, c6, c7, c8, c9, c10⟩, _, cl⟩ := ob11 o1
      clear hw1 hb1 o1 QC
      go_upto_region 3 with fail
      rw [HW1.out]
      clear HW1 d0 d1 d2 d3 d4 d5 d6 d7 d8 d9 d10 dl a0 al
      go_wp2_with fail
      refine Calls.mono QC1.out ?_
      rintro e w2 ⟨g, b6, b7, b8, b9, rfl, hg, hb6, hf2⟩
      have hb2 := hf2.bel
      have F2 : Hid (Fs w2 w2 g gf 1 b6 b7 b8 b9 M R) := ⟨hf2.msg, hf2.row, hf2.wrd, Below.refl _ _⟩
      have HB2 : Hid (Below W.heap.size W w2) := HB1.out.trans (hb2.mono HB1.out.size)
      have O2 : Hid _ := O1.out.below hb2 O1.out.lt
      have P2 := HP.out.below HB2.out HP.out.lt
      obtain ⟨a0, _, al⟩ := ob1 P2
      have QM2 : Hid _ := QM.out w2 ((HB2.out.cell (p := ⟨bc, 6, none⟩) hc.out.2).trans hc.out.1) (Nat.lt_of_lt_of_le hc.out.2 HB2.out.size) g 1 b6 b7 b8 b9 F2
      clear hg hb6 hf2 hb2 c0 c1 c2 c3 c4 c5 c6 c7 c8 c9 c10 cl O1 P2 QC1 QM
      go_wp2_with fail
      refine Calls.mono QM2.out ?_
      rintro e w3 ⟨rfl, hb3⟩
      have F3 : Hid (Fs w2 w3 g gf 1 b6 b7 b8 b9 M R) := F2.out.under hb3 (Nat.le_refl _)
      have HB3 : Hid (Below W.heap.size W w3) := HB2.out.trans (hb3.mono HB2.out.size)
      have O3 : Hid _ := O2.out.below hb3 O2.out.lt
      have P3 := HP.out.below HB3.out HP.out.lt
      have QO : Hid _ := ckOneofs0 w3 F3.out.msg
      clear hb3 a0 al O2 F2 HB2 QM2
      obtain ⟨a0, _, al⟩ := ob1 P3
      clear P3
      go_wp2_with fail
      refine Calls.mono QO.out ?_
      rintro e w4 ⟨rfl, rfl⟩
      have QF3 : Hid _ := QF.out w3 (show Hid _ from hT.out.below HB3.out (Nat.le_refl _)) g b6 b7 b8 b9 (show Hid _ from ⟨F3.out.msg, F3.out.row, F3.out.wrd, Below.refl _ _⟩)
      go_wp2_with fail
      refine Calls.mono QF3.out ?_
      rintro e w4 ⟨hb4, rfl⟩
      have HB4 : Hid (Below W.heap.size W w4) := HB3.out.trans (hb4.mono HB3.out.size)
      have O4 : Hid (Ob w4 W.heap.size (exG M gf 1) 42) := O3.out.below hb4 O3.out.lt
      have G4 : Hid (Ob w4 g (exM M gf 1 b6 b7 b8 b9) 164) := F3.out.msg.below hb4 F3.out.msg.lt
      clear hb4 a0 al HB3 O3 F3 QF3 QO
      have P4 := HP.out.below HB4.out HP.out.lt
      have Q4 := hq.out.below HB4.out hq.out.lt
      have fq := fun x : Ext w4 => x.cell (p := ⟨bq, 0, none⟩) Q4.lt (Q4.cell 0 rfl)
      have f2 := fun x : Ext w4 => x.cell (p := ⟨W.heap.size, 2, none⟩) O4.out.lt (O4.out.cell 2 rfl)
      have f11 := fun x : Ext w4 => x.cell (p := ⟨g, 11, none⟩) G4.out.lt (G4.out.cell 11 rfl)
      clear P4 Q4
      go_upto_region 7 with fail
      refine wp_region_ext w4 (Below.refl _ _) (by kernel_rfl) (by kernel_rfl) ?_
      repeat (go_big_quiet_step (first | (go_at_call 77; exact Ext.call_same (fun V => ckMsgs0 _ _ _ _ V) _)))
      refine wpQuiet_nil ?_
      rintro w5 ⟨⟨_, hb5⟩, rfl⟩
      clear fq f2 f11
      have HB5 : Hid (Below W.heap.size W w5) := HB4.out.trans (hb5.mono HB4.out.size)
      have O5 : Hid (Ob w5 W.heap.size (exG M gf 1) 42) := O4.out.below hb5 O4.out.lt
      have G5 : Hid (Ob w5 g (exM M gf 1 b6 b7 b8 b9) 164) := G4.out.below hb5 G4.out.lt
      clear hb5 HB4 O4 G4
      have P5 := HP.out.below HB5.out HP.out.lt
      have fp := fun x : Ext w5 => x.cell (p := ⟨bp, 0, none⟩) P5.lt (P5.cell 0 rfl)
      have f3 := fun x : Ext w5 => x.cell (p := ⟨W.heap.size, 3, none⟩) O5.out.lt (O5.out.cell 3 rfl)
      have f11 := fun x : Ext w5 => x.cell (p := ⟨g, 11, none⟩) G5.out.lt (G5.out.cell 11 rfl)
      clear P5
      go_upto_region 8 with fail
      refine wp_region_ext w5 (Below.refl _ _) (by kernel_rfl) (by kernel_rfl) ?_
      repeat (go_big_quiet_step (first | (go_at_call 82; exact Ext.call_same (fun V => ckEnums0 _ _ V) _)))
      refine wpQuiet_nil ?_
      rintro w6 ⟨⟨_, hb6⟩, rfl⟩
      clear fp f3 f11
      have HB6 : Hid (Below W.heap.size W w6) := HB5.out.trans (hb6.mono HB5.out.size)
      have O6 : Hid (Ob w6 W.heap.size (exG M gf 1) 42) := O5.out.below hb6 O5.out.lt
      have G6 : Hid (Ob w6 g (exM M gf 1 b6 b7 b8 b9) 164) := G5.out.below hb6 G5.out.lt
      clear hb6 HB5 O5 G5
      have P6 := HP.out.below HB6.out HP.out.lt
      have fp := fun x : Ext w6 => x.cell (p := ⟨bp, 0, none⟩) P6.lt (P6.cell 0 rfl)
      have f5 := fun x : Ext w6 => x.cell (p := ⟨W.heap.size, 5, none⟩) O6.out.lt (O6.out.cell 5 rfl)
      have f11 := fun x : Ext w6 => x.cell (p := ⟨g, 11, none⟩) G6.out.lt (G6.out.cell 11 rfl)
      clear P6
      go_upto_region 9 with fail
      refine wp_region_ext w6 (Below.refl _ _) (by kernel_rfl) (by kernel_rfl) ?_
      repeat (go_big_quiet_step (first | (go_at_call 83; exact Ext.call_same (fun V => ckExts0 _ _ V) _)))
      refine wpQuiet_nil ?_
      rintro w7 ⟨⟨_, hb7⟩, rfl⟩
      clear fp f5 f11
      have HB7 : Hid (Below W.heap.size W w7) := HB6.out.trans (hb7.mono HB6.out.size)
      clear hb7 HB6 O6 G6
      go_wp2
      go_roundw
      case rel => first | exact .inr ⟨by go_num, HB7⟩ | ((repeat apply Exists.intro); exact ⟨.inr ⟨by go_num, HB7⟩, rfl⟩)
      case measure => simp [intOf]
    · go_wp2
      go_end0
      exact ⟨HB.out, rfl⟩

set_option maxRecDepth 100000 in
set_option maxHeartbeats 8000000 in
theorem ckMsgs2 (m s t : List Int) (hmb : Hid (byts m)) (hsb : Hid (byts s)) (htb : Hid (byts t)) (hml : m.length ≤ 1000) (hsl : s.length ≤ 1000) (htl : t.length ≤ 1000) (hm : nident m = true) (hs : nident s = true) (ht : nident t = true) (W : World) (hT : Hid (LoTab W)) {gm gf bc bp bq : Nat}
    (hgm : Ob W gm (exG (strOfNums m) gf 2) 42) (hgf : Hid (Ob W gf (exR (strOfNums s) (strOfNums t)) 34)) (hc : Hid (W.cell? ⟨bc, 6, none⟩ = some (.bool false) ∧ bc < W.heap.size)) (hp : Ob W bp #[.pointer (some ⟨bc, 0, none⟩)] 155) (hq : Hid (Ob W bq #[.func (.func 77) #[] #[.pointer (some ⟨bp, 0, none⟩), .pointer (some ⟨bq, 0, none⟩)]] 156)) :
    Calls Tryz.prog 77 #[.slice (some ⟨gm, 0, none⟩) 1 1, .string (strOfNums []), .pointer none, .pointer (some ⟨bp, 0, none⟩), .pointer (some ⟨bq, 0, none⟩)] W fun e w' => Below W.heap.size W w' ∧ e = .panicked [brk (strOfNums (njoin m t)) 9] := by
  have QC : Hid _ := fun V h => ckCount2 m hmb hml gf (exR (strOfNums s) (strOfNums t)) (strOfNums s) (strOfNums t) rfl V h
  have QM : Hid _ := fun V a b gm n bw bn bm bt h => ckMessage m hmb hml hm bc V a b (gm := gm) (gf := gf) (n := n) (bw := bw) (bn := bn) (bm := bm) (bt := bt) (R := exR (strOfNums s) (strOfNums t)) h
  have QF : Hid _ := fun V a gm bw bn bm bt h => ckFields2 (.pointer (some ⟨bc, 0, none⟩)) m s t hmb hsb htb hml hsl htl hs ht V a (gm := gm) (gf := gf) (bw := bw) (bn := bn) (bm := bm) (bt := bt) h
  generalize hR : exR (strOfNums s) (strOfNums t) = R at *
  clear hR
  generalize strOfNums (njoin m t) = N2 at *
  generalize strOfNums (njoin m s) = N1 at *
  generalize strOfNums m = M at *
  generalize strOfNums [] = S0 at *
  have HP : Hid (Ob W bp #[.pointer (some ⟨bc, 0, none⟩)] 155) := hp
  have HGM : Hid (Ob W gm (exG M gf 2) 42) := hgm
  unfold exG at hgm
  obtain ⟨⟨d0, d1, d2, d3, d4, d5, d6, d7, d8, d9, d10⟩, _, dl⟩ := ob11 hgm
  obtain ⟨a0, _, al⟩ := ob1 hp
  clear hgm hp
  go_enter Tryz.func77, Tryz.ntmps77
  go_wp2
  go_loopw [13] (fun v wr => (v = .int .i64 0 ∧ W = wr)) (fun v _ => 0)
  case atStart => exact ⟨rfl, rfl⟩
  case round =>
    obtain ⟨rfl, rfl⟩ := hrel
    · obtain ⟨w1, hw1⟩ : ∃ w1, W.alloc (.cells (exG M gf 2) 42) = w1 := ⟨_, rfl⟩
      have hb1 : Below W.heap.size W w1 := by rw [← hw1]; exact (Below.refl _ _).alloc (Nat.le_refl _) _
      have o1 : Ob w1 W.heap.size (exG M gf 2) 42 := by rw [← hw1]; exact Ob.new _ _ _
      have HW1 : Hid _ := hw1
      have HB1 : Hid _ := hb1
      have O1 : Hid (Ob w1 W.heap.size (exG M gf 2) 42) := o1
      have QC1 : Hid _ := QC.out w1 (show Hid _ from hgf.out.below hb1 hgf.out.lt)
      unfold exG at HW1 o1 QC1
      obtain ⟨⟨c0, c1, c2, c3, c4, c5, c6, c7, c8, c9, c10⟩, _, cl⟩ := ob11 o1
      clear hw1 hb1 o1 QC
      go_upto_region 3 with fail
      rw [HW1.out]
      clear HW1 d0 d1 d2 d3 d4 d5 d6 d7 d8 d9 d10 dl a0 al
      go_wp2_with fail
      refine Calls.mono QC1.out ?_
      rintro e w2 ⟨g, b6, b7, b8, b9, rfl, hg, hb6, hf2⟩
      have hb2 := hf2.bel
      have F2 : Hid (Fs w2 w2 g gf 2 b6 b7 b8 b9 M R) := ⟨hf2.msg, hf2.row, hf2.wrd, Below.refl _ _⟩
      have HB2 : Hid (Below W.heap.size W w2) := HB1.out.trans (hb2.mono HB1.out.size)
      have O2 : Hid _ := O1.out.below hb2 O1.out.lt
      have P2 := HP.out.below HB2.out HP.out.lt
      obtain ⟨a0, _, al⟩ := ob1 P2
      have QM2 : Hid _ := QM.out w2 ((HB2.out.cell (p := ⟨bc, 6, none⟩) hc.out.2).trans hc.out.1) (Nat.lt_of_lt_of_le hc.out.2 HB2.out.size) g 2 b6 b7 b8 b9 F2
      clear hg hb6 hf2 hb2 c0 c1 c2 c3 c4 c5 c6 c7 c8 c9 c10 cl O1 P2 QC1 QM
      go_wp2_with fail
      refine Calls.mono QM2.out ?_
      rintro e w3 ⟨rfl, hb3⟩
      have F3 : Hid (Fs w2 w3 g gf 2 b6 b7 b8 b9 M R) := F2.out.under hb3 (Nat.le_refl _)
      have HB3 : Hid (Below W.heap.size W w3) := HB2.out.trans (hb3.mono HB2.out.size)
      have O3 : Hid _ := O2.out.below hb3 O2.out.lt
      have P3 := HP.out.below HB3.out HP.out.lt
      have QO : Hid _ := ckOneofs0 w3 F3.out.msg
      clear hb3 a0 al O2 F2 HB2 QM2
      obtain ⟨a0, _, al⟩ := ob1 P3
      clear P3
      go_wp2_with fail
      refine Calls.mono QO.out ?_
      rintro e w4 ⟨rfl, rfl⟩
      have QF3 : Hid _ := QF.out w3 (show Hid _ from hT.out.below HB3.out (Nat.le_refl _)) g b6 b7 b8 b9 (show Hid _ from ⟨F3.out.msg, F3.out.row, F3.out.wrd, Below.refl _ _⟩)
      go_wp2_with fail
      refine Calls.mono QF3.out ?_
      rintro e w4 ⟨hb4, rfl⟩
      exact ⟨rfl, HB3.out.trans (hb4.mono HB3.out.size), rfl⟩

def exFile (A : ByteArray) (gm : Nat) : Array Value := #[.string A, .string ⟨#[]⟩, .slice none 0 0, .slice none 0 0, .slice (some ⟨gm, 0, none⟩) 1 1, .slice none 0 0, .slice none 0 0, .slice none 0 0, .string ⟨#[]⟩, .slice none 0 0, .slice none 0 0]

set_option maxRecDepth 100000 in
set_option maxHeartbeats 8000000 in
theorem ckFile1 (A : ByteArray) (m s t : List Int) (hmb : Hid (byts m)) (hsb : Hid (byts s)) (htb : Hid (byts t)) (hml : m.length ≤ 1000) (hsl : s.length ≤ 1000) (htl : t.length ≤ 1000) (hm : nident m = true) (hs : nident s = true) (ht : nident t = true) (W : World) (hT : Hid (LoTab W)) {gm gf bc : Nat}
    (hgm : Hid (Ob W gm (exG (strOfNums m) gf 1) 42)) (hgf : Hid (Ob W gf (exF (strOfNums s)) 34)) (hc : Hid (W.cell? ⟨bc, 6, none⟩ = some (.bool false) ∧ bc < W.heap.size)) :
    Calls Tryz.prog 40 #[.pointer (some ⟨bc, 0, none⟩), .agg (exFile A gm)] W fun e w' => Below W.heap.size W w' ∧ e = .returned (.tuple #[]) := by
  have hmf : ∀ (fn : Fn) (first cap : Array Value) (w : World), (Instr.makeFunc fn first cap).run Tryz.prog w = .ok (.func fn first cap) w := fun _ _ _ _ => rfl
  obtain ⟨w1, hw1⟩ : ∃ w1, (W.alloc (.cells #[.pointer (some ⟨bc, 0, none⟩)] 155)).alloc (.cells (exFile A gm) 46) = w1 := ⟨_, rfl⟩
  have hb1 : Below W.heap.size W w1 := by rw [← hw1]; exact ((Below.refl _ _).alloc (Nat.le_refl _) _).alloc (by simp) _
  have p1 : Ob w1 W.heap.size #[.pointer (some ⟨bc, 0, none⟩)] 155 := by rw [← hw1]; exact (Ob.new _ _ _).alloc _
  have f1 : Ob w1 (W.heap.size + 1) (exFile A gm) 46 := by
    rw [← hw1]
    have := Ob.new (W.alloc (.cells #[.pointer (some ⟨bc, 0, none⟩)] 155)) (exFile A gm) 46
    rw [World.size_alloc] at this
    exact this
  have hs1 : w1.heap.size = W.heap.size + 1 + 1 := by rw [← hw1]; simp
  have HS1 : Hid _ := hs1
  obtain ⟨w2, hw2⟩ : ∃ w2, w1.alloc (.cells #[.func (.func 77) #[] #[.pointer (some ⟨W.heap.size, 0, none⟩), .pointer (some ⟨w1.heap.size, 0, none⟩)]] 156) = w2 := ⟨_, rfl⟩
  have hb2 : Below w1.heap.size w1 w2 := by rw [← hw2]; exact (Below.refl _ _).alloc (Nat.le_refl _) _
  have q2 : Ob w2 w1.heap.size #[.func (.func 77) #[] #[.pointer (some ⟨W.heap.size, 0, none⟩), .pointer (some ⟨w1.heap.size, 0, none⟩)]] 156 := by rw [← hw2]; exact Ob.new _ _ _
  have p2 := p1.below hb2 p1.lt
  have f2 : Ob w2 (W.heap.size + 1) (exFile A gm) 46 := f1.below hb2 f1.lt
  have hbw : Below W.heap.size W w2 := hb1.trans (hb2.mono hb1.size)
  have QM : Hid _ := ckMsgs1 m s t hmb hsb htb hml hsl htl hm hs ht w2 (show Hid _ from hT.out.below hbw (Nat.le_refl _)) (gm := gm) (gf := gf) (bc := bc) (hgm.out.below hbw hgm.out.lt) (show Hid _ from hgf.out.below hbw hgf.out.lt) (show Hid _ from ⟨(hbw.cell (p := ⟨bc, 6, none⟩) hc.out.2).trans hc.out.1, Nat.lt_of_lt_of_le hc.out.2 hbw.size⟩) p2 (show Hid _ from q2)
  rw [show strOfNums [] = (⟨#[]⟩ : ByteArray) from rfl] at QM
  have e5 : (w1.alloc (.cells #[.nilFunc] 156)).heap[w1.heap.size]? = some (.cells #[.nilFunc] 156 (0, 0)) := heap_alloc_new _ _
  obtain ⟨r1, r2, r3⟩ := ob1 (Ob.mk e5)
  obtain ⟨s1, _, sl⟩ := ob1 q2
  have HB2 : Hid (Below W.heap.size W w2) := hbw
  have P2 : Hid (Ob w2 W.heap.size #[.pointer (some ⟨bc, 0, none⟩)] 155) := p2
  have F2 : Hid (Ob w2 (W.heap.size + 1) (exFile A gm) 46) := f2
  have HW1 : Hid _ := hw1
  have HW2 : Hid _ := hw2
  generalize strOfNums (njoin m t) = N2 at *
  clear hw1 hb1 p1 f1 hw2 hb2 q2 p2 hbw e5 hgm hgf hc hT hs1 hm hs ht
  unfold exFile at HW1 f2 ⊢
  obtain ⟨⟨c0, c1, c2, c3, c4, c5, c6, c7, c8, c9, c10⟩, _, cl⟩ := ob11 f2
  clear f2
  go_enter Tryz.func40, Tryz.ntmps40
  go_upto_region 1 with fail
  rw [HW1.out]
  clear HW1
  go_upto_region 3 with fail
  rw [HW2.out]
  clear HW2 r1 r2 r3
  go_wp2_with fail
  refine Calls.mono QM.out ?_
  rintro e w3 ⟨hb3, rfl⟩
  have P3 := P2.out.below hb3 P2.out.lt
  have F3 := F2.out.below hb3 F2.out.lt
  have HB3 : Hid (Below W.heap.size W w3) := HB2.out.trans (hb3.mono HB2.out.size)
  clear c0 c1 c2 c3 c4 c5 c6 c7 c8 c9 c10 cl hb3 P2 F2 HB2 QM s1 sl
  unfold exFile at F3
  obtain ⟨⟨c0, c1, c2, c3, c4, c5, c6, c7, c8, c9, c10⟩, _, cl⟩ := ob11 F3
  obtain ⟨a0, _, al⟩ := ob1 P3
  clear F3 P3
  go_wp2_with fail
  refine Calls.mono (ckEnums0 _ _ _) ?_
  rintro e w4 ⟨rfl, rfl⟩
  go_wp2_with fail
  refine Calls.mono (ckServs0 _ _ _) ?_
  rintro e w4 ⟨rfl, rfl⟩
  go_wp2_with fail
  refine Calls.mono (ckExts0 _ _ _) ?_
  rintro e w4 ⟨rfl, rfl⟩
  go_wp2
  go_end0
  exact ⟨HB3.out, rfl⟩

set_option maxRecDepth 100000 in
set_option maxHeartbeats 8000000 in
theorem ckFile2 (A : ByteArray) (m s t : List Int) (hmb : Hid (byts m)) (hsb : Hid (byts s)) (htb : Hid (byts t)) (hml : m.length ≤ 1000) (hsl : s.length ≤ 1000) (htl : t.length ≤ 1000) (hm : nident m = true) (hs : nident s = true) (ht : nident t = true) (W : World) (hT : Hid (LoTab W)) {gm gf bc : Nat}
    (hgm : Hid (Ob W gm (exG (strOfNums m) gf 2) 42)) (hgf : Hid (Ob W gf (exR (strOfNums s) (strOfNums t)) 34)) (hc : Hid (W.cell? ⟨bc, 6, none⟩ = some (.bool false) ∧ bc < W.heap.size)) :
    Calls Tryz.prog 40 #[.pointer (some ⟨bc, 0, none⟩), .agg (exFile A gm)] W fun e w' => Below W.heap.size W w' ∧ e = .panicked [brk (strOfNums (njoin m t)) 9] := by
  have hmf : ∀ (fn : Fn) (first cap : Array Value) (w : World), (Instr.makeFunc fn first cap).run Tryz.prog w = .ok (.func fn first cap) w := fun _ _ _ _ => rfl
  obtain ⟨w1, hw1⟩ : ∃ w1, (W.alloc (.cells #[.pointer (some ⟨bc, 0, none⟩)] 155)).alloc (.cells (exFile A gm) 46) = w1 := ⟨_, rfl⟩
  have hb1 : Below W.heap.size W w1 := by rw [← hw1]; exact ((Below.refl _ _).alloc (Nat.le_refl _) _).alloc (by simp) _
  have p1 : Ob w1 W.heap.size #[.pointer (some ⟨bc, 0, none⟩)] 155 := by rw [← hw1]; exact (Ob.new _ _ _).alloc _
  have f1 : Ob w1 (W.heap.size + 1) (exFile A gm) 46 := by
    rw [← hw1]
    have := Ob.new (W.alloc (.cells #[.pointer (some ⟨bc, 0, none⟩)] 155)) (exFile A gm) 46
    rw [World.size_alloc] at this
    exact this
  have hs1 : w1.heap.size = W.heap.size + 1 + 1 := by rw [← hw1]; simp
  have HS1 : Hid _ := hs1
  obtain ⟨w2, hw2⟩ : ∃ w2, w1.alloc (.cells #[.func (.func 77) #[] #[.pointer (some ⟨W.heap.size, 0, none⟩), .pointer (some ⟨w1.heap.size, 0, none⟩)]] 156) = w2 := ⟨_, rfl⟩
  have hb2 : Below w1.heap.size w1 w2 := by rw [← hw2]; exact (Below.refl _ _).alloc (Nat.le_refl _) _
  have q2 : Ob w2 w1.heap.size #[.func (.func 77) #[] #[.pointer (some ⟨W.heap.size, 0, none⟩), .pointer (some ⟨w1.heap.size, 0, none⟩)]] 156 := by rw [← hw2]; exact Ob.new _ _ _
  have p2 := p1.below hb2 p1.lt
  have f2 : Ob w2 (W.heap.size + 1) (exFile A gm) 46 := f1.below hb2 f1.lt
  have hbw : Below W.heap.size W w2 := hb1.trans (hb2.mono hb1.size)
  have QM : Hid _ := ckMsgs2 m s t hmb hsb htb hml hsl htl hm hs ht w2 (show Hid _ from hT.out.below hbw (Nat.le_refl _)) (gm := gm) (gf := gf) (bc := bc) (hgm.out.below hbw hgm.out.lt) (show Hid _ from hgf.out.below hbw hgf.out.lt) (show Hid _ from ⟨(hbw.cell (p := ⟨bc, 6, none⟩) hc.out.2).trans hc.out.1, Nat.lt_of_lt_of_le hc.out.2 hbw.size⟩) p2 (show Hid _ from q2)
  rw [show strOfNums [] = (⟨#[]⟩ : ByteArray) from rfl] at QM
  have e5 : (w1.alloc (.cells #[.nilFunc] 156)).heap[w1.heap.size]? = some (.cells #[.nilFunc] 156 (0, 0)) := heap_alloc_new _ _
  obtain ⟨r1, r2, r3⟩ := ob1 (Ob.mk e5)
  obtain ⟨s1, _, sl⟩ := ob1 q2
  have HB2 : Hid (Below W.heap.size W w2) := hbw
  have P2 : Hid (Ob w2 W.heap.size #[.pointer (some ⟨bc, 0, none⟩)] 155) := p2
  have F2 : Hid (Ob w2 (W.heap.size + 1) (exFile A gm) 46) := f2
  have HW1 : Hid _ := hw1
  have HW2 : Hid _ := hw2
  generalize strOfNums (njoin m t) = N2 at *
  clear hw1 hb1 p1 f1 hw2 hb2 q2 p2 hbw e5 hgm hgf hc hT hs1 hm hs ht
  unfold exFile at HW1 f2 ⊢
  obtain ⟨⟨c0, c1, c2, c3, c4, c5, c6, c7, c8, c9, c10⟩, _, cl⟩ := ob11 f2
  clear f2
  go_enter Tryz.func40, Tryz.ntmps40
  go_upto_region 1 with fail
  rw [HW1.out]
  clear HW1
  go_upto_region 3 with fail
  rw [HW2.out]
  clear HW2 r1 r2 r3
  go_wp2_with fail
  refine Calls.mono QM.out ?_
  rintro e w3 ⟨hb3, rfl⟩
  exact ⟨rfl, HB2.out.trans (hb3.mono HB2.out.size), rfl⟩

end Go.Proofs.YtcnjjhdmnagkgaaGreatDoor
