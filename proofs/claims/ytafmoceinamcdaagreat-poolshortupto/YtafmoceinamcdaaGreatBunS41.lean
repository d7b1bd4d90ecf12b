/- Put together by a program out of these texts of mine: VLi, VLj. -/
import Derived.Test.YtafmoceinamcdaaGreatBunS40

namespace Go.Proofs.YtafmoceinamcdaaGreat
open Go.RowKit
set_option linter.unusedVariables false
set_option linter.unusedSimpArgs false

def ahead (z : List Int) : List Int := z.takeWhile (fun c => decide (c ≠ 46))

theorem ahead_le : ∀ z : List Int, (ahead z).length ≤ z.length
  | [] => by simp [ahead]
  | c :: z => by
    have ih := ahead_le z
    unfold ahead at *
    rw [List.takeWhile_cons]
    split <;> simp only [List.length_cons, List.length_nil] <;> omega

theorem ahead_take : ∀ z : List Int, z.take (ahead z).length = ahead z
  | [] => by simp [ahead]
  | c :: z => by
    have ih := ahead_take z
    unfold ahead at *
    rw [List.takeWhile_cons]
    split
    · rw [List.length_cons, List.take_succ_cons, ih]
    · simp

theorem idx_ahead : ∀ z : List Int, byts z → Lib.indexByte (z.map fun n => UInt8.ofNat n.toNat) 46 = if (ahead z).length < z.length then ((ahead z).length : Int) else -1
  | [], _ => by simp [Lib.indexByte, ahead]
  | c :: z, h => by
    have ih := idx_ahead z (fun x hx => h x (List.mem_cons_of_mem _ hx))
    have hc := h c (List.mem_cons_self ..)
    have hle := ahead_le z
    rw [List.map_cons]
    unfold Lib.indexByte
    by_cases e : c = 46
    · subst e
      simp [ahead]
    · have e1 : (UInt8.ofNat c.toNat == 46) = false := by
        rw [beq_eq_false_iff_ne]
        intro q
        exact e (u8_inj hc (by omega) (by rw [q]; rfl))
      have e2 : ahead (c :: z) = c :: ahead z := by
        unfold ahead
        rw [List.takeWhile_cons, if_pos (by simpa using e)]
      rw [e1, ih, e2]
      simp only [List.length_cons]
      generalize (ahead z).length = k at *
      generalize z.length = n at *
      by_cases hl : k < n
      · have hl2 : k + 1 < n + 1 := by omega
        have hne : ((k : Int) == -1) = false := by
          rw [beq_eq_false_iff_ne]
          omega
        simp only [hl, hl2, if_true, hne]
        simp
      · have hl2 : ¬ k + 1 < n + 1 := by omega
        simp only [hl, hl2, if_false]
        simp

set_option maxHeartbeats 1000000 in
theorem pindexX (z : List Int) (hz : byts z) (w : World) :
    Calls Tryz.prog 141 #[.string (strOfNums z), .string ⟨#[46]⟩] w fun e w' => e = .returned (.int .i64 (if (ahead z).length < z.length then ((ahead z).length : Int) else -1)) ∧ w = w' := by
  have hix : ∀ w, (Instr.index 9 (.string ⟨#[46]⟩) (.int .i64 0)).run Tryz.prog w = .ok (.int .u8 46) w := fun w => by kernel_rfl
  have q := Sh.stringslite_IndexByte (strOfNums z) 46 w
  have hl : (strOfNums z).data.toList = z.map fun n => UInt8.ofNat n.toNat := by rw [← nul_of]
  rw [hl, show ((46 : Int).toNat.toUInt8) = 46 from rfl, idx_ahead z hz] at q
  have Q : Hid _ := q
  by_cases he : (⟨#[46]⟩ : ByteArray) = strOfNums z
  · have hz46 : z = [46] := by
      have h1 : ((strOfNums z).toList == (strOfNums [46]).toList) = (z == [46]) := str_eq hz (by simp)
      rw [show strOfNums [46] = (⟨#[46]⟩ : ByteArray) from by kernel_rfl, ← he] at h1
      simpa using h1.symm
    have heq : (([46] : List UInt8) == (strOfNums z).toList) = true := by
      have : ((⟨#[46]⟩ : ByteArray).toList == (strOfNums z).toList) = true := by rw [tl_eq]; exact decide_eq_true he
      rw [l46] at this
      exact this
    have E : Hid ((if (ahead z).length < z.length then ((ahead z).length : Int) else -1) = 0) := by
      show _ = _
      rw [hz46]
      decide
    rw [E.out]
    clear he q Q hl hz46 E
    generalize strOfNums z = s at *
    go_enter Tryz.func141, Tryz.ntmps141
    go_wp2
    go_ret
    exact ⟨rfl, rfl⟩
  · have heq : (([46] : List UInt8) == (strOfNums z).toList) = false := by
      have : ((⟨#[46]⟩ : ByteArray).toList == (strOfNums z).toList) = false := by rw [tl_eq]; exact decide_eq_false he
      rw [l46] at this
      exact this
    clear he q hl
    generalize (if (ahead z).length < z.length then ((ahead z).length : Int) else -1) = I at *
    generalize strOfNums z = s at *
    go_enter Tryz.func141, Tryz.ntmps141
    go_wp2_with fail
    refine Calls.mono Q.out ?_
    rintro e w1 ⟨rfl, rfl⟩
    go_wp2
    go_ret
    exact ⟨rfl, rfl⟩

set_option maxHeartbeats 1000000 in
theorem pcut1X (z : List Int) (hz : byts z) (w : World) (hs : z.length ≤ 1000000) :
    Calls Tryz.prog 114 #[.string (strOfNums z), .string ⟨#[46]⟩] w fun e w' => ∃ B b, e = .returned (.tuple #[.string (strOfNums (ahead z)), .string B, .bool b]) ∧ Below w.heap.size w w' := by
  have q := pindexX z hz w
  by_cases hi : (ahead z).length < z.length
  · rw [if_pos hi] at q
    have Q : Hid _ := q
    have e1 := run_head z (ahead z).length (by omega) (by omega)
    have e2 := run_tail z ((ahead z).length + 1) (by omega) (((ahead z).length : Int) + 1) (by omega)
    rw [ahead_take] at e1
    have hsz := strOfNums_size z
    clear q
    generalize (ahead z).length = k at *
    generalize strOfNums (ahead z) = A at *
    generalize strOfNums (z.drop (k + 1)) = B at *
    generalize strOfNums z = s at *
    go_enter Tryz.func114, Tryz.ntmps114
    go_wp2_with fail
    refine Calls.mono Q.out ?_
    rintro e w1 ⟨rfl, rfl⟩
    clear Q
    have hmo : Tryz.prog.follows .mixedOrders = true := by kernel_rfl
    go_upto_region 3 with fail
    go_big_region_o
    have HBD : Hid (Below w.heap.size w w.drew) := (Below.refl _ _).drew
    generalize w.drew = w9 at *
    go_wp2
    go_ret3
    exact ⟨B, true, rfl, HBD.out⟩
  · rw [if_neg hi] at q
    have Q : Hid _ := q
    have hA : ahead z = z := by
      have h1 := ahead_take z
      rw [List.take_of_length_le (by omega)] at h1
      exact h1.symm
    rw [hA]
    clear q hi hA
    generalize strOfNums z = s at *
    go_enter Tryz.func114, Tryz.ntmps114
    go_wp2_with fail
    refine Calls.mono Q.out ?_
    rintro e w1 ⟨rfl, rfl⟩
    go_wp2
    go_ret3
    exact ⟨_, false, rfl, Below.refl _ _⟩

set_option maxHeartbeats 1000000 in
theorem pcutX (z : List Int) (hz : byts z) (w : World) (hs : z.length ≤ 1000000) :
    Calls Tryz.prog 65 #[.string (strOfNums z), .string ⟨#[46]⟩] w fun e w' => ∃ B b, e = .returned (.tuple #[.string (strOfNums (ahead z)), .string B, .bool b]) ∧ Below w.heap.size w w' := by
  have Q : Hid _ := pcut1X z hz w hs
  clear hs
  generalize strOfNums (ahead z) = A at *
  generalize strOfNums z = s at *
  go_enter Tryz.func65, Tryz.ntmps65
  go_wp2_with fail
  refine Calls.mono Q.out ?_
  rintro e w1 ⟨B, b, rfl, hb⟩
  have HB : Hid _ := hb
  clear Q hb
  go_wp2
  go_ret3
  exact ⟨B, b, rfl, HB.out⟩

def finds (h : Sy) (seen : List ByteArray) (kinds : List Int) (sc fl nm : List Int) : Bool := match (nplaces sc nm).find? (fz h seen kinds) with
  | some z => decide (strOfNums z = strOfNums fl)
  | none => false

def shortF (P : List Int → Bool) (fl : List Int) (m : Nat) : List Int :=
  if (!nkey (ahead (fl.drop (nlast (fl.take m) (fl.take m).length))) && P (fl.drop (nlast (fl.take m) (fl.take m).length))) = true then fl.drop (nlast (fl.take m) (fl.take m).length)
  else if hj : nlast (fl.take m) (fl.take m).length = 0 then 46 :: fl else shortF P fl (nlast (fl.take m) (fl.take m).length - 1)
termination_by m
decreasing_by
  have h1 := nlast_le (fl.take m) (fl.take m).length
  have h2 : (fl.take m).length ≤ m := by rw [List.length_take]; omega
  omega

def shortG (P : List Int → Bool) (fl : List Int) (j : Nat) : List Int :=
  if (!nkey (ahead (fl.drop j)) && P (fl.drop j)) = true then fl.drop j else if j = 0 then 46 :: fl else shortF P fl (j - 1)

theorem shortF_eq (P : List Int → Bool) (fl : List Int) (m : Nat) : shortF P fl m = shortG P fl (nlast (fl.take m) (fl.take m).length) := by
  rw [shortF]
  rfl

theorem shortF_next {P : List Int → Bool} {fl RS : List Int} {j : Nat} (h : RS = shortG P fl j) (hf : (!nkey (ahead (fl.drop j)) && P (fl.drop j)) = false) : ((j : Int) - 1 = -1 → RS = 46 :: fl) ∧ ∀ m : Nat, (j : Int) - 1 = (m : Int) → RS = shortF P fl m := by
  unfold shortG at h
  rw [hf] at h
  simp only [Bool.false_eq_true, if_false] at h
  refine ⟨fun e => ?_, fun m e => ?_⟩
  · rw [if_pos (show j = 0 by omega)] at h
    exact h
  · rw [if_neg (show ¬ j = 0 by omega)] at h
    rw [show m = j - 1 by omega]
    exact h

theorem shortF_here {P : List Int → Bool} {fl RS : List Int} {j : Nat} (h : RS = shortG P fl j) (hf : (!nkey (ahead (fl.drop j)) && P (fl.drop j)) = true) : RS = fl.drop j := by
  unfold shortG at h
  rw [if_pos hf] at h
  exact h

set_option maxRecDepth 20000 in
set_option maxHeartbeats 1000000 in
theorem pshortX {R : Option Addr → Prop} {W : World} {bp bs be : Nat} {vf : Value} {h : Sy} (hP : Hid (Px R W bp bs be vf h)) {ka : Option Addr} {kn kc : Nat} {kinds : List Int} {sa : Option Addr} {sn sc' : Nat} {seen : List ByteArray} (hk : Hid (Ns W ka kn kc kinds)) (hs : Hid (Sb W sa sn sc' seen)) (sc fl : List Int) (hsb : Hid (byts sc)) (hfb : Hid (byts fl)) (hsl : Hid (sc.length ≤ 5000)) (hfl : Hid (fl.length ≤ 3000)) :
    Calls Tryz.prog 31 #[.pointer (some ⟨bp, 0, none⟩), .string (strOfNums sc), .string (strOfNums fl), .slice sa sn sc', .slice ka kn kc] W fun e W' => e = .returned (.string (strOfNums (shortF (finds h seen kinds sc fl) fl fl.length))) ∧ Below W.heap.size W W' := by
  obtain ⟨RS, hRS⟩ : ∃ RS, RS = shortF (finds h seen kinds sc fl) fl fl.length := ⟨_, rfl⟩
  rw [← hRS]
  have HRS : Hid _ := hRS
  clear hRS
  have QL0 : Hid (∀ (nm : List Int), byts nm → nm.length ≤ 4000 → ∀ V, Below W.heap.size W V → Calls Tryz.prog 27 #[.pointer (some ⟨bp, 0, none⟩), .string (strOfNums sc), .string (strOfNums nm), .slice sa sn sc', .slice ka kn kc] V fun e W' => e = lookE ((nplaces sc nm).find? (fz h seen kinds)) ∧ Below V.heap.size V W') := fun nm hnb hnl V hV =>
    plook (show Hid _ from hP.out.below hV (Nat.le_refl _)) (show Hid _ from hk.out.below hV) (show Hid _ from hs.out.below hV) sc nm hsb hnb hsl.out hnl
  clear hP hk hs hsl
  have hsz := strOfNums_size fl
  have h3 : ∀ W, (Op.stringOp .add { data := #[46] } (strOfNums fl)).run Tryz.prog W = .ok (.string (strOfNums ([46] ++ fl))) W := fun W => by
    have := run_add W [46] fl (by have := hfl.out; simp; omega)
    rw [show strOfNums [46] = (⟨#[46]⟩ : ByteArray) from by kernel_rfl] at this
    exact this
  have HF : Hid (∀ (m : Nat), m ≤ fl.length → ∀ W, (Instr.slice 9 (.string (strOfNums fl)) none (some (.int .i64 (m : Int))) none).run Tryz.prog W = .ok (.string (strOfNums (fl.take m))) W) := fun m hm W => run_head fl m hm (by have := hfl.out; omega) W
  have HT : Hid (∀ (m : Nat), m ≤ fl.length → ∀ W, (Instr.slice 9 (.string (strOfNums fl)) (some (.int .i64 (m : Int))) none none).run Tryz.prog W = .ok (.string (strOfNums (fl.drop m))) W) := fun m hm W => run_tail fl m hm _ (by omega) W
  have HEQ : Hid (∀ z : List Int, ((strOfNums z).toList == (strOfNums fl).toList) = true → strOfNums z = strOfNums fl) := fun z e => by rw [tl_eq] at e; exact of_decide_eq_true e
  obtain ⟨S0, hS0⟩ : ∃ S0, S0 = strOfNums sc := ⟨_, rfl⟩
  rw [← hS0] at QL0 ⊢
  obtain ⟨FL, hFL⟩ : ∃ FL, FL = strOfNums fl := ⟨_, rfl⟩
  rw [← hFL] at HF HT HEQ h3 hsz ⊢
  have HFL : Hid _ := hFL
  clear hS0 hFL
  go_enter Tryz.func31, Tryz.ntmps31
  have hsz' : (FL.size : Int) = (fl.length : Int) := by omega
  go_wp2
  go_loopw [11] (fun v wr => ∃ k : Int, v = .int .i64 k ∧ -1 ≤ k ∧ k ≤ (fl.length : Int) ∧ Hid ((k = -1 → RS = 46 :: fl) ∧ ∀ m : Nat, k = (m : Int) → RS = shortF (finds h seen kinds sc fl) fl m) ∧ Hid (Below W.heap.size W wr)) (fun v _ => (intOf v + 1).toNat)
  case atStart =>
    have h0 : ((fl.length : Int) = -1 → RS = 46 :: fl) ∧ ∀ m : Nat, (fl.length : Int) = (m : Int) → RS = shortF (finds h seen kinds sc fl) fl m := by
      refine ⟨fun e => absurd e (by omega), fun m e => ?_⟩
      rw [show m = fl.length by omega]
      exact HRS.out
    exact ⟨(fl.length : Int), by first | rfl | (rw [hsz']), by omega, by omega, h0, Below.refl _ _⟩
  case round =>
    obtain ⟨k, rfl, hk1, hk2, HSF, HB⟩ := hrel
    have hf3 := hfl.out
    by_cases hk0 : 0 ≤ k
    · obtain ⟨m, rfl⟩ : ∃ m : Nat, k = (m : Int) := ⟨k.toNat, by omega⟩
      have e1 := HF.out m (by omega)
      have hsf := HSF.out.2 m rfl
      rw [shortF_eq] at hsf
      have hbt : byts (fl.take m) := fun x hx => hfb.out x (List.mem_of_mem_take hx)
      have Q1 : Hid _ := plastidx (fl.take m) hbt (by rw [List.length_take]; omega)
      have hnl := nlast_le (fl.take m) (fl.take m).length
      have hjm : nlast (fl.take m) (fl.take m).length ≤ m := Nat.le_trans hnl (by rw [List.length_take]; omega)
      clear hnl
      generalize nlast (fl.take m) (fl.take m).length = j at *
      have HSG : Hid _ := hsf
      clear hsf HSF
      have e2 := HT.out j (by omega)
      have hj1 : (j : Int) - 1 + 1 = (j : Int) := by omega
      have hbd : byts (fl.drop j) := fun x hx => hfb.out x (List.mem_of_mem_drop hx)
      have Q2 : Hid _ := fun V => pcutX (fl.drop j) hbd V (by rw [List.length_drop]; omega)
      have QL : Hid _ := QL0.out (fl.drop j) hbd (by rw [List.length_drop]; omega)
      have QC : Hid _ := fun V => pnclone_any (strOfNums (fl.drop j)) V (by rw [strOfNums_size, List.length_drop]; omega)
      have HXS : Hid ((strOfNums (fl.drop j)).size ≤ 3000) := by show _ ≤ _; rw [strOfNums_size, List.length_drop]; omega
      have HBD : Hid (byts (fl.drop j) ∧ (fl.drop j).length ≤ 3000) := ⟨hbd, by rw [List.length_drop]; omega⟩
      obtain ⟨X, hX⟩ : ∃ X, X = strOfNums (fl.drop j) := ⟨_, rfl⟩
      rw [← hX] at e2 Q2 QL QC HXS
      have HX : Hid _ := hX
      generalize strOfNums (fl.take m) = PM at *
      clear hbt hbd hX
      go_wp2_with fail
      refine Calls.mono (Q1.out _) ?_
      rintro e w1 ⟨rfl, rfl⟩
      clear Q1 e1
      go_wp2_with fail
      refine Calls.mono (Q2.out _) ?_
      rintro e w2 ⟨B, b, rfl, hb2⟩
      have HB2 : Hid (Below W.heap.size W w2) := HB.out.trans (hb2.mono HB.out.size)
      have QK : Hid _ := pkey_any (ahead (fl.drop j)) w2 (show Hid (NTab w2) from trivial) (show Hid _ from byts_get (fun x hx => HBD.out.1 x (by rw [← ahead_take] at hx; exact List.mem_of_mem_take hx))) (by have := ahead_le (fl.drop j); have := HBD.out.2; omega)
      obtain ⟨B1, hB1⟩ : ∃ B1, B1 = nkey (ahead (fl.drop j)) := ⟨_, rfl⟩
      rw [← hB1] at QK
      have HK1 : Hid _ := hB1
      generalize strOfNums (ahead (fl.drop j)) = A at *
      clear hb2 Q2 e2 hB1
      go_wp2_with fail
      refine Calls.mono QK.out ?_
      rintro e w3 ⟨rfl, hb3⟩
      have HB3 : Hid (Below W.heap.size W w3) := HB2.out.trans (hb3.mono HB2.out.size)
      clear hb3 QK
      cases B1
      · obtain ⟨RES, hRES⟩ : ∃ RES, RES = (nplaces sc (fl.drop j)).find? (fz h seen kinds) := ⟨_, rfl⟩
        rw [← hRES] at QL
        cases RES with
        | none =>
          have Q3 : Hid (Calls Tryz.prog 27 #[.pointer (some ⟨bp, 0, none⟩), .string S0, .string X, .slice sa sn sc', .slice ka kn kc] w3 fun e W' => e = .returned (.tuple #[.string ⟨#[]⟩, .bool false]) ∧ Below w3.heap.size w3 W') := QL.out w3 HB3.out
          have HNX : Hid (((j : Int) - 1 = -1 → RS = 46 :: fl) ∧ ∀ m : Nat, (j : Int) - 1 = (m : Int) → RS = shortF (finds h seen kinds sc fl) fl m) := shortF_next HSG.out (by rw [show finds h seen kinds sc fl (fl.drop j) = false from by unfold finds; rw [← hRES]]; exact Bool.and_false _)
          clear QL hRES HSG HK1
          go_wp2_with fail
          refine Calls.mono Q3.out ?_
          rintro e w4 ⟨rfl, hb4⟩
          have HB4 : Hid (Below W.heap.size W w4) := HB3.out.trans (hb4.mono HB3.out.size)
          clear hb4 Q3
          go_wp2
          go_roundw
          case rel => first | exact ⟨(j : Int) - 1, by first | rfl | go_num, by omega, by omega, HNX, HB4⟩ | ((repeat apply Exists.intro); exact ⟨⟨(j : Int) - 1, by first | rfl | go_num, by omega, by omega, HNX, HB4⟩, rfl⟩)
          case measure => simp [intOf]; omega
        | some z =>
          have Q3 : Hid (Calls Tryz.prog 27 #[.pointer (some ⟨bp, 0, none⟩), .string S0, .string X, .slice sa sn sc', .slice ka kn kc] w3 fun e W' => e = .returned (.tuple #[.string (strOfNums z), .bool true]) ∧ Below w3.heap.size w3 W') := QL.out w3 HB3.out
          have HRES : Hid _ := hRES
          cases hq : ((strOfNums z).toList == FL.toList) with
          | true =>
            have hzf : strOfNums z = strOfNums fl := (of_decide_eq_true (by rw [← tl_eq]; exact hq) : strOfNums z = FL).trans HFL.out
            have HE : Hid (RS = fl.drop j) := shortF_here HSG.out (by rw [← HK1.out, show finds h seen kinds sc fl (fl.drop j) = true from by unfold finds; rw [← hRES]; exact decide_eq_true hzf]; rfl)
            clear QL hRES HRES hzf HEQ HSG HK1
            generalize strOfNums z = Z at Q3 hq
            go_wp2_with fail
            refine Calls.mono Q3.out ?_
            rintro e w4 ⟨rfl, hb4⟩
            have HB4 : Hid (Below W.heap.size W w4) := HB3.out.trans (hb4.mono HB3.out.size)
            clear hb4 Q3
            go_wp2_with fail
            refine Calls.mono (QC.out _) ?_
            rintro e w5 ⟨rfl, hb5⟩
            have HB5 : Hid (Below W.heap.size W w5) := HB4.out.trans (hb5.mono HB4.out.size)
            clear hb5 QC
            go_wp2
            go_ret
            exact ⟨by rw [HE.out, ← HX.out]; rfl, HB5.out⟩
          | false =>
            have HNX : Hid (((j : Int) - 1 = -1 → RS = 46 :: fl) ∧ ∀ m : Nat, (j : Int) - 1 = (m : Int) → RS = shortF (finds h seen kinds sc fl) fl m) := shortF_next HSG.out (by rw [show finds h seen kinds sc fl (fl.drop j) = false from by unfold finds; rw [← hRES]; rw [tl_eq, HFL.out] at hq; exact hq]; exact Bool.and_false _)
            clear QL hRES HRES HSG HK1
            generalize strOfNums z = Z at Q3 hq
            go_wp2_with fail
            refine Calls.mono Q3.out ?_
            rintro e w4 ⟨rfl, hb4⟩
            have HB4 : Hid (Below W.heap.size W w4) := HB3.out.trans (hb4.mono HB3.out.size)
            clear hb4 Q3
            go_wp2
            go_roundw
            case rel => first | exact ⟨(j : Int) - 1, by first | rfl | go_num, by omega, by omega, HNX, HB4⟩ | ((repeat apply Exists.intro); exact ⟨⟨(j : Int) - 1, by first | rfl | go_num, by omega, by omega, HNX, HB4⟩, rfl⟩)
            case measure => simp [intOf]; omega
      · have HNX : Hid (((j : Int) - 1 = -1 → RS = 46 :: fl) ∧ ∀ m : Nat, (j : Int) - 1 = (m : Int) → RS = shortF (finds h seen kinds sc fl) fl m) := shortF_next HSG.out (by rw [← HK1.out]; rfl)
        clear QL HSG HK1
        go_wp2
        go_roundw
        case rel => first | exact ⟨(j : Int) - 1, by first | rfl | go_num, by omega, by omega, HNX, HB3⟩ | ((repeat apply Exists.intro); exact ⟨⟨(j : Int) - 1, by first | rfl | go_num, by omega, by omega, HNX, HB3⟩, rfl⟩)
        case measure => simp [intOf]; omega
    · obtain rfl : k = -1 := by omega
      have HE : Hid (RS = [46] ++ fl) := HSF.out.1 rfl
      obtain ⟨T, hT⟩ : ∃ T, T = strOfNums ([46] ++ fl) := ⟨_, rfl⟩
      rw [← hT] at h3
      have HTT : Hid _ := hT
      clear hT HSF
      go_wp2
      go_ret
      exact ⟨by rw [HE.out, ← HTT.out]; rfl, HB.out⟩

end Go.Proofs.YtafmoceinamcdaaGreat
