/- Put together by a program out of these texts of mine: VLm. -/
import Derived.Test.YtafmoceinamcdaaGreatBunS2
import Derived.Test.YtafmoceinamcdaaGreatBunS42

namespace Go.Proofs.YtafmoceinamcdaaGreat
open Go.RowKit
set_option linter.unusedVariables false
set_option linter.unusedSimpArgs false

theorem take_rev (PL : List (List Int)) (k : Nat) (p : List Int) (h : PL[k]? = some p) : (PL.take (k + 1)).reverse = p :: (PL.take k).reverse := by
  rw [List.take_add_one, h]
  simp

theorem lookE_finds {h : Sy} {seen : List ByteArray} {kinds : List Int} {sc fl nm : List Int} : ∃ X b, lookE ((nplaces sc nm).find? (fz h seen kinds)) = .returned (.tuple #[.string X, .bool b]) ∧ (b && (X.toList == (strOfNums fl).toList)) = finds h seen kinds sc fl nm := by
  unfold finds
  cases (nplaces sc nm).find? (fz h seen kinds) with
  | none => exact ⟨⟨#[]⟩, false, rfl, rfl⟩
  | some z => exact ⟨strOfNums z, true, rfl, by rw [tl_eq]; rfl⟩

theorem shortR_next {P : List Int → Bool} {fl RS p : List Int} {PL : List (List Int)} {m : Nat} {o : Option (List Int)} (hp : PL[m]? = some p) (h : RS = shortR P fl (PL.take (m + 1)).reverse o) (hf : (!nkey p && P (p ++ tailO o)) = false) : RS = shortR P fl (PL.take m).reverse (some (p ++ tailO o)) := by
  rw [take_rev PL m p hp, shortR_cons, hf] at h
  exact h

theorem shortR_here {P : List Int → Bool} {fl RS p : List Int} {PL : List (List Int)} {m : Nat} {o : Option (List Int)} (hp : PL[m]? = some p) (h : RS = shortR P fl (PL.take (m + 1)).reverse o) (hf : (!nkey p && P (p ++ tailO o)) = true) : RS = p ++ tailO o := by
  rw [take_rev PL m p hp, shortR_cons, hf] at h
  exact h

theorem Jn_next {fl p : List Int} {PL : List (List Int)} {m : Nat} {o : Option (List Int)} (hp : PL[m]? = some p) (hm : 0 < m) (h : fl = Jn (PL.take (m + 1)) ++ tailO o) : fl = Jn (PL.take m) ++ tailO (some (p ++ tailO o)) := by
  have hl := (List.getElem?_eq_some_iff.1 hp).1
  rw [List.take_add_one, hp, Option.toList_some, Jn_append _ _ (by intro e; have h1 := congrArg List.length e; rw [List.length_take] at h1; simp only [List.length_nil] at h1; omega)] at h
  rw [h]
  simp [tailO]

theorem Jn_len {fl p : List Int} {PL : List (List Int)} {m : Nat} {o : Option (List Int)} (hp : PL[m]? = some p) (h : fl = Jn (PL.take (m + 1)) ++ tailO o) : (p ++ tailO o).length ≤ fl.length := by
  by_cases hm : 0 < m
  · rw [Jn_next hp hm h]
    simp [tailO]
    omega
  · obtain rfl : m = 0 := by omega
    rw [List.take_add_one, hp] at h
    rw [h]
    simp [Jn]

set_option maxRecDepth 100000 in
set_option maxHeartbeats 1000000 in
theorem rshort {W : World} {B0 gp : Nat} {fv : Value} {hm : ByteArray} {L : Sl} (hP : Hid (Rp W B0 gp fv hm (L, none))) (hL : L.length ≤ 1048576) {ka : Option Addr} {kn kc : Nat} {kinds : List Int} {sa : Option Addr} {sn sc' : Nat} {seen : List ByteArray} (hk : Hid (Ns W ka kn kc kinds)) (hs : Hid (Sb W sa sn sc' seen)) (sc fl : List Int) (hsb : Hid (byts sc)) (hfb : Hid (byts fl)) (hsl : Hid (sc.length ≤ 5000)) (hfl : Hid (fl.length ≤ 3000)) :
    Calls Tryz.prog 32 #[.pointer (some ⟨gp, 0, none⟩), .string (strOfNums sc), .string (strOfNums fl), .slice sa sn sc', .slice ka kn kc] W fun e W' => e = .returned (.string (strOfNums (shortR (finds (slook L) seen kinds sc fl) fl (nparts fl).reverse none))) ∧ Below W.heap.size W W' := by
  obtain ⟨RS, hRS⟩ : ∃ RS, RS = shortR (finds (slook L) seen kinds sc fl) fl (nparts fl).reverse none := ⟨_, rfl⟩
  rw [← hRS]
  obtain ⟨PL, hPL⟩ : ∃ PL, PL = nparts fl := ⟨_, rfl⟩
  rw [← hPL] at hRS
  have HRS : Hid _ := hRS
  have HJ : Hid (fl = Jn PL) := by show _ = _; rw [hPL]; unfold nparts; rw [nsp_join9]; rfl
  have QP : Hid _ := rparts_any fl W (show Hid _ from byts_get hfb.out) (by have := hfl.out; omega)
  rw [← hPL] at QP
  have QL0 : Hid (∀ (nm : List Int), byts nm → nm.length ≤ 4000 → ∀ V, Below W.heap.size W V → Calls Tryz.prog 28 #[.pointer (some ⟨gp, 0, none⟩), .string (strOfNums sc), .string (strOfNums nm), .slice sa sn sc', .slice ka kn kc] V fun e W' => e = lookE ((nplaces sc nm).find? (fz (slook L) seen kinds)) ∧ Below V.heap.size V W') := fun nm hnb hnl V hV =>
    rlook (show Hid _ from hP.out.below hV) hL (show Hid _ from hk.out.below hV) (show Hid _ from hs.out.below hV) sc nm hsb hnb hsl.out hnl
  have h3 : ∀ W, (Op.stringOp .add { data := #[46] } (strOfNums fl)).run Tryz.prog W = .ok (.string (strOfNums ([46] ++ fl))) W := fun W => by
    have := run_add W [46] fl (by have := hfl.out; simp; omega)
    rw [show strOfNums [46] = (⟨#[46]⟩ : ByteArray) from by kernel_rfl] at this
    exact this
  have HFE : Hid (∀ nm, ∃ X b, lookE ((nplaces sc nm).find? (fz (slook L) seen kinds)) = .returned (.tuple #[.string X, .bool b]) ∧ (b && (X.toList == (strOfNums fl).toList)) = finds (slook L) seen kinds sc fl nm) := fun nm => lookE_finds
  clear hP hk hs hsl hL hRS hPL
  obtain ⟨S0, hS0⟩ : ∃ S0, S0 = strOfNums sc := ⟨_, rfl⟩
  rw [← hS0] at QL0 ⊢
  obtain ⟨FL, hFL⟩ : ∃ FL, FL = strOfNums fl := ⟨_, rfl⟩
  rw [← hFL] at QP h3 HFE ⊢
  clear hS0 hFL
  go_enter Tryz.func32, Tryz.ntmps32
  go_wp2_with fail
  refine Calls.mono QP.out ?_
  rintro e w1 ⟨v, rfl, hso, hb1⟩
  obtain ⟨a, c, rfl⟩ := hso.slice
  have HSS : Hid (Ss w1 a PL.length c PL) := Ss.of_own hso
  have HB1 : Hid (Below W.heap.size W w1) := hb1
  have h63 := HSS.out.2.1
  clear hso hb1 QP
  go_wp2
  go_loopw [12, 13] (fun s v wr => ∃ (k : Int) (o : Option (List Int)), s = .string (strOfNums (o.getD [])) ∧ v = .int .i64 k ∧ -1 ≤ k ∧ k < (PL.length : Int) ∧ Hid (∀ m : Nat, k + 1 = (m : Int) → RS = shortR (finds (slook L) seen kinds sc fl) fl (PL.take m).reverse o ∧ (0 < m → fl = Jn (PL.take m) ++ tailO o) ∧ ((k + 1 = (PL.length : Int)) ↔ o = none)) ∧ Hid (byts (o.getD []) ∧ (o.getD []).length ≤ 3000) ∧ Hid (Below w1.heap.size w1 wr)) (fun _ v _ => (intOf v + 1).toNat)
  case atStart =>
    refine ⟨(PL.length : Int) - 1, none, by rw [← s09]; rfl, rfl, by omega, by omega, fun m hm => ?_, ⟨by show byts []; unfold byts; simp, by simp⟩, Below.refl _ _⟩
    obtain rfl : m = PL.length := by omega
    refine ⟨by rw [List.take_length]; exact HRS.out, fun _ => by rw [List.take_length]; simpa [tailO] using HJ.out, ⟨fun _ => rfl, fun _ => by omega⟩⟩
  case round =>
    obtain ⟨k, o, rfl, rfl, hk1, hk2, HI0, HO, HB⟩ := hrel
    by_cases hk0 : 0 ≤ k
    · obtain ⟨m, rfl⟩ : ∃ m : Nat, k = (m : Int) := ⟨k.toNat, by omega⟩
      have hml : m < PL.length := by omega
      obtain ⟨p, hp⟩ : ∃ p, PL[m]? = some p := ⟨PL[m], List.getElem?_eq_getElem hml⟩
      have HP : Hid _ := hp
      obtain ⟨i1, i2, i3⟩ := HI0.out (m + 1) (by omega)
      have HI : Hid _ := And.intro i1 (And.intro (i2 (by omega)) i3)
      obtain ⟨b, off, ha, hltS, hc⟩ := HSS.out.2.2.2.2.2 (by omega)
      subst ha
      have hcell1 := hc m p hp
      unfold scell at hcell1
      have hcell := hcell1
      have hpb : byts p := HSS.out.2.2.2.2.1 p (List.mem_of_getElem? hp)
      have hnl := Jn_len hp (i2 (by omega))
      have hf3 := hfl.out
      have hcell := (HB.out.cell (p := ⟨b, off + m, none⟩) hltS).trans hcell1
      have hlt := Nat.lt_of_lt_of_le hltS HB.out.size
      clear hcell1 hc i1 i2 hltS
      by_cases hlast : m + 1 = PL.length
      · obtain rfl : o = none := i3.1 (by omega)
        have hd : ((m : Int) == (PL.length : Int) - 1) = true := by rw [beq_iff_eq]; omega
        obtain ⟨nm, hnm⟩ : ∃ nm, nm = p ++ tailO none := ⟨_, rfl⟩
        have HNMO : Hid _ := hnm
        have hnp : nm = p := by rw [hnm]; simp [tailO]
        have hnb : byts nm := by rw [hnp]; exact hpb
        rw [← hnm] at hnl
        obtain ⟨XN, hPX⟩ : ∃ XN, XN = strOfNums p := ⟨_, rfl⟩
        have hXN : XN = strOfNums nm := by rw [hnp]; exact hPX
        rw [← hPX] at hcell
        clear hnm hnp i3 hlast
        obtain ⟨X, bb, hle, hfin⟩ := HFE.out nm
        have QL := QL0.out nm hnb (by omega) wr (HB1.out.trans (HB.out.mono HB1.out.size))
        rw [hle] at QL
        have QL : Hid _ := QL
        rw [← hXN] at QL
        have QK : Hid _ := fun V => rkey_any p V (show Hid _ from hpb)
        rw [← hPX] at QK
        obtain ⟨B1, hB1⟩ : ∃ B1, B1 = nkey p := ⟨_, rfl⟩
        rw [← hB1] at QK
        have HK1 : Hid _ := hB1
        have HNM : Hid (XN = strOfNums nm ∧ byts nm ∧ nm.length ≤ 3000) := ⟨hXN, hnb, by omega⟩
        have HFIN : Hid _ := hfin
        have HLT : Hid (m < PL.length) := hml
        clear hle hfin hB1 hXN hnb hpb hPX hp
        go_wp2_with fail
        refine Calls.mono QL.out ?_
        rintro e w2 ⟨rfl, hb2⟩
        have HB2 : Hid (Below w1.heap.size w1 w2) := HB.out.trans (hb2.mono HB.out.size)
        have hcell2 := (hb2.cell (p := ⟨b, off + m, none⟩) hlt).trans hcell
        have hlt2 := Nat.lt_of_lt_of_le hlt hb2.size
        clear hb2 QL hcell hlt
        have HGO : Hid ((!nkey p && finds (slook L) seen kinds sc fl nm) = false → ∃ (k : Int) (o : Option (List Int)), (Value.string XN) = .string (strOfNums (o.getD [])) ∧ (Value.int .i64 ((m : Int) - 1)) = .int .i64 k ∧ -1 ≤ k ∧ k < (PL.length : Int) ∧ Hid (∀ m : Nat, k + 1 = (m : Int) → RS = shortR (finds (slook L) seen kinds sc fl) fl (PL.take m).reverse o ∧ (0 < m → fl = Jn (PL.take m) ++ tailO o) ∧ ((k + 1 = (PL.length : Int)) ↔ o = none)) ∧ Hid (byts (o.getD []) ∧ (o.getD []).length ≤ 3000)) := fun hf => by
          have hml := HLT.out
          refine ⟨(m : Int) - 1, some nm, by rw [HNM.out.1]; rfl, rfl, by omega, by omega, fun m2 hm2 => ?_, HNM.out.2⟩
          obtain rfl : m2 = m := by omega
          refine ⟨by rw [HNMO.out] at hf ⊢; exact shortR_next HP.out HI.out.1 hf, fun h0 => by rw [HNMO.out]; exact Jn_next HP.out h0 HI.out.2.1, ⟨fun e => absurd e (by omega), fun e => by cases e⟩⟩
        cases bb with
        | false =>
          have HGO2 : Hid _ := HGO.out (by rw [← HFIN.out]; simp)
          clear HGO
          go_wp2
          go_roundw
          case rel =>
            obtain ⟨k, o, q1, q2, q3, q4, q5, q6⟩ := HGO2.out
            exact ⟨k, o, q1, q2, q3, q4, q5, q6, HB2⟩
          case measure => simp [intOf]
        | true =>
          cases hq : (X.toList == FL.toList) with
          | false =>
            have HGO2 : Hid _ := HGO.out (by rw [← HFIN.out, hq]; simp)
            clear HGO
            go_wp2
            go_roundw
            case rel =>
              obtain ⟨k, o, q1, q2, q3, q4, q5, q6⟩ := HGO2.out
              exact ⟨k, o, q1, q2, q3, q4, q5, q6, HB2⟩
            case measure => simp [intOf]
          | true =>
            go_wp2_with fail
            refine Calls.mono (QK.out _) ?_
            rintro e w3 ⟨rfl, hb3⟩
            have HB3 : Hid (Below w1.heap.size w1 w3) := HB2.out.trans (hb3.mono HB2.out.size)
            clear hb3 QK
            cases B1
            · have HE : Hid (RS = nm) := by
                show _ = _
                rw [HNMO.out]
                exact shortR_here HP.out HI.out.1 (by rw [← HK1.out, ← HNMO.out, ← HFIN.out, hq]; rfl)
              clear HGO
              go_wp2
              go_ret
              exact ⟨by rw [HE.out, ← HNM.out.1]; rfl, HB1.out.trans (HB3.out.mono HB1.out.size)⟩
            · have HGO2 : Hid _ := HGO.out (by rw [← HK1.out]; rfl)
              clear HGO
              go_wp2
              go_roundw
              case rel =>
                obtain ⟨k, o, q1, q2, q3, q4, q5, q6⟩ := HGO2.out
                exact ⟨k, o, q1, q2, q3, q4, q5, q6, HB3⟩
              case measure => simp [intOf]
      · have hd : ((m : Int) == (PL.length : Int) - 1) = false := by rw [beq_eq_false_iff_ne]; omega
        cases o with
        | none => exact absurd (i3.2 rfl) (by omega)
        | some t =>
          obtain ⟨nm, hnm⟩ : ∃ nm, nm = p ++ tailO (some t) := ⟨_, rfl⟩
          have HNMO : Hid _ := hnm
          have hbt : byts t := HO.out.1
          have hnb : byts nm := by
            rw [hnm]
            intro x hx
            rcases List.mem_append.1 hx with hx | hx
            · exact hpb x hx
            · rcases List.mem_cons.1 hx with rfl | hx
              · omega
              · exact hbt x hx
          rw [← hnm] at hnl
          have hpl : p.length + t.length ≤ 3000 := by
            have : nm.length = p.length + (t.length + 1) := by rw [hnm]; simp [tailO]
            omega
          have h1 : ∀ W, (Op.stringOp .add (strOfNums p) { data := #[46] }).run Tryz.prog W = .ok (.string (strOfNums (p ++ [46]))) W := fun W => run_add W p [46] (by simp; omega)
          have h2 : ∀ W, (Op.stringOp .add (strOfNums (p ++ [46])) (strOfNums t)).run Tryz.prog W = .ok (.string (strOfNums (p ++ [46] ++ t))) W := fun W => run_add W (p ++ [46]) t (by simp; omega)
          have hn2 : p ++ [46] ++ t = nm := by rw [hnm]; simp [tailO]
          rw [hn2] at h2
          obtain ⟨PX, hPX⟩ : ∃ PX, PX = strOfNums p := ⟨_, rfl⟩
          obtain ⟨XN, hXN⟩ : ∃ XN, XN = strOfNums nm := ⟨_, rfl⟩
          rw [← hPX] at hcell h1
          rw [← hXN] at h2
          simp only [Option.getD_some]
          obtain ⟨TX, hTX⟩ : ∃ TX, TX = strOfNums t := ⟨_, rfl⟩
          rw [← hTX] at h2 ⊢
          generalize strOfNums (p ++ [46]) = PD at h1 h2
          clear hnm i3 hlast hn2 hTX
          obtain ⟨X, bb, hle, hfin⟩ := HFE.out nm
          have QL := QL0.out nm hnb (by omega) wr (HB1.out.trans (HB.out.mono HB1.out.size))
          rw [hle] at QL
          have QL : Hid _ := QL
          rw [← hXN] at QL
          have QK : Hid _ := fun V => rkey_any p V (show Hid _ from hpb)
          rw [← hPX] at QK
          obtain ⟨B1, hB1⟩ : ∃ B1, B1 = nkey p := ⟨_, rfl⟩
          rw [← hB1] at QK
          have HK1 : Hid _ := hB1
          have HNM : Hid (XN = strOfNums nm ∧ byts nm ∧ nm.length ≤ 3000) := ⟨hXN, hnb, by omega⟩
          have HFIN : Hid _ := hfin
          have HLT : Hid (m < PL.length) := hml
          clear hle hfin hB1 hXN hnb hpb hPX hp
          go_wp2_with fail
          refine Calls.mono QL.out ?_
          rintro e w2 ⟨rfl, hb2⟩
          have HB2 : Hid (Below w1.heap.size w1 w2) := HB.out.trans (hb2.mono HB.out.size)
          have hcell2 := (hb2.cell (p := ⟨b, off + m, none⟩) hlt).trans hcell
          have hlt2 := Nat.lt_of_lt_of_le hlt hb2.size
          clear hb2 QL hcell hlt
          have HGO : Hid ((!nkey p && finds (slook L) seen kinds sc fl nm) = false → ∃ (k : Int) (o : Option (List Int)), (Value.string XN) = .string (strOfNums (o.getD [])) ∧ (Value.int .i64 ((m : Int) - 1)) = .int .i64 k ∧ -1 ≤ k ∧ k < (PL.length : Int) ∧ Hid (∀ m : Nat, k + 1 = (m : Int) → RS = shortR (finds (slook L) seen kinds sc fl) fl (PL.take m).reverse o ∧ (0 < m → fl = Jn (PL.take m) ++ tailO o) ∧ ((k + 1 = (PL.length : Int)) ↔ o = none)) ∧ Hid (byts (o.getD []) ∧ (o.getD []).length ≤ 3000)) := fun hf => by
            have hml := HLT.out
            refine ⟨(m : Int) - 1, some nm, by rw [HNM.out.1]; rfl, rfl, by omega, by omega, fun m2 hm2 => ?_, HNM.out.2⟩
            obtain rfl : m2 = m := by omega
            refine ⟨by rw [HNMO.out] at hf ⊢; exact shortR_next HP.out HI.out.1 hf, fun h0 => by rw [HNMO.out]; exact Jn_next HP.out h0 HI.out.2.1, ⟨fun e => absurd e (by omega), fun e => by cases e⟩⟩
          cases bb with
          | false =>
            have HGO2 : Hid _ := HGO.out (by rw [← HFIN.out]; simp)
            clear HGO
            go_wp2
            go_roundw
            case rel =>
              obtain ⟨k, o, q1, q2, q3, q4, q5, q6⟩ := HGO2.out
              exact ⟨k, o, q1, q2, q3, q4, q5, q6, HB2⟩
            case measure => simp [intOf]
          | true =>
            cases hq : (X.toList == FL.toList) with
            | false =>
              have HGO2 : Hid _ := HGO.out (by rw [← HFIN.out, hq]; simp)
              clear HGO
              go_wp2
              go_roundw
              case rel =>
                obtain ⟨k, o, q1, q2, q3, q4, q5, q6⟩ := HGO2.out
                exact ⟨k, o, q1, q2, q3, q4, q5, q6, HB2⟩
              case measure => simp [intOf]
            | true =>
              go_wp2_with fail
              refine Calls.mono (QK.out _) ?_
              rintro e w3 ⟨rfl, hb3⟩
              have HB3 : Hid (Below w1.heap.size w1 w3) := HB2.out.trans (hb3.mono HB2.out.size)
              clear hb3 QK
              cases B1
              · have HE : Hid (RS = nm) := by
                  show _ = _
                  rw [HNMO.out]
                  exact shortR_here HP.out HI.out.1 (by rw [← HK1.out, ← HNMO.out, ← HFIN.out, hq]; rfl)
                clear HGO
                go_wp2
                go_ret
                exact ⟨by rw [HE.out, ← HNM.out.1]; rfl, HB1.out.trans (HB3.out.mono HB1.out.size)⟩
              · have HGO2 : Hid _ := HGO.out (by rw [← HK1.out]; rfl)
                clear HGO
                go_wp2
                go_roundw
                case rel =>
                  obtain ⟨k, o, q1, q2, q3, q4, q5, q6⟩ := HGO2.out
                  exact ⟨k, o, q1, q2, q3, q4, q5, q6, HB3⟩
                case measure => simp [intOf]
    · obtain rfl : k = -1 := by omega
      have HE : Hid (RS = [46] ++ fl) := (HI0.out 0 rfl).1
      obtain ⟨T, hT⟩ : ∃ T, T = strOfNums ([46] ++ fl) := ⟨_, rfl⟩
      rw [← hT] at h3
      have HTT : Hid _ := hT
      clear hT HI0
      generalize strOfNums (o.getD []) = SO at *
      go_wp2
      go_ret
      exact ⟨by rw [HE.out, ← HTT.out]; rfl, HB1.out.trans (HB.out.mono HB1.out.size)⟩

end Go.Proofs.YtafmoceinamcdaaGreat
