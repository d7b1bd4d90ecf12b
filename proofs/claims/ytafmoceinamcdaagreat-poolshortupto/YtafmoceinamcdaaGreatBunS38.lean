/- Put together by a program out of these texts of mine: VLc. -/
import Derived.Test.YtafmoceinamcdaaGreatBunS37

namespace Go.Proofs.YtafmoceinamcdaaGreat
open Go.RowKit
set_option linter.unusedVariables false
set_option linter.unusedSimpArgs false

theorem ss_of_sb {w : World} {a : Option Addr} {n c : Nat} {zs : List ByteArray} (h : Sb w a n c zs) : Ss w a n c (zs.map numsOf) := by
  obtain ⟨h1, h2, h4, h5, h3⟩ := h
  refine ⟨by rw [List.length_map]; exact h1, h2, h4, h5, fun z hz => ?_, fun hp => ?_⟩
  · obtain ⟨x, _, rfl⟩ := List.mem_map.1 hz
    exact numsOf_byts x
  · obtain ⟨b, off, e, hlt, hc⟩ := h3 hp
    refine ⟨b, off, e, hlt, fun i z hi => ?_⟩
    rw [List.getElem?_map] at hi
    cases hq : zs[i]? with
    | none => rw [hq] at hi; cases hi
    | some x =>
      rw [hq] at hi
      cases hi
      unfold scell
      rw [numsOf_str]
      exact hc i x hq

theorem rinS {w : World} {a : Option Addr} {n c : Nat} {zs : List ByteArray} (h : Hid (Sb w a n c zs)) (x : ByteArray) :
    Calls Tryz.prog 60 #[.slice a n c, .string x] w fun e w' => e = .returned (.bool (inS zs x)) ∧ w = w' := by
  have q := rin_any (numsOf x) (show Hid _ from ss_of_sb h.out) (show Hid _ from numsOf_byts x)
  rw [numsOf_str] at q
  refine q.mono fun e w' k => ⟨?_, k.2⟩
  rw [k.1]
  congr 2
  rw [Bool.eq_iff_iff, decide_eq_true_eq, inS_iff]
  constructor
  · intro hm
    obtain ⟨y, hy, e⟩ := List.mem_map.1 hm
    have := congrArg strOfNums e
    rw [numsOf_str, numsOf_str] at this
    rw [← this]
    exact hy
  · intro hm
    exact List.mem_map.2 ⟨x, hm, rfl⟩

theorem fidx_none {L : Sl} {X : ByteArray} (h : slook L X = none) : fidx L X = -1 := by
  rw [slook_find] at h
  have h1 : L[sfind L X]? = none := by cases hq : L[sfind L X]? with
    | none => rfl
    | some y => rw [hq] at h; cases h
  unfold fidx
  rw [if_neg (by have := List.getElem?_eq_none_iff.1 h1; omega)]

theorem fidx_some {L : Sl} {X : ByteArray} {y : Int × ByteArray} (h : slook L X = some y) : ∃ (i : Nat) (x : ByteArray × Int × ByteArray), fidx L X = (i : Int) ∧ i < L.length ∧ L[i]? = some x ∧ x.2 = y := by
  rw [slook_find] at h
  cases hq : L[sfind L X]? with
  | none => rw [hq] at h; cases h
  | some x =>
    rw [hq] at h
    cases h
    have hl := (List.getElem?_eq_some_iff.1 hq).1
    refine ⟨sfind L X, x, ?_, hl, hq, rfl⟩
    unfold fidx
    rw [if_pos hl]

set_option maxRecDepth 100000 in
set_option maxHeartbeats 8000000 in
theorem rlook {W : World} {B0 gp : Nat} {fv : Value} {hm : ByteArray} {L : Sl} (hP : Hid (Rp W B0 gp fv hm (L, none))) (hL : L.length ≤ 1048576) {ka : Option Addr} {kn kc : Nat} {kinds : List Int} {sa : Option Addr} {sn sc' : Nat} {seen : List ByteArray} (hk : Hid (Ns W ka kn kc kinds)) (hs : Hid (Sb W sa sn sc' seen)) (sc nm : List Int) (hsb : Hid (byts sc)) (hnb : Hid (byts nm)) (hsl : sc.length ≤ 5000) (hnl : nm.length ≤ 4000) :
    Calls Tryz.prog 28 #[.pointer (some ⟨gp, 0, none⟩), .string (strOfNums sc), .string (strOfNums nm), .slice sa sn sc', .slice ka kn kc] W fun e W' => e = lookE ((nplaces sc nm).find? (fz (slook L) seen kinds)) ∧ Below W.heap.size W W' := by
  have QP : Hid _ := rplaces_any sc nm W hsb hnb (by omega) (by omega)
  obtain ⟨RES, hRES⟩ : ∃ RES, RES = (nplaces sc nm).find? (fz (slook L) seen kinds) := ⟨_, rfl⟩
  rw [← hRES]
  obtain ⟨PL, hPL⟩ : ∃ PL, PL = nplaces sc nm := ⟨_, rfl⟩
  rw [← hPL] at QP hRES
  have HRES : Hid _ := hRES
  obtain ⟨sv, nn, ee, xs, q1, _, _, ho, h6, hx⟩ := hP.out.blk
  have QF0 : Hid (∀ (F : ByteArray) (V : World), Below W.heap.size W V → Calls Tryz.prog 15 #[.pointer (some ⟨gp, 0, none⟩), .string F] V fun e w' => e = .returned (.int .i64 (fidx L F)) ∧ V = w') := fun F V hV =>
    rfind_any V B0 gp sv fv nn ee hm (show Hid _ from q1.below hV q1.lt) L xs (show Hid _ from own_below ho hV) (show Hid _ from fun i x h => (hx i x h).1) F (by omega)
  have QI0 : Hid (∀ (x : ByteArray) (V : World), Below W.heap.size W V → Calls Tryz.prog 60 #[.slice sa sn sc', .string x] V fun e w' => e = .returned (.bool (inS seen x)) ∧ V = w') := fun x V hV => rinS (show Hid _ from hs.out.below hV) x
  have HG : Hid (∀ V, Below W.heap.size W V → V.cell? ⟨gp, 0, none⟩ = some sv ∧ gp < V.heap.size) := fun V hV => ⟨(hV.cell (p := ⟨gp, 0, none⟩) q1.lt).trans (q1.cell 0 rfl), Nat.lt_of_lt_of_le q1.lt hV.size⟩
  have HC : Hid (∀ V, Below W.heap.size W V → ∀ (i : Nat) (x : ByteArray × Int × ByteArray), L[i]? = some x → ∃ g cap, sv = .slice (some ⟨g, 0, none⟩) L.length cap ∧ g < V.heap.size ∧ V.cell? ⟨g, i * 31 + 1, none⟩ = some (.int .i64 x.2.1) ∧ V.cell? ⟨g, i * 31 + 2, none⟩ = some (.string x.2.2)) := fun V hV i x hi => by
    have hil : i < L.length := (List.getElem?_eq_some_iff.1 hi).1
    rcases ho.2 with ⟨_, h0⟩ | ⟨g, cap, cur, hsv, hg0, hg, hnc, hcm, hcs, hct⟩
    · simp only at h0; omega
    · have hgl : g < W.heap.size := (Array.getElem?_eq_some_iff.1 hg).1
      obtain ⟨_, h2, h3⟩ := hx i x hi
      simp only at hct h2 h3
      rw [← hct, List.getElem?_take_of_lt (by omega)] at h2 h3
      exact ⟨g, cap, hsv, Nat.lt_of_lt_of_le hgl hV.size, (hV.cell (p := ⟨g, i * 31 + 1, none⟩) hgl).trans ((Ob.mk hg).cell _ (by simpa using h2)), (hV.cell (p := ⟨g, i * 31 + 2, none⟩) hgl).trans ((Ob.mk hg).cell _ (by simpa using h3))⟩
  have HLL : Hid (L.length ≤ 1048576) := hL
  clear hP hs q1 ho h6 hx hRES hPL hsl hnl hL
  obtain ⟨M, hM⟩ : ∃ M, M = strOfNums nm := ⟨_, rfl⟩
  obtain ⟨S0, hS0⟩ : ∃ S0, S0 = strOfNums sc := ⟨_, rfl⟩
  rw [← hM, ← hS0]
  rw [← hM, ← hS0] at QP
  clear hM hS0 hsb hnb
  go_enter Tryz.func28, Tryz.ntmps28
  go_wp2_with fail
  refine Calls.mono QP.out ?_
  rintro e w1 ⟨v, rfl, hso, hb1⟩
  obtain ⟨a, c, rfl⟩ := hso.slice
  have HSS : Hid (Ss w1 a PL.length c PL) := Ss.of_own hso
  have HB1 : Hid (Below W.heap.size W w1) := hb1
  have HK : Hid (Ns w1 ka kn kc kinds) := hk.out.below hb1
  have h63 := HSS.out.2.1
  clear hso hb1 QP hk
  go_wp2
  go_loopw [21] (fun v wr => ∃ k : Nat, v = .int .i64 (k : Int) ∧ k ≤ PL.length ∧ Hid (lookE RES = lookE ((PL.drop k).find? (fz (slook L) seen kinds))) ∧ w1 = wr) (fun v _ => PL.length - (intOf v).toNat)
  case atStart => exact ⟨0, rfl, Nat.zero_le _, (show Hid _ from by show _ = _; rw [HRES.out, List.drop_zero]), rfl⟩
  case round =>
    obtain ⟨k, rfl, hk, HRR, rfl⟩ := hrel
    by_cases hlk : k < PL.length
    · obtain ⟨z, hz⟩ : ∃ z, PL[k]? = some z := ⟨PL[k], List.getElem?_eq_getElem hlk⟩
      obtain ⟨b, off, ha, hlt, hc⟩ := HSS.out.2.2.2.2.2 (by omega)
      subst ha
      have hcell := hc k z hz
      unfold scell at hcell
      have HR : Hid (lookE RES = lookX (fitS (slook L) seen kinds (strOfNums z)) (strOfNums z) (lookE ((PL.drop (k + 1)).find? (fz (slook L) seen kinds)))) := by
        show _ = _
        have hd : PL.drop k = z :: PL.drop (k + 1) := by
          rw [List.drop_eq_getElem_cons hlk]
          congr 1
          rw [List.getElem?_eq_getElem hlk] at hz
          exact Option.some.inj hz
        rw [HRR.out, hd, look_cons9]
      have QF : Hid _ := QF0.out (strOfNums z) w1 HB1.out
      generalize strOfNums z = X at *
      clear hz hc HRR
      cases hsl : slook L X with
      | none =>
        rw [fidx_none hsl] at QF
        have HR2 : Hid (lookE RES = lookE ((PL.drop (k + 1)).find? (fz (slook L) seen kinds))) := by
          show _ = _
          rw [HR.out]
          unfold fitS
          rw [hsl]
          rfl
        clear hsl HR
        go_wp2_with fail
        refine Calls.mono QF.out ?_
        rintro e w2 ⟨rfl, rfl⟩
        clear QF
        go_wp2
        go_roundw
        case rel => first | exact ⟨k + 1, by go_num, by omega, HR2, by first | rfl | trivial⟩ | ((repeat apply Exists.intro); exact ⟨⟨k + 1, by go_num, by omega, HR2, by first | rfl | trivial⟩, rfl⟩)
        case measure => simp [intOf]; omega
      | some y =>
        obtain ⟨kd, H⟩ := y
        obtain ⟨i, x, hfi, hil, hxi, hxe⟩ := fidx_some hsl
        obtain ⟨g, cap, hsv, hgl, hc1, hc2⟩ := HC.out w1 HB1.out i x hxi
        obtain ⟨hgp, hgpl⟩ := HG.out w1 HB1.out
        rw [hsv] at hgp
        rw [hxe] at hc1 hc2
        rw [hfi] at QF
        have QI : Hid _ := QI0.out H w1 HB1.out
        have HFE : Hid (fitS (slook L) seen kinds X = (decide (kd ∈ kinds) && inS seen H)) := by
          show _ = _
          unfold fitS
          rw [hsl]
        have hll := HLL.out
        obtain ⟨B2, hB2⟩ : ∃ B2, B2 = inS seen H := ⟨_, rfl⟩
        rw [← hB2] at QI HFE
        clear hsl hfi hxi hxe hsv hB2 x
        simp only at hc1 hc2
        cases B2
        · have HR2 : Hid (lookE RES = lookE ((PL.drop (k + 1)).find? (fz (slook L) seen kinds))) := by
            show _ = _
            rw [HR.out, HFE.out, Bool.and_false]
            rfl
          clear HR HFE
          go_wp2_with fail
          refine Calls.mono QF.out ?_
          rintro e w2 ⟨rfl, rfl⟩
          clear QF
          go_wp2_with fail
          refine Calls.mono QI.out ?_
          rintro e w2 ⟨rfl, rfl⟩
          clear QI
          go_wp2
          go_roundw
          case rel => first | exact ⟨k + 1, by go_num, by omega, HR2, by first | rfl | trivial⟩ | ((repeat apply Exists.intro); exact ⟨⟨k + 1, by go_num, by omega, HR2, by first | rfl | trivial⟩, rfl⟩)
          case measure => simp [intOf]; omega
        · rw [Bool.and_true] at HFE
          go_wp2_with fail
          refine Calls.mono QF.out ?_
          rintro e w2 ⟨rfl, rfl⟩
          clear QF
          go_wp2_with fail
          refine Calls.mono QI.out ?_
          rintro e w2 ⟨rfl, rfl⟩
          clear QI
          go_wp2
          go_loopw [45] (fun v wr => ∃ m : Nat, v = .int .i64 (m : Int) ∧ m ≤ kn ∧ Hid (∀ j, j < m → kinds[j]? ≠ some kd) ∧ w1 = wr) (fun v _ => kn - (intOf v).toNat)
          case atStart => exact ⟨0, rfl, Nat.zero_le _, (fun j hj => absurd hj (by omega)), rfl⟩
          case round =>
            obtain ⟨m, rfl, hm, HJ, rfl⟩ := hrel
            have hk63 := HK.out.h63
            have hkl := HK.out.hlen
            by_cases hmk : m < kn
            · obtain ⟨b2, off2, hka, hlt2, hcc2⟩ := HK.out.hmem (by omega)
              subst hka
              obtain ⟨y, hy⟩ : ∃ y, kinds[m]? = some y := ⟨kinds[m]'(by omega), List.getElem?_eq_getElem (by omega)⟩
              have hcy := hcc2 m y hy
              by_cases hky : kd = y
              · have HR3 : Hid (lookE RES = .returned (.tuple #[.string X, .bool true])) := by
                  show _ = _
                  rw [HR.out, HFE.out, decide_eq_true (by rw [hky]; exact List.mem_of_getElem? hy)]
                  rfl
                have hdk : (kd == y) = true := by simpa using hky
                clear HR HFE hcc2 hy hky HJ
                go_wp2
                go_ret2
                exact ⟨HR3.out.symm, HB1.out⟩
              · have hdk : (kd == y) = false := by simpa using hky
                have HJ2 : Hid (∀ j, j < m + 1 → kinds[j]? ≠ some kd) := fun j hj => by
                  by_cases q : j = m
                  · rw [q, hy]; intro e; exact hky (Option.some.inj e).symm
                  · exact HJ.out j (by omega)
                clear HR HFE hcc2 hy hky HJ
                go_wp2
                go_roundw
                case rel => first | exact ⟨m + 1, by go_num, by omega, HJ2, by first | rfl | trivial⟩ | ((repeat apply Exists.intro); exact ⟨⟨m + 1, by go_num, by omega, HJ2, by first | rfl | trivial⟩, rfl⟩)
                case measure => simp [intOf]; omega
            · obtain rfl : m = kn := by omega
              have HR2 : Hid (lookE RES = lookE ((PL.drop (k + 1)).find? (fz (slook L) seen kinds))) := by
                show _ = _
                rw [HR.out, HFE.out, decide_eq_false (fun hin => by
                  obtain ⟨j, hj⟩ := List.getElem?_of_mem hin
                  exact HJ.out j (by rw [← hkl]; exact (List.getElem?_eq_some_iff.1 hj).1) hj)]
                rfl
              clear HR HFE HJ
              go_wp2
              go_roundw
              case rel => first | exact ⟨k + 1, by go_num, by omega, HR2, by first | rfl | trivial⟩ | ((repeat apply Exists.intro); exact ⟨⟨k + 1, by go_num, by omega, HR2, by first | rfl | trivial⟩, rfl⟩)
              case measure => simp [intOf]; omega
    · obtain rfl : k = PL.length := by omega
      have HR4 : Hid (lookE RES = .returned (.tuple #[.string ⟨#[]⟩, .bool false])) := by
        show _ = _
        rw [HRR.out, List.drop_length]
        rfl
      clear HRR
      go_wp2
      go_ret2
      exact ⟨HR4.out.symm, HB1.out⟩

end Go.Proofs.YtafmoceinamcdaaGreat
