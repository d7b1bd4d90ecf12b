/- GraphInOrder, proved for every list of units and of paths: what Order answers stands in order, and is what the asked ones come to; no condition. -/
import Derived.Test.YtnkknkijnpdapaaRows
import Derived.Test.YtnkknkijnpdapaaHAwake
import Derived.Test.YtnkknkijnpdapaaJOpen
import Derived.Deep.RegionWith
import Derived.ProofKit
import Derived.OpenShut
import Derived.ShutString
import Derived.ChangeOld
import Derived.Below
namespace Go.Proofs.Ytnkknkijnpdapaa.graphInOrder
open Go.ChangeShapes Go.WideShapes Go.ChangeAt Go.RowKit
open Go.ChangeMaps (open_string shut_string)
set_option linter.unusedVariables false

theorem own : ownKnob Try.prog.godebug = none := by kernel_rfl
theorem laidOut : laidOutB Try.prog = true := by kernel_rfl

theorem want_in {l : List Un} {asked : List ByteArray} (hE : (hrun l asked).e = 0) (j : Nat) (x : ByteArray) (h : x ∈ (asked.take j).foldl (fun w s => (hclo l s).foldl hput w) []) : x ∈ (hrun l asked).out := by
  rcases ((hwant_spec l (asked.take j) [] (by simp [Ris])).2 x).1 h with h | ⟨p, hp, h⟩
  · cases h
  · rw [hord_mem hE]
    have hpa := List.mem_of_mem_take hp
    obtain ⟨_, h2, _, h4⟩ := hrun_kept l asked
    obtain ⟨i, hi⟩ := List.getElem?_of_mem (h4 hE p hpa)
    obtain ⟨u, hu, _⟩ := h2.at i p hi
    exact ⟨p, hpa, ((hclo_spec hu).2 x).1 h⟩

theorem clo_in {l : List Un} {asked : List ByteArray} (hE : (hrun l asked).e = 0) {p x : ByteArray} (hp : p ∈ asked) (h : x ∈ hclo l p) : x ∈ (hrun l asked).out := by
  rw [hord_mem hE]
  obtain ⟨_, h2, _, h4⟩ := hrun_kept l asked
  obtain ⟨i, hi⟩ := List.getElem?_of_mem (h4 hE p hp)
  obtain ⟨u, hu, _⟩ := h2.at i p hi
  exact ⟨p, hp, ((hclo_spec hu).2 x).1 h⟩

/-- What is wanted so far is never more than what is there. -/
theorem want_len {l : List Un} {asked : List ByteArray} (hE : (hrun l asked).e = 0) (j i : Nat) (p : ByteArray) (hp : p ∈ asked) : (((hclo l p).take i).foldl hput ((asked.take j).foldl (fun w s => (hclo l s).foldl hput w) [])).length ≤ (hrun l asked).out.length := by
  have h1 := (hwant_spec l (asked.take j) [] (by simp [Ris])).1
  have h2 := foldl_put ((hclo l p).take i) _ h1
  refine nodup_le _ _ (ris_nodup h2.1) (fun x hx => ?_)
  rcases (h2.2 x).1 hx with hx | hx
  · exact want_in hE j x hx
  · exact clo_in hE hp (List.mem_of_mem_take hx)

set_option maxRecDepth 10000 in
set_option maxHeartbeats 4000000 in
theorem walk (a0 : Option Addr) (l0 c0 : Nat) (us0 : List Um) (a1 : Option Addr) (l1 c1 : Nat) (zs1 : List ByteArray) (w : World) (hb0 : Hid (Ul w a0 l0 c0 us0)) (hs0 : Hid (Usm us0)) (hb1 : Hid (Sb w a1 l1 c1 zs1)) (hs1 : Hid (∀ z ∈ zs1, Tsm z)) :
    Calls Try.prog 6 #[.slice a0 l0 c0, .slice a1 l1 c1] w fun e w' => e = .returned (.bool true) ∧ Below w.heap.size w w' := by
  have QF : Hid _ := fun V (hV : Below w.heap.size w V) => rhfew_any hb0 V hV
  cases hf : hfew us0 with
  | false =>
    rw [hf] at QF
    go_enter Try.func6, Try.ntmps6
    go_wp2_with fail
    refine Calls.mono (hawake_any w) ?_
    rintro e w1 ⟨rfl, hx1⟩
    have HB1 : Hid (Below w.heap.size w w1) := hx1
    clear hx1
    go_wp2_with fail
    refine Calls.mono (QF.out w1 HB1.out) ?_
    rintro e w2 ⟨rfl, hb2⟩
    have HB2 : Hid (Below w.heap.size w w2) := HB1.out.trans (hb2.mono HB1.out.size)
    clear hb2
    go_wp2
    go_ret
    exact ⟨by first | rfl | simp, HB2.out⟩
  | true =>
    rw [hf] at QF
    have HF : Hid (hfew us0 = true) := hf
    clear hf
    by_cases hl : 30 < l1
    · have g1 : ((l1 : Int) > 30) := by omega
      go_enter Try.func6, Try.ntmps6
      go_wp2_with fail
      refine Calls.mono (hawake_any w) ?_
      rintro e w1 ⟨rfl, hx1⟩
      have HB1 : Hid (Below w.heap.size w w1) := hx1
      clear hx1
      go_wp2_with fail
      refine Calls.mono (QF.out w1 HB1.out) ?_
      rintro e w2 ⟨rfl, hb2⟩
      have HB2 : Hid (Below w.heap.size w w2) := HB1.out.trans (hb2.mono HB1.out.size)
      clear hb2
      go_wp2
      go_ret
      exact ⟨by first | rfl | simp, HB2.out⟩
    · have g1 : ¬ ((l1 : Int) > 30) := by omega
      have hl30 : l0 ≤ 30 := by have := (hfew_of HF.out).1; rw [hb0.out.hlen] at this; exact this
      have Q1 : Hid _ := fun (V : World) (hV : Below w.heap.size w V) => pgorder_any (hb0.out.below hV) (hb1.out.below hV) HF (by omega) hs0 hs1
      by_cases hE : (hrun (us0.map Um.un) zs1).e = 0
      · have ho : hord (us0.map Um.un) zs1 = ((hrun (us0.map Um.un) zs1).out, ⟨#[]⟩, 0) := by unfold hord; rw [if_pos hE]
        rw [ho] at Q1
        obtain ⟨hwm, hwl⟩ := hwant_mem hE
        have hord := (hrun_kept (us0.map Um.un) zs1).2.1
        have hol : (hrun (us0.map Um.un) zs1).out.length ≤ 30 := by
          have := hord.le
          rw [List.length_map, hb0.out.hlen] at this
          omega
        have HWl : Hid (∀ (j i : Nat) (p : ByteArray), p ∈ zs1 → (((hclo (us0.map Um.un) p).take i).foldl hput ((zs1.take j).foldl (fun w s => (hclo (us0.map Um.un) s).foldl hput w) [])).length ≤ 30) := fun j i p hp => Nat.le_trans (want_len hE j i p hp) hol
        generalize (hrun (us0.map Um.un) zs1).out = R at Q1 hwm hwl hord hol
        have HWm : Hid (∀ x, x ∈ R ↔ x ∈ hwant (us0.map Um.un) zs1) := hwm
        have HWn : Hid (R.length = (hwant (us0.map Um.un) zs1).length) := hwl
        have HOr : Hid (Ordd (us0.map Um.un) R) := hord
        have QC : Hid _ := fun (p : ByteArray) (V : World) (hV : Below w.heap.size w V) => rclo_any p (hb0.out.below hV) HF
        have QN : Hid _ := fun (p : ByteArray) (V : World) (hV : Below w.heap.size w V) => rfind_any p hb0 V hV
        have HU : Hid (Ul w a0 l0 c0 us0) := hb0.out
        have HA : Hid (Sb w a1 l1 c1 zs1) := hb1.out
        have hla63 := HA.out.h63
        simp only at Q1
        clear hE ho hwm hwl hord hb0 hb1
        go_enter Try.func6, Try.ntmps6
        go_wp2_with fail
        refine Calls.mono (hawake_any w) ?_
        rintro e w1 ⟨rfl, hx1⟩
        have HB1 : Hid (Below w.heap.size w w1) := hx1
        clear hx1
        go_wp2_with fail
        refine Calls.mono (QF.out w1 HB1.out) ?_
        rintro e w2 ⟨rfl, hb2⟩
        have HB2 : Hid (Below w.heap.size w w2) := HB1.out.trans (hb2.mono HB1.out.size)
        clear hb2
        go_wp2_with fail
        refine Calls.mono (Q1.out w2 HB2.out) ?_
        rintro e w3 ⟨v3, rfl, hs3, hb3⟩
        have HB3 : Hid (Below w.heap.size w w3) := HB2.out.trans (hb3.mono HB2.out.size)
        obtain ⟨xa, xc, hv3⟩ := hs3.slice
        subst hv3
        have HX : Hid (Sb w3 xa R.length xc R) := Sb.of_own hs3
        have hxf := hs3.form
        clear hs3 hb3 Q1 QF
        go_wp2
        go_loopw [8, 42] (fun vw c wr => ∃ (j : Nat) (wa : Option Addr) (wl wc : Nat), vw = .slice wa wl wc ∧ c = .int .i64 (j : Int) ∧ j ≤ l1 ∧ Hid (Sw wr w3.heap.size (.slice wa wl wc) ((zs1.take j).foldl (fun w s => (hclo (us0.map Um.un) s).foldl hput w) [])) ∧ Hid (Below w3.heap.size w3 wr)) (fun _ c _ => l1 - (intOf c).toNat)
        case atStart => exact ⟨0, none, 0, 0, rfl, rfl, by omega, Sw.nil _ _, Below.refl _ _⟩
        case round =>
          obtain ⟨j, wa, wl, wc, rfl, rfl, hj, HS, HB⟩ := hrel
          by_cases hjl : j < l1
          · have hAw := HA.out.below (HB3.out.trans (HB.out.mono HB3.out.size))
            obtain ⟨b, off, rfl, hlt, hc⟩ := hAw.hmem (by omega)
            obtain ⟨z, hz⟩ : ∃ z, zs1[j]? = some z := ⟨zs1[j]'(by rw [HA.out.hlen]; exact hjl), List.getElem?_eq_getElem (by rw [HA.out.hlen]; exact hjl)⟩
            have hcell := hc j z hz
            have Q4 : Hid _ := QC.out z wr (HB3.out.trans (HB.out.mono HB3.out.size))
            have HZ : Hid (z ∈ zs1) := List.mem_of_getElem? hz
            have HT : Hid (zs1.take (j + 1) = zs1.take j ++ [z]) := by show _ = _; rw [List.take_add_one, hz]; rfl
            clear hc hz hAw
            go_wp2_with fail
            refine Calls.mono Q4.out ?_
            rintro e w4 ⟨v4, rfl, hs4, hb4⟩
            obtain ⟨ya, yc, hv4⟩ := hs4.slice
            subst hv4
            have HB4 : Hid (Below w3.heap.size w3 w4) := HB.out.trans (hb4.mono HB.out.size)
            have HY : Hid (Sb w4 ya (hclo (us0.map Um.un) z).length yc (hclo (us0.map Um.un) z)) := Sb.of_own hs4
            have HS4 : Hid (Sw w4 w3.heap.size (.slice wa wl wc) ((zs1.take j).foldl (fun w s => (hclo (us0.map Um.un) s).foldl hput w) [])) := Sw.below HS.out hb4
            have hl64 := HY.out.h63
            have HWz : Hid (∀ i, (((hclo (us0.map Um.un) z).take i).foldl hput ((zs1.take j).foldl (fun w s => (hclo (us0.map Um.un) s).foldl hput w) [])).length ≤ 30) := fun i => HWl.out j i z HZ.out
            have HNx : Hid ((zs1.take (j + 1)).foldl (fun w s => (hclo (us0.map Um.un) s).foldl hput w) [] = (hclo (us0.map Um.un) z).foldl hput ((zs1.take j).foldl (fun w s => (hclo (us0.map Um.un) s).foldl hput w) [])) := by
              show _ = _
              rw [HT.out, List.foldl_append]
              rfl
            generalize hclo (us0.map Um.un) z = C at HY hl64 HWz HNx
            generalize (zs1.take j).foldl (fun w s => (hclo (us0.map Um.un) s).foldl hput w) [] = A at HS4 HWz HNx
            clear hs4 hb4 HS HB HT HZ hcell hlt
            go_wp2
            go_loopw [8, 50] (fun vw c wr => ∃ (i : Nat) (wa : Option Addr) (wl wc : Nat), vw = .slice wa wl wc ∧ c = .int .i64 (i : Int) ∧ i ≤ C.length ∧ Hid (Sw wr w3.heap.size (.slice wa wl wc) ((C.take i).foldl hput A)) ∧ Hid (Below w3.heap.size w3 wr) ∧ Hid (Sb wr ya C.length yc C)) (fun _ c _ => C.length - (intOf c).toNat)
            case atStart => exact ⟨0, wa, wl, wc, rfl, rfl, by omega, HS4, HB4, HY⟩
            case round =>
              obtain ⟨i, wa2, wl2, wc2, rfl, rfl, hi, HS5, HB5, HY5⟩ := hrel
              by_cases hil : i < C.length
              · obtain ⟨b2, off2, rfl, hlt2, hc2⟩ := HY5.out.hmem (by omega)
                obtain ⟨q, hq⟩ : ∃ q, C[i]? = some q := ⟨C[i]'hil, List.getElem?_eq_getElem hil⟩
                have hcell2 := hc2 i q hq
                have HC6 : Hid ((C.take (i + 1)).foldl hput A = hput ((C.take i).foldl hput A) q) := by
                  show _ = _
                  rw [List.take_add_one, hq, List.foldl_append]
                  rfl
                have hw30 := HWz.out i
                obtain ⟨wa', wc', hv'⟩ := Sw.slice HS5.out
                simp only [Value.slice.injEq] at hv'
                obtain ⟨rfl, rfl, rfl⟩ := hv'
                have Q6 : Hid _ := rhput_any q (Sb.of_own HS5.out) (by omega) (Sw.form HS5.out)
                clear hc2 hq hw30
                go_wp2_with fail
                refine Calls.mono Q6.out ?_
                rintro e w6 ⟨v6, rfl, ho6, hb6⟩
                have hs6 : Sw w6 w3.heap.size v6 ((C.take (i + 1)).foldl hput A) := by
                  rw [HC6.out]
                  rcases ho6 with ⟨rfl, h⟩ | h
                  · rw [h]
                    exact Sw.below HS5.out hb6
                  · exact Sw.base h HB5.out.size
                obtain ⟨wa7, wc7, hv7⟩ := hs6.slice
                subst hv7
                have HS6 : Hid (Sw w6 w3.heap.size (.slice wa7 ((C.take (i + 1)).foldl hput A).length wc7) ((C.take (i + 1)).foldl hput A)) := hs6
                have HB6 : Hid (Below w3.heap.size w3 w6) := HB5.out.trans (hb6.mono HB5.out.size)
                have HY6 : Hid (Sb w6 (some ⟨b2, off2, none⟩) C.length yc C) := HY5.out.below hb6
                clear ho6 hb6 hs6 HC6
                go_wp2
                go_roundw
                case rel => first | exact ⟨i + 1, _, _, _, rfl, by go_num, by omega, HS6, HB6, HY6⟩ | ((repeat apply Exists.intro); exact ⟨⟨i + 1, _, _, _, rfl, by go_num, by omega, HS6, HB6, HY6⟩, rfl⟩)
                case measure => simp [intOf]; omega
              · obtain rfl : i = C.length := by omega
                have HS7 : Hid (Sw wr w3.heap.size (.slice wa2 wl2 wc2) ((zs1.take (j + 1)).foldl (fun w s => (hclo (us0.map Um.un) s).foldl hput w) [])) := by
                  have h := HS5.out
                  rw [List.take_length, ← HNx.out] at h
                  exact h
                clear HS5 HY5
                go_wp2
                go_roundw
                case rel => first | exact ⟨j + 1, _, _, _, rfl, by go_num, by omega, HS7, HB5⟩ | ((repeat apply Exists.intro); exact ⟨⟨j + 1, _, _, _, rfl, by go_num, by omega, HS7, HB5⟩, rfl⟩)
                case measure => simp [intOf]; omega
          · obtain rfl : j = l1 := by omega
            have hS := HS.out
            rw [List.take_of_length_le (by rw [HA.out.hlen]; exact Nat.le_refl _)] at hS
            change Sw wr w3.heap.size (.slice wa wl wc) (hwant (us0.map Um.un) zs1) at hS
            obtain ⟨wa', wc', hv'⟩ := hS.slice
            simp only [Value.slice.injEq] at hv'
            obtain ⟨rfl, hwl, rfl⟩ := hv'
            rw [← HWn.out] at hwl
            subst hwl
            have HS2 : Hid (Sb wr wa R.length wc (hwant (us0.map Um.un) zs1)) := Sb.of_own hS
            have HBw : Hid (Below w.heap.size w wr) := HB3.out.trans (HB.out.mono HB3.out.size)
            have HX2 : Hid (Sb wr xa R.length xc R) := HX.out.below HB.out
            have hx63 := HX2.out.h63
            have hxcap := HX2.out.hcap
            have heq : ((R.length : Int) == (R.length : Int)) = true := by simp
            clear HS hS hjl HB HX
            go_wp2
            go_loopw [61] (fun c w4 => ∃ (i : Nat), c = .int .i64 (i : Int) ∧ i ≤ R.length ∧ Hid (Below wr.heap.size wr w4)) (fun c _ => R.length - (intOf c).toNat)
            case atStart => exact ⟨0, rfl, by omega, Below.refl _ _⟩
            case round =>
              obtain ⟨i, rfl, hi, HB8⟩ := hrel
              have HBx : Hid (Below w.heap.size w wr) := HBw.out.trans (HB8.out.mono HBw.out.size)
              by_cases hil : i < R.length
              · obtain ⟨p, hp⟩ : ∃ p, R[i]? = some p := ⟨R[i]'hil, List.getElem?_eq_getElem hil⟩
                have hX3 := HX2.out.below HB8.out
                obtain ⟨b, off, rfl, hlt, hc⟩ := hX3.hmem (by omega)
                have hcell := hc i p hp
                obtain ⟨u, hu, _, hd⟩ := HOr.out.at i p hp
                rcases hfi_spec us0 p with ⟨_, hn⟩ | ⟨k, um, hR, huk, hup, hun⟩
                · rw [hn] at hu
                  cases hu
                · rw [hu] at hun
                  cases hun
                  have Q8 : Hid _ := QN.out p wr HBx.out
                  rw [hR] at Q8
                  have HQ9 : Hid (∀ V, Below wr.heap.size wr V → Calls Try.prog 20 #[.slice wa R.length wc, .string p] V fun e w' => e = .returned (.bool true) ∧ V = w') := fun V hV => by
                    have h := rhin_any p ((HS2.out.below HB8.out).below hV)
                    rw [(hin_iff _ p).2 ((HWm.out p).1 (List.mem_of_getElem? hp))] at h
                    exact h
                  have HD : Hid (∀ d ∈ um.deps, d ∈ R.take i) := hd
                  have hkl : k < us0.length := (List.getElem?_eq_some_iff.1 huk).1
                  have hkl2 : (k : Int) < (l0 : Int) := by have := HU.out.hlen; omega
                  have hkn : ¬ ((k : Int) < 0) := by omega
                  obtain ⟨ub, uoff, hua, hult, huc⟩ := HU.out.hmem (by omega)
                  subst hua
                  obtain ⟨d0, d1, d2⟩ := unit_cells huc huk
                  have HUd : Hid (∀ V, Below w.heap.size w V → V.cell? ⟨ub, uoff + k * 3 + 1, none⟩ = some (.slice um.da um.deps.length um.dc) ∧ ub < V.heap.size) := fun V hV => ⟨(hV.cell hult).trans d1, Nat.lt_of_lt_of_le hult hV.size⟩
                  have HUs : Hid (Sb w um.da um.deps.length um.dc um.deps) := (HU.out.hall k um huk).1
                  have hud63 := HUs.out.h63
                  obtain ⟨up, uda, udc, ud, upa, upc, upb⟩ := um
                  simp only at HD HUd HUs hud63
                  have hic : (i : Int) ≤ (xc : Int) := by omega
                  have hic2 : i ≤ xc := by omega
                  clear hR huk hup hu hd hc hp d0 d1 d2 huc hkl hult hX3
                  go_wp2_with fail
                  refine Calls.mono Q8.out ?_
                  rintro e w5 ⟨rfl, hb5⟩
                  have HB9 : Hid (Below wr.heap.size wr w5) := hb5
                  obtain ⟨z1, z2⟩ := HUd.out w5 (HBx.out.trans (hb5.mono HBx.out.size))
                  clear hb5 Q8
                  go_wp2_with fail
                  refine Calls.mono (HQ9.out w5 HB9.out) ?_
                  rintro e w6 ⟨rfl, rfl⟩
                  clear HQ9
                  go_wp2
                  have HXt : Hid (∀ V, Below wr.heap.size wr V → ∀ d ∈ ud, Calls Try.prog 20 #[.slice (some ⟨b, off, none⟩) i xc, .string d] V fun e w' => e = .returned (.bool true) ∧ V = w') := fun V hV d hdd => by
                    have h := rhin_any d (((HX2.out.below HB8.out).below hV).take i (by omega))
                    rw [(hin_iff _ d).2 (HD.out d hdd)] at h
                    exact h
                  go_loopw [83] (fun c w4 => ∃ (j2 : Nat), c = .int .i64 (j2 : Int) ∧ j2 ≤ ud.length ∧ w5 = w4) (fun c _ => ud.length - (intOf c).toNat)
                  case atStart => exact ⟨0, rfl, by omega, rfl⟩
                  case round =>
                    obtain ⟨j2, rfl, hj2, rfl⟩ := hrel
                    by_cases hjl2 : j2 < ud.length
                    · have hU5 := HUs.out.below (HBx.out.trans (HB9.out.mono HBx.out.size))
                      obtain ⟨b5, off5, rfl, hlt5, hc5⟩ := hU5.hmem (by omega)
                      obtain ⟨d, hd⟩ : ∃ d, ud[j2]? = some d := ⟨ud[j2]'hjl2, List.getElem?_eq_getElem hjl2⟩
                      have hcell5 := hc5 j2 d hd
                      have Q10 : Hid _ := HXt.out w5 HB9.out d (List.mem_of_getElem? hd)
                      clear hc5 hd hU5
                      go_wp2_with fail
                      refine Calls.mono Q10.out ?_
                      rintro e w7 ⟨rfl, rfl⟩
                      go_wp2
                      go_roundw
                      case rel => first | exact ⟨j2 + 1, by go_num, by omega, by first | rfl | trivial⟩ | ((repeat apply Exists.intro); exact ⟨⟨j2 + 1, by go_num, by omega, by first | rfl | trivial⟩, rfl⟩)
                      case measure => simp [intOf]; omega
                    · obtain rfl : j2 = ud.length := by omega
                      have HB10 := HB8.out.trans (HB9.out.mono HB8.out.size)
                      have HB11 : Hid _ := HB10
                      clear HB10
                      go_wp2
                      go_roundw
                      case rel => first | exact ⟨i + 1, by go_num, by omega, HB11⟩ | ((repeat apply Exists.intro); exact ⟨⟨i + 1, by go_num, by omega, HB11⟩, rfl⟩)
                      case measure => simp [intOf]; omega
              · obtain rfl : i = R.length := by omega
                clear hil
                go_wp2
                go_ret
                exact ⟨by first | rfl | simp, HBx.out⟩
      · have ho : hord (us0.map Um.un) zs1 = ([], (hrun (us0.map Um.un) zs1).path, (hrun (us0.map Um.un) zs1).e) := by unfold hord; rw [if_neg hE]
        rw [ho] at Q1
        have hne : ((hrun (us0.map Um.un) zs1).e != 0) = true := by simpa using hE
        generalize (hrun (us0.map Um.un) zs1).path = P1 at Q1
        generalize (hrun (us0.map Um.un) zs1).e = E1 at Q1 hne
        simp only at Q1
        clear hE ho
        go_enter Try.func6, Try.ntmps6
        go_wp2_with fail
        refine Calls.mono (hawake_any w) ?_
        rintro e w1 ⟨rfl, hx1⟩
        have HB1 : Hid (Below w.heap.size w w1) := hx1
        clear hx1
        go_wp2_with fail
        refine Calls.mono (QF.out w1 HB1.out) ?_
        rintro e w2 ⟨rfl, hb2⟩
        have HB2 : Hid (Below w.heap.size w w2) := HB1.out.trans (hb2.mono HB1.out.size)
        clear hb2
        go_wp2_with fail
        refine Calls.mono (Q1.out w2 HB2.out) ?_
        rintro e w3 ⟨v3, rfl, hs3, hb3⟩
        have HB3 : Hid (Below w.heap.size w w3) := HB2.out.trans (hb3.mono HB2.out.size)
        obtain ⟨xa, xc, hv3⟩ := hs3.slice
        subst hv3
        clear hs3 hb3
        go_wp2
        go_ret
        exact ⟨by first | rfl | simp, HB3.out⟩

set_option maxRecDepth 100000 in
theorem lifted (os : Os) (started : os.Started) (H : Type) (enc : TypeId × Value → H) :
    ReturnsInHanded {} Try.checked os 6 .any (Rows.graphInOrderSpec.pre6 enc Try.prog Try.f6 Rows.graphInOrderRow.domain false) (Rows.graphInOrderSpec.post enc Try.prog Try.f6 false true false false) := by
  refine returnsInHanded_of_change_sized (C := Try.checked) own started (by kernel_rfl) Try.func6
    (ChangeSpec.witness6 (enc := enc) (C := Try.checked) false ⟨#[], #[.slice none 0 0, .slice none 0 0], []⟩ 8 (by kernel_rfl) (by kernel_rfl) (by kernel_rfl) (by kernel_rfl)) ?_
  intro W base args ds gs before hval0 hW hcnd hwt _
  have hval : ∀ (j : Nat) t v, Try.f6.params[j]? = some t → args[j]? = some v → Value.okWide Try.prog W .any base t v := hval0
  have hW' := hW
  obtain ⟨p, q, hA0, hV, rfl, hfz, hnd⟩ := hW
  have hA : DataW.TrodAll enc Try.prog W 0 (fun _ => true) true Try.f6.params.toList args.toList ds p := hA0
  rw [Try.params6] at hA hval hwt
  obtain ⟨v0, vs0, d0, ds0, p0, q0, hargs, rfl, rfl, h0, r0⟩ := trodAll_cons hA
  obtain ⟨v1, vs1, d1, ds1, p1, q1, rfl, rfl, rfl, h1, r1⟩ := trodAll_cons r0
  obtain ⟨rfl, rfl, rfl⟩ := trodAll_nil r1
  obtain rfl : args = #[v0, v1] := by cases args; simp_all
  obtain ⟨rfl, rfl⟩ := trodVars_none hV
  obtain ⟨a0, l0, c0, rfl⟩ := okWide_slice Try.underlying22 (hval 0 22 v0 rfl rfl)
  have lt0 : ∀ x ∈ p0, x.block < W.heap.size := by obtain ⟨m, hm⟩ := h0; exact DataW.trod_lt m _ _ _ hm
  obtain ⟨us0, wuw0, wux0⟩ := units_open h0
  have wuy0 := wux0 (fun n hn => by
    have := List.all_eq_true.1 hwt n (DataW.weights_mem_each (j := 0) (t := 22) (d := d0) rfl rfl n hn)
    simpa using this)
  obtain ⟨a1, l1, c1, rfl⟩ := okWide_slice Try.underlying23 (hval 1 23 v1 rfl rfl)
  have lt1 : ∀ x ∈ p1, x.block < W.heap.size := by obtain ⟨m, hm⟩ := h1; exact DataW.trod_lt m _ _ _ hm
  obtain ⟨zs1, wuw1, wux1⟩ := sb_open h1
  have wuy1 := wux1 (fun n hn => by
    have := List.all_eq_true.1 hwt n (DataW.weights_mem_each (j := 1) (t := 23) (d := d1) rfl rfl n hn)
    simpa using this)
  clear hA0 hval0
  refine (walk a0 l0 c0 _ a1 l1 c1 _ W wuw0 wuy0 wuw1 wuy1).mono fun e W' ⟨he, bel⟩ => ?_
  subst he
  exact ⟨_, rfl, _, _, _, [], _, [], hW', trodAll_mk1 (shut_bool Try.underlying4 _), (trodAll_cons_mk (Below.trod laidOut (by kernel_rfl) (of_decide_eq_true (by kernel_rfl)) h0 bel lt0) (trodAll_cons_mk (Below.trod laidOut (by kernel_rfl) (of_decide_eq_true (by kernel_rfl)) h1 bel lt1) trodAll_mk0)), rfl, bel.frame _, fun h => by cases h⟩

theorem over : Rows.graphInOrderRow.holds Try.pinned (OpenSpec.ofChange Rows.graphInOrderSpec) :=
  OpenClaim.holds_of_wide 6 Try.f6 rfl rfl rfl rfl rfl rfl rfl ⟨rfl, rfl, rfl, rfl, rfl⟩ rfl rfl rfl rfl rfl (by kernel_rfl) Try.func6 (by kernel_rfl)
    (of_decide_eq_true (by kernel_rfl)) (by unfold Func.isWrapper; first | (rw [if_pos (by decide +kernel)]; kernel_rfl) | (rw [if_neg (by decide +kernel)]; exact ⟨rfl, rfl⟩))
    (fun os started H enc _ => lifted os started H enc)

end Go.Proofs.Ytnkknkijnpdapaa.graphInOrder
namespace Go.Proofs.Ytnkknkijnpdapaa
theorem graphInOrder_holds : Rows.GraphInOrderSaid := graphInOrder.over
#print axioms graphInOrder_holds
end Go.Proofs.Ytnkknkijnpdapaa
