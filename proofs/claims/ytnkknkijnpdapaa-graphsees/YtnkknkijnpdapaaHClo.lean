/- The reference's Closure: the walk. -/
import Derived.Test.YtnkknkijnpdapaaHVis2
namespace Go.Proofs.Ytnkknkijnpdapaa
open Go.RowKit
set_option linter.unusedVariables false
set_option linter.unusedSimpArgs false

/-- The search, so many steps ahead of its end at most; what is there is what was looked at. -/
def Cr (W : World) (l : List Un) (R : List ByteArray) (n : Nat) (vo vq : Value) (wr : World) : Prop :=
  ∃ (out q : List ByteArray) (oa qa : Option Addr) (oc qc : Nat), vo = .slice oa out.length oc ∧ vq = .slice qa q.length qc ∧ Vm W wr vo vq (.slice none 0 0) out q [] ∧ q.length + hpot (hdeps l) l out ≤ n ∧ hbfs (hdeps l) hput n q out out = R ∧ out.length + n ≤ 2000

theorem Vm.relC {W wr : World} {vo vq : Value} {out q : List ByteArray} {l : List Un} {R : List ByteArray} {n : Nat} (h : Vm W wr vo vq (.slice none 0 0) out q []) (h1 : q.length + hpot (hdeps l) l out ≤ n) (h2 : hbfs (hdeps l) hput n q out out = R) (h3 : out.length + n ≤ 2000) : Cr W l R n vo vq wr := by
  obtain ⟨oa, oc, e1⟩ := h.out.slice
  obtain ⟨qa, qc, e2⟩ := h.que.slice
  exact ⟨out, q, oa, qa, oc, qc, e1, e2, h, h1, h2, h3⟩

set_option maxRecDepth 10000 in
set_option maxHeartbeats 8000000 in
theorem rclo_any {W : World} {a : Option Addr} {len cap : Nat} {us : List Um} (p : ByteArray) (hU : Hid (Ul W a len cap us)) (hfw : Hid (hfew us = true)) :
    Calls Try.prog 17 #[.slice a len cap, .string p] W fun e W' => ∃ v, e = .returned v ∧ Sw W' W.heap.size v (hclo (us.map Um.un) p) ∧ Below W.heap.size W W' := by
  have Qf : Hid _ := fun (s : ByteArray) (V : World) (hV : Below W.heap.size W V) => rfind_any s hU V hV
  have Q0 : Hid _ := Qf.out p W (Below.refl _ _)
  rcases hfi_spec us p with ⟨hR, hn⟩ | ⟨k, u, hR, hu, hup, hun⟩
  · rw [hclo_none hn]
    rw [hR] at Q0
    clear hR hn
    go_enter Try.func17, Try.ntmps17
    go_wp2_with fail
    refine Calls.mono Q0.out ?_
    rintro e w1 ⟨rfl, hb1⟩
    go_wp2
    go_ret
    exact ⟨_, rfl, Sw.nil _ _, hb1⟩
  · rw [hR] at Q0
    obtain ⟨R, HR⟩ : ∃ R, Hid (R = hclo (us.map Um.un) p) := ⟨_, rfl⟩
    rw [← HR.out]
    obtain ⟨hl30, hl31⟩ := hfew_of hfw.out
    obtain ⟨h1, h2, h3, h4, h6, h7⟩ := hU.out
    have hkl : k < us.length := (List.getElem?_eq_some_iff.1 hu).1
    obtain ⟨b, off, rfl, hlt, hc⟩ := h6 (by omega)
    have HUc : Hid (∀ (k : Nat) (u : Um), us[k]? = some u → ∀ V, Below W.heap.size W V → V.cell? ⟨b, off + k * 3 + 1, none⟩ = some (.slice u.da u.deps.length u.dc) ∧ b < V.heap.size) := fun k u hu V hV => by
      obtain ⟨d0, d1, d2⟩ := unit_cells hc hu
      exact ⟨(hV.cell hlt).trans d1, Nat.lt_of_lt_of_le hlt hV.size⟩
    have HAll : Hid _ := h7
    have HL : Hid (us.length = len) := h1
    have HFew : Hid (∀ (j : Nat) (u : Um), us[j]? = some u → u.deps.length ≤ 30 ∧ u.pub.length ≤ 30) := hl31
    have hkn : ¬ ((k : Int) < 0) := by omega
    have HRe : Hid (R = hbfs (hdeps (us.map Um.un)) hput (1 + hpot (hdeps (us.map Um.un)) (us.map Um.un) []) [p] [] []) := by
      show _ = _
      rw [HR.out]
      unfold hclo
      rw [hun]
    clear h1 h4 h6 h7 hc hR hl31 HR hU hun hu hup hkl
    go_enter Try.func17, Try.ntmps17
    go_wp2_with fail
    refine Calls.mono Q0.out ?_
    rintro e w1 ⟨rfl, hb1⟩
    have hA : Below W.heap.size W (w1.alloc (.cells #[.string p] 9)) := hb1.alloc hb1.size _
    have hown : Sw (w1.alloc (.cells #[.string p] 9)) W.heap.size (.slice (some ⟨w1.heap.size, 0, none⟩) 1 1) [p] := ⟨rfl, .inr ⟨w1.heap.size, 1, #[.string p], rfl, hb1.size, heap_alloc_new w1 _, Nat.le_refl _, by unfold maxLen; omega, rfl, rfl⟩⟩
    have hM2 : Vm W (w1.alloc (.cells #[.string p] 9)) (.slice none 0 0) (.slice (some ⟨w1.heap.size, 0, none⟩) 1 1) (.slice none 0 0) [] [p] [] :=
      ⟨Sw.nil _ _, Sq.of_own hown, Sw.nil _ _, .inl rfl, .inl rfl, .inr (by simp [Value.ownBlock]), hA⟩
    have hV0 : Cr W (us.map Um.un) R (1 + hpot (hdeps (us.map Um.un)) (us.map Um.un) []) (.slice none 0 0) (.slice (some ⟨w1.heap.size, 0, none⟩) 1 1) (w1.alloc (.cells #[.string p] 9)) := hM2.relC (by simp) HRe.out.symm (by have := hdeps_few hfw.out []; simp only [List.length_nil]; omega)
    have HV0 : Hid (∃ n, Cr W (us.map Um.un) R n (.slice none 0 0) (.slice (some ⟨w1.heap.size, 0, none⟩) 1 1) (w1.alloc (.cells #[.string p] 9))) := ⟨_, hV0⟩
    clear hb1 hA hown hM2 hV0 HRe
    go_wp2
    go_loopw [5, 6] (fun vo vq wr => ∃ n, Cr W (us.map Um.un) R n vo vq wr) (fun vo vq wr => leastOf fun n => Cr W (us.map Um.un) R n vo vq wr)
    case atStart => exact HV0.out
    case round =>
      clear HV0 Q0
      have hsp := leastOf_spec hrel
      obtain ⟨N, hN⟩ : ∃ N, (leastOf fun n => Cr W (us.map Um.un) R n u5 u6 wr) = N := ⟨_, rfl⟩
      rw [hN] at hsp
      have HN : Hid _ := hN
      clear hN hrel
      obtain ⟨out, q, oa', qa', oc', qc', rfl, rfl, hM, hn1, hn2, hn3⟩ := hsp
      cases q with
      | nil =>
        have HE : Hid (R = out) := by show _ = _; rw [← hn2, hbfs_end]
        have HM : Hid _ := hM
        clear hM hn2
        go_wp2
        go_ret
        exact ⟨_, rfl, by rw [HE.out]; exact HM.out.out, HM.out.below⟩
      | cons s q' =>
        obtain ⟨g, o, rfl, hqn, hgl, hcell, hcq, hcm, hM1⟩ := hM.cutQ
        obtain ⟨A7, hA7⟩ : ∃ A7, (if qc' = 1 then some (⟨g, o, none⟩ : Addr) else some ⟨g, o + 1, none⟩) = A7 := ⟨_, rfl⟩
        rw [hA7] at hM1
        rw [List.length_cons] at hn1 hM1 hcq hqn
        obtain ⟨f, rfl⟩ : ∃ f, N = f + 1 := ⟨N - 1, by omega⟩
        simp only [Nat.add_sub_cancel] at hM1
        have hql : ((q'.length : Int) + 1 > 0) := by omega
        have HM1 : Hid _ := hM1
        have Qi : Hid _ := rhin_any s (Sb.of_own hM1.out)
        clear hM
        by_cases hI : hin out s = true
        · rw [hI] at Qi
          rw [hbfs_in hI] at hn2
          have hVn : Cr W (us.map Um.un) R f (.slice oa' out.length oc') (.slice A7 q'.length (qc' - 1)) wr := hM1.relC (by omega) hn2 (by omega)
          have HVn : Hid (∃ n, Cr W (us.map Um.un) R n (.slice oa' out.length oc') (.slice A7 q'.length (qc' - 1)) wr) := ⟨f, hVn⟩
          have HNm : Hid ((leastOf fun n => Cr W (us.map Um.un) R n (.slice oa' out.length oc') (.slice A7 q'.length (qc' - 1)) wr) ≤ f) := leastOf_le hVn
          clear hn1 hn2 hM1 hI hn3 hVn
          go_wp2_with fail
          refine Calls.mono Qi.out ?_
          rintro e w3 ⟨rfl, rfl⟩
          go_wp2
          go_roundw
          case rel => first | exact HVn.out | ((repeat apply Exists.intro); exact ⟨HVn.out, rfl⟩)
          case measure => rw [HN.out]; exact Nat.lt_succ_of_le HNm.out
        · have hI' : hin out s = false := by simpa using hI
          rw [hI'] at Qi
          rw [hbfs_new hI'] at hn2
          have hpt := hpot_less (hdeps (us.map Um.un)) out (hput out s) s (fun x => hput_mem out s x) ((hin_not _ _).1 hI) (us.map Um.un) (lead_deps _ s)
          have hpl := hput_len out s
          have HOl : Hid (out.length ≤ 100000) := by show _ ≤ _; omega
          have HNm : Hid (∀ vo vq V, Cr W (us.map Um.un) R f vo vq V → (leastOf fun n => Cr W (us.map Um.un) R n vo vq V) < f + 1) := fun vo vq V h => Nat.lt_succ_of_le (leastOf_le h)
          have Hn : Hid (q'.length + 1 + hpot (hdeps (us.map Um.un)) (us.map Um.un) out ≤ f + 1 ∧ hbfs (hdeps (us.map Um.un)) hput f (q' ++ hdeps (us.map Um.un) s) (hput out s) (hput out s) = R ∧ out.length + (f + 1) ≤ 2000 ∧ hpot (hdeps (us.map Um.un)) (us.map Um.un) (hput out s) + (hdeps (us.map Um.un) s).length ≤ hpot (hdeps (us.map Um.un)) (us.map Um.un) out ∧ (hput out s).length ≤ out.length + 1) := ⟨hn1, hn2, hn3, hpt, hpl⟩
          clear hpt hI hI' hn1 hn2 hn3 hM1 hpl
          go_wp2_with fail
          refine Calls.mono Qi.out ?_
          rintro e w3 ⟨rfl, rfl⟩
          go_wp2_with fail
          refine Calls.mono (rhput_any s (Sb.of_own HM1.out.out) HOl.out (Sw.form (zs := out) HM1.out.out)) ?_
          rintro e w4 ⟨v4, rfl, ho4, hb4⟩
          have hM4 := HM1.out.addO hb4 (ho4.imp (fun h => ⟨h.1, h.2⟩) id)
          obtain ⟨oa4, oc4, hv4⟩ := hM4.out.slice
          subst hv4
          have HM4 : Hid _ := hM4
          clear hM4 ho4 hb4 HM1 hcell hgl
          go_wp2_with fail
          refine Calls.mono (Qf.out s w4 HM4.out.below) ?_
          rintro e w5 ⟨rfl, hb5⟩
          have HM5 : Hid (Vm W w5 (.slice oa4 (hput out s).length oc4) (.slice A7 q'.length (qc' - 1)) (.slice none 0 0) (hput out s) q' []) := HM4.out.under hb5
          clear hb5 HM4
          rcases hfi_spec us s with ⟨hR2, hn5⟩ | ⟨k2, u2, hR2, hu2, hup2, hun2⟩
          · have hpn : hdeps (us.map Um.un) s = [] := by unfold hdeps; rw [hn5]
            obtain ⟨h4, h2, h5, h3, h6⟩ := Hn.out
            rw [hpn, List.append_nil] at h2
            have hVn : Cr W (us.map Um.un) R f (.slice oa4 (hput out s).length oc4) (.slice A7 q'.length (qc' - 1)) w5 := HM5.out.relC (by omega) h2 (by omega)
            have HVn : Hid (∃ n, Cr W (us.map Um.un) R n (.slice oa4 (hput out s).length oc4) (.slice A7 q'.length (qc' - 1)) w5) := ⟨f, hVn⟩
            have HNm2 : Hid _ := HNm.out _ _ _ hVn
            rw [hR2]
            clear hpn h2 h3 h4 h5 h6 hVn hn5 hR2
            go_wp2
            go_roundw
            case rel => first | exact HVn.out | ((repeat apply Exists.intro); exact ⟨HVn.out, rfl⟩)
            case measure => rw [HN.out]; exact HNm2.out
          · rw [hR2]
            have hk2n : ((k2 : Int) ≥ 0) := by omega
            have hkl3 : k2 < us.length := (List.getElem?_eq_some_iff.1 hu2).1
            have hkl4 : (k2 : Int) < (len : Int) := by rw [HL.out] at hkl3; omega
            obtain ⟨e1, e3⟩ := HUc.out k2 u2 hu2 w5 HM5.out.below
            have hSd : Sb w5 u2.da u2.deps.length u2.dc u2.deps := (HAll.out k2 u2 hu2).1.below HM5.out.below
            have hFe2 := (HFew.out k2 u2 hu2).1
            have hPe : hdeps (us.map Um.un) s = u2.deps := hdeps_of hun2
            obtain ⟨up2, uda2, udc2, ud2, upa2, upc2, upb2⟩ := u2
            simp only at e1 hSd hFe2 hPe
            have hdl2 : (ud2.length : Int) ≤ 9223372036854775807 := hSd.h63
            obtain ⟨h4, h2, h5, h3, h6⟩ := Hn.out
            rw [hPe] at h2 h3
            obtain ⟨vq7, w7, hr7, hq7, hg7, hat7⟩ := run_append_sqs HM5.out.que 23 hSd (by omega) HM5.out.below.size
            have hM8 := HM5.out.addQ hq7 hg7 hat7
            obtain ⟨qa8, qc8, hv8⟩ := hM8.que.slice
            rw [List.length_append] at hv8
            subst hv8
            have hVn : Cr W (us.map Um.un) R f (.slice oa4 (hput out s).length oc4) (.slice qa8 (q'.length + ud2.length) qc8) w7 := hM8.relC (by rw [List.length_append]; omega) h2 (by omega)
            have HVn : Hid (∃ n, Cr W (us.map Um.un) R n (.slice oa4 (hput out s).length oc4) (.slice qa8 (q'.length + ud2.length) qc8) w7) := ⟨f, hVn⟩
            have HNm2 : Hid _ := HNm.out _ _ _ hVn
            have HR8 : Hid _ := hr7
            clear hR2 hu2 hup2 hun2 hkl3 hPe h2 h3 h4 h5 h6 hVn hM8 hq7 hg7 hat7 hr7 hSd
            go_wp2_with (at_builtin; refine wpList_append_run rfl _ _ rfl rfl rfl HR8.out ?_)
            go_roundw
            case rel => first | exact HVn.out | ((repeat apply Exists.intro); exact ⟨HVn.out, rfl⟩)
            case measure => rw [HN.out]; exact HNm2.out

end Go.Proofs.Ytnkknkijnpdapaa
