/- The reference's Visible: the walk. -/
import Derived.Test.YtnkknkijnpdapaaHVis
namespace Go.Proofs.Ytnkknkijnpdapaa
open Go.RowKit
set_option linter.unusedVariables false
set_option linter.unusedSimpArgs false

theorem wpList_append_run {w : World} {ops : Array Oper} {rest : List Oper} {o : Oper} {f : Act} {Q : Exit → Act → World → Prop} (hgd : o.guard = none) (s x : Operand)
    (ho : o.op = .call { callee := .builtin .append, args := #[s, x], argTypes := #[23, 23] }) {vs vx v' : Value} {w' : World} (hs : f.eval s = vs) (hx : f.eval x = vx) (hrun : (Builtin.append_ #[23, 23] o.type #[vs, vx]).run Try.prog w = .ok v' w') (h : wpList Try.prog ops Q rest (f.put o.dst v') w') :
    wpList Try.prog ops Q (o :: rest) f w := by
  refine wpList_plain hgd fun K hK => ?_
  unfold Oper.wp
  simp [execOp, ho, resolve, invoke, builtin, hs, hx, hrun, Result.andThen]
  exact hK _ _ h

theorem hbfs_in {next : ByteArray → List ByteArray} {upd : List ByteArray → ByteArray → List ByteArray} {f : Nat} {p : ByteArray} {q done out : List ByteArray} (h : hin done p = true) : hbfs next upd (f + 1) (p :: q) done out = hbfs next upd f q done out := by rw [hbfs, if_pos h]

theorem hbfs_new {next : ByteArray → List ByteArray} {upd : List ByteArray → ByteArray → List ByteArray} {f : Nat} {p : ByteArray} {q done out : List ByteArray} (h : hin done p = false) : hbfs next upd (f + 1) (p :: q) done out = hbfs next upd f (q ++ next p) (upd done p) (hput out p) := by rw [hbfs, if_neg (by simp [h])]

theorem hbfs_end {next : ByteArray → List ByteArray} {upd : List ByteArray → ByteArray → List ByteArray} {f : Nat} {done out : List ByteArray} : hbfs next upd f [] done out = out := by cases f <;> rfl

theorem sum_le : ∀ (us : List Um) (f : Un → Nat), (∀ u ∈ us, f u.un ≤ 30) → ((us.map Um.un).map f).sum ≤ us.length * 30
  | [], f, _ => by simp
  | u :: us, f, h => by
    have h1 := h u (by simp)
    have h2 := sum_le us f (fun v hv => h v (by simp [hv]))
    simp only [List.map_cons, List.sum_cons, List.length_cons]
    omega

theorem hpot_few {us : List Um} (h : hfew us = true) (next : ByteArray → List ByteArray) (hn : ∀ (p : ByteArray) (u : Um), u ∈ us → hunit (us.map Um.un) p = some u.un → (next p).length ≤ 30) (hn0 : ∀ p, hunit (us.map Um.un) p = none → next p = []) (done : List ByteArray) : hpot next (us.map Um.un) done ≤ 900 := by
  obtain ⟨h1, h2⟩ := hfew_of h
  unfold hpot
  have := sum_le us (fun u => if hin done u.path = true then 0 else (next u.path).length) (fun u hu => by
    split
    · omega
    · cases hq : hunit (us.map Um.un) u.un.path with
      | none => rw [hn0 _ hq]; simp
      | some v =>
        obtain ⟨hv, _⟩ := hunit_some hq
        obtain ⟨x, hx, rfl⟩ := List.mem_map.1 hv
        exact hn _ x hx hq)
  omega

theorem hpubs_few {us : List Um} (h : hfew us = true) (done : List ByteArray) : hpot (hpubs (us.map Um.un)) (us.map Um.un) done ≤ 900 := by
  obtain ⟨h1, h2⟩ := hfew_of h
  refine hpot_few h _ (fun p u hu hp => ?_) (fun p hp => by unfold hpubs; rw [hp]) done
  unfold hpubs
  rw [hp]
  simp only [upubs, List.length_map, Um.un]
  refine Nat.le_trans (List.length_filter_le _ _) ?_
  obtain ⟨j, hj⟩ := List.getElem?_of_mem hu
  exact (h2 j u hj).2

theorem hdeps_few {us : List Um} (h : hfew us = true) (done : List ByteArray) : hpot (hdeps (us.map Um.un)) (us.map Um.un) done ≤ 900 := by
  obtain ⟨h1, h2⟩ := hfew_of h
  refine hpot_few h _ (fun p u hu hp => ?_) (fun p hp => by unfold hdeps; rw [hp]) done
  unfold hdeps
  rw [hp]
  simp only [Um.un]
  obtain ⟨j, hj⟩ := List.getElem?_of_mem hu
  exact (h2 j u hj).1

/-- The search, so many steps ahead of its end at most. -/
def Vr (W : World) (next : ByteArray → List ByteArray) (l : List Un) (R : List ByteArray) (n : Nat) (vo vq vd : Value) (wr : World) : Prop :=
  ∃ (out q done : List ByteArray) (oa qa da : Option Addr) (oc qc dc : Nat), vo = .slice oa out.length oc ∧ vq = .slice qa q.length qc ∧ vd = .slice da done.length dc ∧ Vm W wr vo vq vd out q done ∧ q.length + hpot next l done ≤ n ∧ hbfs next (fun d x => d ++ [x]) n q done out = R ∧ done.length + n ≤ 2000 ∧ out.length ≤ done.length + 1

theorem Vm.rel {W wr : World} {vo vq vd : Value} {out q done : List ByteArray} {next : ByteArray → List ByteArray} {l : List Un} {R : List ByteArray} {n : Nat} (h : Vm W wr vo vq vd out q done) (h1 : q.length + hpot next l done ≤ n) (h2 : hbfs next (fun d x => d ++ [x]) n q done out = R) (h3 : done.length + n ≤ 2000) (h4 : out.length ≤ done.length + 1) : Vr W next l R n vo vq vd wr := by
  obtain ⟨oa, oc, e1⟩ := h.out.slice
  obtain ⟨qa, qc, e2⟩ := h.que.slice
  obtain ⟨da, dc, e3⟩ := h.don.slice
  exact ⟨out, q, done, oa, qa, da, oc, qc, dc, e1, e2, e3, h, h1, h2, h3, h4⟩

set_option maxRecDepth 10000 in
set_option maxHeartbeats 8000000 in
theorem rvis_any {W : World} {a : Option Addr} {len cap : Nat} {us : List Um} (p : ByteArray) (hU : Hid (Ul W a len cap us)) (hfw : Hid (hfew us = true)) :
    Calls Try.prog 15 #[.slice a len cap, .string p] W fun e W' => ∃ v, e = .returned v ∧ Sw W' W.heap.size v (hvis (us.map Um.un) p) ∧ Below W.heap.size W W' := by
  have Qf : Hid _ := fun (s : ByteArray) (V : World) (hV : Below W.heap.size W V) => rfind_any s hU V hV
  have Q0 : Hid _ := Qf.out p W (Below.refl _ _)
  rcases hfi_spec us p with ⟨hR, hn⟩ | ⟨k, u, hR, hu, hup, hun⟩
  · rw [hvis_none hn]
    rw [hR] at Q0
    clear hR hn
    go_enter Try.func15, Try.ntmps15
    go_wp2_with fail
    refine Calls.mono Q0.out ?_
    rintro e w1 ⟨rfl, hb1⟩
    go_wp2
    go_ret
    exact ⟨_, rfl, Sw.nil _ _, hb1⟩
  · rw [hR] at Q0
    obtain ⟨R, HR⟩ : ∃ R, Hid (R = hvis (us.map Um.un) p) := ⟨_, rfl⟩
    rw [← HR.out]
    obtain ⟨hl30, hl31⟩ := hfew_of hfw.out
    obtain ⟨h1, h2, h3, h4, h6, h7⟩ := hU.out
    have hkl : k < us.length := (List.getElem?_eq_some_iff.1 hu).1
    obtain ⟨b, off, rfl, hlt, hc⟩ := h6 (by omega)
    have hkl2 : (k : Int) < (len : Int) := by omega
    have HUc : Hid (∀ (k : Nat) (u : Um), us[k]? = some u → ∀ V, Below W.heap.size W V → V.cell? ⟨b, off + k * 3 + 1, none⟩ = some (.slice u.da u.deps.length u.dc) ∧ V.cell? ⟨b, off + k * 3 + 2, none⟩ = some (.slice u.pa u.pub.length u.pc) ∧ b < V.heap.size) := fun k u hu V hV => by
      obtain ⟨d0, d1, d2⟩ := unit_cells hc hu
      exact ⟨(hV.cell hlt).trans d1, (hV.cell hlt).trans d2, Nat.lt_of_lt_of_le hlt hV.size⟩
    have HAll : Hid _ := h7
    have HL : Hid (us.length = len) := h1
    have HFew : Hid (∀ (j : Nat) (u : Um), us[j]? = some u → u.deps.length ≤ 30 ∧ u.pub.length ≤ 30) := hl31
    have hkn : ¬ ((k : Int) < 0) := by omega
    obtain ⟨c1, c2, c3⟩ := HUc.out k u hu W (Below.refl _ _)
    have HS : Hid (Sb W u.da u.deps.length u.dc u.deps) := (h7 k u hu).1
    have hdl := (HFew.out k u hu).1
    have HRe : Hid (R = hbfs (hpubs (us.map Um.un)) (fun d x => d ++ [x]) (u.deps.length + hpot (hpubs (us.map Um.un)) (us.map Um.un) []) u.deps [] [p]) := by
      show _ = _
      rw [HR.out]
      unfold hvis
      rw [hun]
      rfl
    obtain ⟨up, uda, udc, ud, upa, upc, upb⟩ := u
    simp only at c1 c2 HS hdl hup HRe
    clear h1 h4 h6 h7 hc hR hl31 HR hU hun
    go_enter Try.func15, Try.ntmps15
    go_wp2_with fail
    refine Calls.mono Q0.out ?_
    rintro e w1 ⟨rfl, hb1⟩
    have hA : Below W.heap.size W (w1.alloc (.cells #[.string p] 9)) := hb1.alloc hb1.size _
    obtain ⟨d1, d2, d3⟩ := HUc.out k _ hu _ hA
    have hown : Sw (w1.alloc (.cells #[.string p] 9)) W.heap.size (.slice (some ⟨w1.heap.size, 0, none⟩) 1 1) [p] := ⟨rfl, .inr ⟨w1.heap.size, 1, #[.string p], rfl, hb1.size, heap_alloc_new w1 _, Nat.le_refl _, by unfold maxLen; omega, rfl, rfl⟩⟩
    obtain ⟨vq, w2, hr2, hq2, hg2, hat2⟩ := run_append_sqs (Sq.of_own (Sw.nil (w1.alloc (.cells #[.string p] 9)) W.heap.size)) 23 (HS.out.below hA) (by simp; omega) hA.size
    have hM2 : Vm W w2 (.slice (some ⟨w1.heap.size, 0, none⟩) 1 1) vq (.slice none 0 0) [p] ud [] := by
      refine ⟨World.ownsRow.kept hown hg2 (.inr (by simp [Value.ownBlock])), by simpa using hq2, Sw.nil _ _, ?_, .inr (by simp [Value.ownBlock]), Ap.symm (x := .slice none 0 0) (y := vq) (Or.inl rfl), hA.grown hg2 hA.size (fun k hk => by cases hk)⟩
      exact Ap.step (y := .slice none 0 0) (.inr (by simp [Value.ownBlock])) (fun k hk => by simp only [Value.ownBlock, Option.some.injEq] at hk; simp; omega) hat2
    have hV0 := hM2.rel (l := us.map Um.un) (Nat.le_refl _) HRe.out.symm (by have := hpubs_few hfw.out []; simp only [List.length_nil]; omega) (by simp)
    have HV0 : Hid _ := hV0
    have HR2 : Hid _ := hr2
    obtain ⟨qa, qc, hvq⟩ := hM2.que.slice
    subst hvq
    clear hb1 hA hown hq2 hg2 hat2 hM2 hV0 hr2 HRe
    go_wp2_with (at_builtin; refine wpList_append_run rfl _ _ rfl rfl rfl HR2.out ?_)
    go_loopw [6, 7, 8] (fun vo vq vd wr => ∃ n, Vr W (hpubs (us.map Um.un)) (us.map Um.un) R n vo vq vd wr) (fun vo vq vd wr => leastOf fun n => Vr W (hpubs (us.map Um.un)) (us.map Um.un) R n vo vq vd wr)
    case atStart => exact ⟨_, HV0.out⟩
    case round =>
      clear HV0 HR2 c1 c2 c3 d1 d2 d3 HS Q0 hdl
      have hsp := leastOf_spec hrel
      obtain ⟨N, hN⟩ : ∃ N, (leastOf fun n => Vr W (hpubs (us.map Um.un)) (us.map Um.un) R n u6 u7 u8 wr) = N := ⟨_, rfl⟩
      rw [hN] at hsp
      have HN : Hid _ := hN
      clear hN hrel
      obtain ⟨out, q, done, oa', qa', da', oc', qc', dc', rfl, rfl, rfl, hM, hn1, hn2, hn3, hn4⟩ := hsp
      cases q with
      | nil =>
        have HE : Hid (R = out) := by show _ = _; rw [← hn2, hbfs_end]
        have HM : Hid _ := hM
        clear hM hn2
        go_wp2
        go_ret
        exact ⟨_, rfl, by rw [HE.out]; exact HM.out.out, HM.out.below⟩
      | cons s q' =>
        obtain ⟨g, o, rfl, hqn, hgl, hcell, hcq, hcm, hM1⟩ := hM.cutQ
        obtain ⟨A7, hA7⟩ : ∃ A7, (if qc' = 1 then some (⟨g, o, none⟩ : Addr) else some ⟨g, o + 1, none⟩) = A7 := ⟨_, rfl⟩
        rw [hA7] at hM1
        rw [List.length_cons] at hn1 hM1 hcq hqn
        obtain ⟨f, rfl⟩ : ∃ f, N = f + 1 := ⟨N - 1, by omega⟩
        simp only [Nat.add_sub_cancel] at hM1
        have hql : ((q'.length : Int) + 1 > 0) := by omega
        have HM1 : Hid _ := hM1
        have Qi : Hid _ := rhin_any s (Sb.of_own hM1.don)
        clear hM
        by_cases hI : hin done s = true
        · rw [hI] at Qi
          rw [hbfs_in hI] at hn2
          have hVn : Vr W (hpubs (us.map Um.un)) (us.map Um.un) R f (.slice oa' out.length oc') (.slice A7 q'.length (qc' - 1)) (.slice da' done.length dc') wr := hM1.rel (by omega) hn2 (by omega) hn4
          have HVn : Hid (∃ n, Vr W (hpubs (us.map Um.un)) (us.map Um.un) R n (.slice oa' out.length oc') (.slice A7 q'.length (qc' - 1)) (.slice da' done.length dc') wr) := ⟨f, hVn⟩
          have HNm : Hid ((leastOf fun n => Vr W (hpubs (us.map Um.un)) (us.map Um.un) R n (.slice oa' out.length oc') (.slice A7 q'.length (qc' - 1)) (.slice da' done.length dc') wr) ≤ f) := leastOf_le hVn
          clear hn1 hn2 hM1 hI hn3 hn4 hVn
          go_wp2_with fail
          refine Calls.mono Qi.out ?_
          rintro e w3 ⟨rfl, rfl⟩
          go_wp2
          go_roundw
          case rel => first | exact HVn.out | ((repeat apply Exists.intro); exact ⟨HVn.out, rfl⟩)
          case measure => rw [HN.out]; exact Nat.lt_succ_of_le HNm.out
        · have hI' : hin done s = false := by simpa using hI
          rw [hI'] at Qi
          rw [hbfs_new hI'] at hn2
          have hpt := hpot_less (hpubs (us.map Um.un)) done (done ++ [s]) s (fun x => by simp [or_comm]) ((hin_not _ _).1 hI) (us.map Um.un) (lead_pubs _ s)
          have hA : Below wr.heap.size wr (wr.alloc (.cells #[.string s] 9)) := (Below.refl _ _).alloc (Nat.le_refl _) _
          have HM2 : Hid (Vm W (wr.alloc (.cells #[.string s] 9)) (.slice oa' out.length oc') (.slice A7 q'.length (qc' - 1)) (.slice da' done.length dc') out q' done) := hM1.under hA
          have HCp : Hid _ := text_cell wr s
          have HDl : Hid (done.length + 1 ≤ 1000000) := by show _ ≤ _; omega
          have HBs : Hid (W.heap.size ≤ (wr.alloc (.cells #[.string s] 9)).heap.size) := HM2.out.below.size
          have HOl : Hid (out.length ≤ 100000) := by show _ ≤ _; omega
          have HPt : Hid (hpot (hpubs (us.map Um.un)) (us.map Um.un) (done ++ [s]) + (hpubs (us.map Um.un) s).length ≤ hpot (hpubs (us.map Um.un)) (us.map Um.un) done) := hpt
          have Hn1 : Hid (q'.length + 1 + hpot (hpubs (us.map Um.un)) (us.map Um.un) done ≤ f + 1) := hn1
          have Hn2 : Hid _ := hn2
          have Hn3 : Hid (done.length + (f + 1) ≤ 2000) := hn3
          have Hn4 : Hid (out.length ≤ done.length + 1) := hn4
          have HNm : Hid (∀ vo vq vd V, Vr W (hpubs (us.map Um.un)) (us.map Um.un) R f vo vq vd V → (leastOf fun n => Vr W (hpubs (us.map Um.un)) (us.map Um.un) R n vo vq vd V) < f + 1) := fun vo vq vd V h => Nat.lt_succ_of_le (leastOf_le h)
          clear hpt hA hI hI' hn1 hn2 hn3 hn4 hM1
          go_wp2_with fail
          refine Calls.mono Qi.out ?_
          rintro e w3 ⟨rfl, rfl⟩
          go_wp2_with (at_builtin; refine wpList_append_sw rfl _ _ rfl W.heap.size (.slice da' done.length dc') done s wr.heap.size 1 rfl rfl HM2.out.don HCp.out HDl.out HBs.out ?_; intro v' w3 hN3 hg3 hat3; have hM3 := HM2.out.addD hN3 hg3 hat3; obtain ⟨va, vc, hv⟩ := hN3.slice; rw [List.length_append, List.length_singleton] at hv; subst hv; have HM3 : Hid _ := hM3; clear hN3 hg3 hat3 hM3 hcell hgl)
          refine Calls.mono (rhput_any s (Sb.of_own HM3.out.out) HOl.out HM3.out.out.form) ?_
          rintro e w4 ⟨v4, rfl, ho4, hb4⟩
          have hM4 := HM3.out.addO hb4 (ho4.imp (fun h => ⟨h.1, h.2⟩) id)
          obtain ⟨oa4, oc4, hv4⟩ := hM4.out.slice
          subst hv4
          have HM4 : Hid _ := hM4
          clear hM4 ho4 hb4 HM3 HM2
          go_wp2_with fail
          refine Calls.mono (Qf.out s w4 HM4.out.below) ?_
          rintro e w5 ⟨rfl, hb5⟩
          have HM5 : Hid (Vm W w5 (.slice oa4 (hput out s).length oc4) (.slice A7 q'.length (qc' - 1)) (.slice va (done.length + 1) vc) (hput out s) q' (done ++ [s])) := HM4.out.under hb5
          have HOl5 : Hid ((hput out s).length ≤ (done ++ [s]).length + 1) := by
            show _ ≤ _
            have := hput_len out s
            have := Hn4.out
            rw [List.length_append, List.length_singleton]
            omega
          clear hb5 HM4
          rcases hfi_spec us s with ⟨hR2, hn5⟩ | ⟨k2, u2, hR2, hu2, hup2, hun2⟩
          · have hpn : hpubs (us.map Um.un) s = [] := by unfold hpubs; rw [hn5]
            have h2 := Hn2.out
            have h3 := HPt.out
            have h4 := Hn1.out
            have h5 := Hn3.out
            rw [hpn, List.append_nil] at h2
            have hVn : Vr W (hpubs (us.map Um.un)) (us.map Um.un) R f (.slice oa4 (hput out s).length oc4) (.slice A7 q'.length (qc' - 1)) (.slice va (done.length + 1) vc) w5 := HM5.out.rel (by omega) h2 (by rw [List.length_append, List.length_singleton]; omega) HOl5.out
            have HVn : Hid (∃ n, Vr W (hpubs (us.map Um.un)) (us.map Um.un) R n (.slice oa4 (hput out s).length oc4) (.slice A7 q'.length (qc' - 1)) (.slice va (done.length + 1) vc) w5) := ⟨f, hVn⟩
            have HNm2 : Hid _ := HNm.out _ _ _ _ hVn
            rw [hR2]
            clear hpn h2 h3 h4 h5 hVn hn5 hR2
            go_wp2
            go_roundw
            case rel => first | exact HVn.out | ((repeat apply Exists.intro); exact ⟨HVn.out, rfl⟩)
            case measure => rw [HN.out]; exact HNm2.out
          · rw [hR2]
            have hk2n : ((k2 : Int) ≥ 0) := by omega
            have hkl3 : k2 < us.length := (List.getElem?_eq_some_iff.1 hu2).1
            have hkl4 : (k2 : Int) < (len : Int) := by rw [HL.out] at hkl3; omega
            obtain ⟨e1, e2, e3⟩ := HUc.out k2 u2 hu2 w5 HM5.out.below
            have HSd : Hid (Sb W u2.da u2.deps.length u2.dc u2.deps) := (HAll.out k2 u2 hu2).1
            have HSp : Hid (Sn W u2.pa u2.pub.length u2.pc u2.pub) := (HAll.out k2 u2 hu2).2
            have HUc2 : Hid _ := HUc.out k2 u2 hu2
            have HFe2 : Hid (u2.deps.length ≤ 30 ∧ u2.pub.length ≤ 30) := HFew.out k2 u2 hu2
            have HPe : Hid (hpubs (us.map Um.un) s = upubs u2.un) := by show _ = _; unfold hpubs; rw [hun2]
            obtain ⟨up2, uda2, udc2, ud2, upa2, upc2, upb2⟩ := u2
            simp only at e1 e2 HSd HSp HUc2 HFe2
            have hpl : (upb2.length : Int) ≤ 9223372036854775807 := HSp.out.h63
            have hdl2 : (ud2.length : Int) ≤ 9223372036854775807 := HSd.out.h63
            clear hR2 hu2 hup2 hun2 hkl3
            go_wp2
            go_loopw [7, 55] (fun vq c wr => ∃ (j : Nat) (qa2 : Option Addr) (n2 qc2 : Nat) (q2 : List ByteArray), vq = .slice qa2 n2 qc2 ∧ c = .int .i64 (j : Int) ∧ j ≤ upb2.length ∧ Hid (q2 = q' ++ upubs ⟨up2, ud2, upb2.take j⟩) ∧ Hid (Vm W wr (.slice oa4 (hput out s).length oc4) (.slice qa2 n2 qc2) (.slice va (done.length + 1) vc) (hput out s) q2 (done ++ [s])) ∧ Hid (q2.length ≤ q'.length + j)) (fun _ c _ => upb2.length - (intOf c).toNat)
            case atStart => exact ⟨0, _, _, _, q', rfl, rfl, by omega, by show _ = _; simp [upubs], HM5, by show _ ≤ _; omega⟩
            case round =>
              obtain ⟨j, qa2, n2, qc2, q2, rfl, rfl, hj, HQ2, HM6, HQl⟩ := hrel
              by_cases hjl : j < upb2.length
              · obtain ⟨x, hx⟩ : ∃ x, upb2[j]? = some x := ⟨upb2[j]'hjl, List.getElem?_eq_getElem hjl⟩
                obtain ⟨pb, po, rfl, hplt, hpc⟩ := (HSp.out.below HM6.out.below).hmem (by omega)
                have hcx := hpc j x hx
                obtain ⟨i1, i2, i3⟩ := HUc2.out wr HM6.out.below
                have htk : upb2.take (j + 1) = upb2.take j ++ [x] := by rw [List.take_add_one, hx]; rfl
                have hxb := HSp.out.hbd x (List.mem_of_getElem? hx)
                obtain ⟨hxb1, hxb2⟩ := hxb
                by_cases hok : 0 ≤ x ∧ x < (ud2.length : Int)
                · obtain ⟨hx0, hx1⟩ := hok
                  obtain ⟨m, rfl⟩ : ∃ m : Nat, x = (m : Int) := ⟨x.toNat, by omega⟩
                  obtain ⟨d, hd⟩ : ∃ d, ud2[m]? = some d := ⟨ud2[m]'(by omega), List.getElem?_eq_getElem (by omega)⟩
                  have hup : upubs ⟨up2, ud2, upb2.take (j + 1)⟩ = upubs ⟨up2, ud2, upb2.take j⟩ ++ [d] := by
                    unfold upubs
                    simp only
                    rw [htk, List.filter_append, List.map_append, List.filter_cons_of_pos (by simp; omega)]
                    simp [hd]
                  obtain ⟨db, dof, rfl, hdlt, hdc⟩ := (HSd.out.below HM6.out.below).hmem (by omega)
                  have hcd := hdc m d hd
                  have hA : Below wr.heap.size wr (wr.alloc (.cells #[.string d] 9)) := (Below.refl _ _).alloc (Nat.le_refl _) _
                  have hM7 := HM6.out.under hA
                  obtain ⟨vq7, w7, hr7, hq7, hg7, hat7⟩ := run_append_sq hM7.que 23 ⟨wr.heap.size, 0, none⟩ 1 1 [d] rfl (fun i z hi => by
                    match i, hi with
                    | 0, hi => simp at hi; subst hi; simp [Addr.add]) (by have := HQl.out; have := HFe2.out.2; have := Hn1.out; have := Hn3.out; omega) hM7.below.size
                  have hM8 := hM7.addQ hq7 hg7 hat7
                  obtain ⟨qa8, qc8, hv8⟩ := hM8.que.slice
                  rw [List.length_append, List.length_singleton] at hv8
                  subst hv8
                  have HM8 : Hid _ := hM8
                  have HR8 : Hid _ := hr7
                  have HQ8 : Hid (q2 ++ [d] = q' ++ upubs ⟨up2, ud2, upb2.take (j + 1)⟩) := by show _ = _; rw [hup, HQ2.out, List.append_assoc]
                  have HQl8 : Hid ((q2 ++ [d]).length ≤ q'.length + (j + 1)) := by have := HQl.out; show _ ≤ _; rw [List.length_append, List.length_singleton]; omega
                  have hmx : ((m : Int) ≥ 0) := by omega
                  clear hx htk hup hd hpc hdc hA hM7 hq7 hg7 hat7 hM8 hr7 HQ2 HM6 HQl hx0
                  go_wp2_with (at_builtin; refine wpList_append_run rfl _ _ rfl rfl rfl HR8.out ?_)
                  go_roundw
                  case rel => first | exact ⟨j + 1, _, _, _, _, rfl, by go_num, by omega, HQ8, HM8, HQl8⟩ | ((repeat apply Exists.intro); exact ⟨⟨j + 1, _, _, _, _, rfl, by go_num, by omega, HQ8, HM8, HQl8⟩, rfl⟩)
                  case measure => simp [intOf]; omega
                · have hup : upubs ⟨up2, ud2, upb2.take (j + 1)⟩ = upubs ⟨up2, ud2, upb2.take j⟩ := by
                    unfold upubs
                    simp only
                    rw [htk, List.filter_append, List.filter_cons_of_neg (by simpa using hok)]
                    simp
                  have HQ8 : Hid (q2 = q' ++ upubs ⟨up2, ud2, upb2.take (j + 1)⟩) := by show _ = _; rw [hup]; exact HQ2.out
                  have HQl8 : Hid (q2.length ≤ q'.length + (j + 1)) := by have := HQl.out; show _ ≤ _; omega
                  clear hx htk hup hpc HQ2 HQl
                  by_cases hx0 : 0 ≤ x
                  · have hx1 : ¬ (x < (ud2.length : Int)) := fun h => hok ⟨hx0, h⟩
                    have hx2 : (x ≥ 0) := hx0
                    clear hok
                    go_wp2
                    go_roundw
                    case rel => first | exact ⟨j + 1, _, _, _, _, rfl, by go_num, by omega, HQ8, HM6, HQl8⟩ | ((repeat apply Exists.intro); exact ⟨⟨j + 1, _, _, _, _, rfl, by go_num, by omega, HQ8, HM6, HQl8⟩, rfl⟩)
                    case measure => simp [intOf]; omega
                  · have hx2 : ¬ (x ≥ 0) := hx0
                    clear hok
                    go_wp2
                    go_roundw
                    case rel => first | exact ⟨j + 1, _, _, _, _, rfl, by go_num, by omega, HQ8, HM6, HQl8⟩ | ((repeat apply Exists.intro); exact ⟨⟨j + 1, _, _, _, _, rfl, by go_num, by omega, HQ8, HM6, HQl8⟩, rfl⟩)
                    case measure => simp [intOf]; omega
              · obtain rfl : j = upb2.length := by omega
                have hq := HQ2.out
                rw [List.take_length] at hq
                have hPe : hpubs (us.map Um.un) s = upubs ⟨up2, ud2, upb2⟩ := HPe.out
                rw [← hPe] at hq
                subst hq
                have h2 := Hn2.out
                have h3 := HPt.out
                have h4 := Hn1.out
                have h5 := Hn3.out
                obtain ⟨qa9, qc9, hv9⟩ := HM6.out.que.slice
                simp only [Value.slice.injEq, true_and] at hv9
                obtain ⟨rfl, rfl, rfl⟩ := hv9
                have hVn : Vr W (hpubs (us.map Um.un)) (us.map Um.un) R f (.slice oa4 (hput out s).length oc4) (.slice qa2 (q' ++ hpubs (us.map Um.un) s).length qc2) (.slice va (done.length + 1) vc) wr := HM6.out.rel (by rw [List.length_append]; omega) h2 (by rw [List.length_append, List.length_singleton]; omega) HOl5.out
                have HVn : Hid (∃ n, Vr W (hpubs (us.map Um.un)) (us.map Um.un) R n (.slice oa4 (hput out s).length oc4) (.slice qa2 (q' ++ hpubs (us.map Um.un) s).length qc2) (.slice va (done.length + 1) vc) wr) := ⟨f, hVn⟩
                have HNm2 : Hid _ := HNm.out _ _ _ _ hVn
                clear h2 h3 h4 h5 hVn hPe
                go_wp2
                go_roundw
                case rel => first | exact HVn.out | ((repeat apply Exists.intro); exact ⟨HVn.out, rfl⟩)
                case measure => rw [HN.out]; exact HNm2.out

end Go.Proofs.Ytnkknkijnpdapaa
