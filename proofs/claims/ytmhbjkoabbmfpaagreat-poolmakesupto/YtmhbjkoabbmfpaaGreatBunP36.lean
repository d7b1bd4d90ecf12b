/- Put together by a program out of these texts of mine: VNs, VNt. -/
import Derived.Deep.MidRow
import Derived.Laws.Tables
import Derived.Test.YtmhbjkoabbmfpaaGreatBunP24
import Derived.Test.YtmhbjkoabbmfpaaGreatBunP34
import Derived.Test.YtmhbjkoabbmfpaaGreatBunP35

namespace Go.Proofs.YtmhbjkoabbmfpaaGreat
open Go.RowKit
set_option linter.unusedVariables false
set_option linter.unusedSimpArgs false

theorem px_get {R : Option Addr → Prop} {g : ByteArray → Option Value} {h : Sy} (hs : Gs R g h) (x : ByteArray) : (g x).isSome = (h x).isSome := by
  cases hh : h x with
  | none => rw [(hs x).1 hh]; rfl
  | some y =>
    obtain ⟨kd, H⟩ := y
    obtain ⟨p1, p2, p3, h1, _⟩ := (hs x).2 kd H hh
    rw [h1]
    rfl

theorem slook_mem {L : Sl} {x : ByteArray} (h : (slook L x).isSome = true) : x ∈ L.map (·.1) := by
  rw [slook_find] at h
  cases hq : L[sfind L x]? with
  | none => rw [hq] at h; cases h
  | some y =>
    have h1 := List.findIdx_getElem (p := fun z : ByteArray × Int × ByteArray => decide (z.1 = x)) (xs := L) (w := (List.getElem?_eq_some_iff.1 hq).1)
    obtain ⟨hl, he⟩ := List.getElem?_eq_some_iff.1 hq
    have h2 : decide (y.1 = x) = true := by
      rw [← he]
      exact h1
    exact List.mem_map.2 ⟨y, List.mem_of_getElem? hq, of_decide_eq_true h2⟩

theorem mem_slook {L : Sl} {x : ByteArray} (h : x ∈ L.map (·.1)) : (slook L x).isSome = true := by
  obtain ⟨y, hy, rfl⟩ := List.mem_map.1 h
  unfold slook
  cases hq : L.find? (fun z => decide (z.1 = y.1)) with
  | some z => rfl
  | none =>
    have := List.find?_eq_none.1 hq y hy
    simp at this

theorem mg_len {w : World} {b n : Nat} {g : ByteArray → Option Value} (h : Mg w b n g) {l : List ByteArray} (hl : ∀ x, (g x).isSome = true → x ∈ l) : n ≤ l.length ∧ ∀ x, (g x).isSome = true → x.size ≤ maxLen := by
  obtain ⟨es, cl, hb, hst, hkeys, hn, hg⟩ := h
  have hpw := ((MapKept.stamped_iff _ _).1 hst).2.2
  obtain ⟨ks, hks⟩ : ∃ ks : List ByteArray, ks = es.toList.map (fun e => match e.key with | .string k => k | _ => ⟨#[]⟩) := ⟨_, rfl⟩
  have hnd : ks.Nodup := by
    rw [hks]
    refine List.pairwise_map.2 (hpw.imp_of_mem fun {p q} hp' hq' hne e => hne ?_)
    obtain ⟨k1, hk1, _⟩ := hkeys p hp'
    obtain ⟨k2, hk2, _⟩ := hkeys q hq'
    rw [hk1, hk2] at e ⊢
    simp only at e
    rw [e]
  have hin : ∀ x ∈ ks, x ∈ l := by
    intro x hx
    rw [hks] at hx
    obtain ⟨e, he, hx⟩ := List.mem_map.1 hx
    obtain ⟨k, hk, _⟩ := hkeys e he
    rw [hk] at hx
    simp only at hx
    subst hx
    refine hl k ?_
    rw [(hg k e.val).2 ⟨e, he, hk, rfl⟩]
    rfl
  have h1 := nodup_le ks l hnd hin
  have h2 : ks.length = n := by rw [hks, List.length_map, ← hn]; simp
  refine ⟨by omega, fun x hx => ?_⟩
  obtain ⟨v, hv⟩ := Option.isSome_iff_exists.1 hx
  obtain ⟨e, he, hk, _⟩ := (hg x v).1 hv
  obtain ⟨k, hk2, hs⟩ := hkeys e he
  rw [hk] at hk2
  cases hk2
  exact hs

theorem src_of_sw {w : World} {base : Nat} {a : Option Addr} {n c : Nat} {zs : List ByteArray} (h : Sw w base (.slice a n c) zs) (hn : zs.length ≤ 1100000) (hz : ∀ x ∈ zs, x.size ≤ 140000000) : Src w 30 (.ls a n c (zs.map Md.str)) := by
  have hfl : flds Tryz.prog 9 = [9] := flds_ktexts0_any
  have hu : Tryz.prog.underlying 30 = some (.slice 9) := Tryz.underlying30
  have hby : Tryz.prog.bytesOf 9 = 16 := by kernel_rfl
  have hstr : ∀ (i : Nat) (m : Md), (zs.map Md.str)[i]? = some m → ∃ x ∈ zs, m = .str x := by
    intro i m hi
    rw [List.getElem?_map] at hi
    cases hq : zs[i]? with
    | none => rw [hq] at hi; cases hi
    | some x => rw [hq] at hi; cases hi; exact ⟨x, List.mem_of_getElem? hq, rfl⟩
  have hmod : ∀ i F, (flds Tryz.prog 9)[i % (flds Tryz.prog 9).length]? = some F → F = 9 := by
    intro i F hF
    rw [hfl] at hF
    simp [Nat.mod_one] at hF
    exact hF.symm
  obtain ⟨h1, h2⟩ := h
  rcases h2 with ⟨h0, hz0⟩ | ⟨g, cap, cur, h0, _, h2, h3, h4, h5, h6⟩
  · cases h0
    have hzs : zs = [] := List.eq_nil_of_length_eq_zero hz0
    subst hzs
    exact ⟨.ls hu (Nat.le_refl _) (Nat.zero_le _) (fun _ => rfl) (by simp) (fun h => absurd h (by omega)) (fun i m F hi => by simp at hi), .ls hu (by simp) (fun i m F hi => by simp at hi)⟩
  · cases h0
    refine ⟨.ls hu h3 h4 (fun e => by cases e) (by rw [hfl]; simp) (fun _ => ⟨g, 0, rfl, (Array.getElem?_eq_some_iff.1 h2).1, fun i m hi => ?_⟩) (fun i m F hi hF => ?_), .ls hu ?_ (fun i m F hi hF => ?_)⟩
    · have hil : i < zs.length := by have := (List.getElem?_eq_some_iff.1 hi).1; simpa using this
      have h7 : (cur.toList.take (zs.length * 1))[i]? = some m.val := by
        rw [h6, List.getElem?_map]
        rw [List.getElem?_map] at hi
        cases hq : zs[i]? with
        | none => rw [hq] at hi; cases hi
        | some x => rw [hq] at hi; cases hi; rfl
      rw [List.getElem?_take_of_lt (by omega)] at h7
      have := (Ob.mk h2).cell i (by simpa using h7)
      simpa using this
    · obtain ⟨x, hx, rfl⟩ := hstr i m hi
      have hF' := hmod i F hF
      subst hF'
      exact .str Tryz.underlying9 (by have := hz x hx; unfold maxLen; omega)
    · rw [hby]; omega
    · obtain ⟨x, hx, rfl⟩ := hstr i m hi
      exact .str (by have := hz x hx; omega)

theorem sb_of_cpy {w : World} {lo : Nat} {A : TypeId → Prop} {a : Option Addr} {n c : Nat} {zs : List ByteArray} {v : Value} (h : Cpy w lo A 30 (.ls a n c (zs.map Md.str)) v) (hn : n = zs.length) : ∃ a' c', v = .slice a' n c' ∧ Sb w a' n c' zs := by
  have hfl : flds Tryz.prog 9 = [9] := flds_ktexts0_any
  obtain ⟨m', rfl, ho, hal⟩ := h
  cases hal with
  | ls hl hall =>
    rename_i a' c' ms'
    refine ⟨a', c', rfl, ?_⟩
    have hms : ms' = zs.map Md.str := by
      refine List.ext_getElem? (fun i => ?_)
      rcases at_both hl i with ⟨e1, e2⟩ | ⟨m, m', e1, e2⟩
      · rw [e1, e2]
      · have h1 := hall i m m' e1 e2
        rw [List.getElem?_map] at e1
        cases hq : zs[i]? with
        | none => rw [hq] at e1; cases e1
        | some x =>
          rw [hq] at e1
          cases e1
          rw [e2, List.getElem?_map, hq]
          cases h1
          rfl
    subst hms
    cases ho with
    | ls hT hA hrow hk =>
      rename_i E
      have hE : E = 9 := by
        have := Tryz.underlying30
        rw [this] at hT
        cases hT
        rfl
      subst hE
      rw [hfl] at hrow
      have hvs : (zs.map Md.str).map Md.val = zs.map Value.string := by rw [List.map_map]; rfl
      rw [hvs] at hrow
      subst hn
      exact Sb.of_own (w := w) (base := lo) hrow

set_option maxRecDepth 100000 in
set_option maxHeartbeats 16000000 in
theorem pnames (W : World) {bp bs be : Nat} {vf : Value} {h : Sy} {R : Option Addr → Prop} (hP : Hid (Px R W bp bs be vf h)) (l : List ByteArray) (hl : Hid (∀ x, (h x).isSome = true → x ∈ l)) (hll : l.length ≤ 1048576) (hsz : Hid (∀ x ∈ l, x.size ≤ 140000000)) :
    Calls Tryz.prog 13 #[.pointer (some ⟨bp, 0, none⟩)] W fun e W' => ∃ a n c zs, e = .returned (.slice a n c) ∧ Sb W' a n c zs ∧ Ris zs ∧ (∀ x, x ∈ zs ↔ (h x).isSome = true) ∧ Below W.heap.size W W' := by
  obtain ⟨n, g, hq, hg⟩ := hP.out
  obtain ⟨va, vn, vc, rfl⟩ := hq.sl
  have Q : Hid _ := pthere bp va vn vc (some bs) (some be) W hq.blk
  have hgh : ∀ x, (g x).isSome = (h x).isSome := px_get hg
  obtain ⟨hnl, _⟩ := mg_len hq.sym (l := l) (fun x hx => hl.out x (by rw [← hgh]; exact hx))
  have HGH : Hid _ := hgh
  have HN : Hid (n ≤ 1048576) := Nat.le_trans hnl hll
  have HM : Hid (Mg W bs n g) := hq.sym
  have hf1 : ∀ w, (Instr.field 96 (.agg #[.slice va vn vc, .map (some bs), .map (some be)]) 1).run Tryz.prog w = .ok (.map (some bs)) w := fun w => by kernel_rfl
  clear hq hg hgh hnl hP
  go_enter Tryz.func13, Tryz.ntmps13
  go_wp2_with fail
  refine Calls.mono Q.out ?_
  rintro e w1 ⟨rfl, hb1⟩
  have QK : Hid _ := pkeys_any (some bs) w1
  have HM1 : Hid (Mg w1 bs n g) := HM.out.below hb1 HM.out.lt
  have QS : Hid _ := psortedM (show Hid _ from HM1.out) (by have := HN.out; omega)
  have HB1 : Hid (Below W.heap.size W w1) := hb1
  clear hb1 Q
  go_wp2_with fail
  refine Calls.mono QK.out ?_
  rintro e w2 ⟨rfl, rfl⟩
  go_wp2_with fail
  refine Calls.mono QS.out ?_
  rintro e w3 ⟨v, zs, rfl, hsw, hris, hmem, hb3⟩
  obtain ⟨a, c, rfl⟩ := hsw.slice
  have hzl : zs.length ≤ 1100000 := by
    have hnd : zs.Nodup := hris.imp (fun {x y} hxy e => by subst e; rw [slt_irrefl] at hxy; cases hxy)
    have := nodup_le zs l hnd (fun x hx => hl.out x (by rw [← HGH.out]; exact (hmem x).1 hx))
    omega
  have HSRC : Hid (Src w3 30 (.ls a zs.length c (zs.map Md.str))) := src_of_sw hsw hzl (fun x hx => hsz.out x (hl.out x (by rw [← HGH.out]; exact (hmem x).1 hx)))
  have QT : Hid _ := ktexts_any (fun _ => True) trivial a zs.length c (zs.map Md.str) w3 HSRC
  have HB3 : Hid (Below W.heap.size W w3) := by
    have h1 : Below w1.heap.size w1 (w1.alloc (.cells #[.map (some bs)] 88)) := (Below.refl _ _).alloc (Nat.le_refl _) _
    have h2 : Below w1.heap.size (w1.alloc (.cells #[.map (some bs)] 88)) w3 := hb3.mono (by omega)
    exact HB1.out.trans ((h1.trans h2).mono HB1.out.size)
  have HRIS : Hid (Ris zs ∧ ∀ x, x ∈ zs ↔ (g x).isSome = true) := ⟨hris, hmem⟩
  clear hsw hris hmem hb3 hzl QK QS HM1
  go_wp2_with fail
  refine Calls.mono QT.out ?_
  rintro e w4 ⟨v, rfl, hc, hb4⟩
  obtain ⟨a', c', rfl, hsb⟩ := sb_of_cpy hc rfl
  have HSB : Hid _ := hsb
  have HB4 : Hid (Below W.heap.size W w4) := HB3.out.trans (hb4.mono HB3.out.size)
  clear hc hb4 hsb QT
  go_wp2
  go_ret
  exact ⟨a', zs.length, c', zs, rfl, HSB.out, HRIS.out.1, fun x => by rw [HRIS.out.2 x, HGH.out x], HB4.out⟩

theorem wpList_val {P : Program} {ops : Array Oper} {rest : List Oper} {o : Oper} {a : Act} {w w' : World} {Q : Exit → Act → World → Prop} {v : Value} (hg : o.guard = none) (hr : (execOp a.eval o).run P w = .ok (.value v) w') (h : wpList P ops Q rest (a.put o.dst v) w') : wpList P ops Q (o :: rest) a w :=
  wpList_plain hg fun _ hK => by
    unfold Oper.wp
    rw [hr]
    exact hK _ _ h

theorem sym_size {cs : List Value} (h : cs.length = 31) : (Tryz.prog.info? 47).map (·.size) = some cs.toArray.size := by
  rw [List.size_toArray, h]
  kernel_rfl

theorem exec_load_mid {a : Act} {o : Oper} {x : Operand} {V : World} {b off : Nat} {cs : List Value} (ho : o.op = .load 47 x) (hx : a.eval x = .pointer (some ⟨b, off, none⟩)) (hl : cs.length = 31) (h : V.rangeAt b off cs) : (execOp a.eval o).run Tryz.prog V = .ok (.value (.agg cs.toArray)) V := by
  cases hq : Tryz.prog.underlying 47 with
  | none => have := structSym; rw [hq] at this; cases this
  | some d =>
    have h0 := structSym
    rw [hq] at h0
    have hr := run_loadAt_mid (P := Tryz.prog) V b off 47 cs d h hq (by cases d <;> first | rfl | cases h0) (by rw [hl]; kernel_rfl)
    unfold execOp
    simp only [ho, hx, Sem.run_bind, hr, Result.andThen_ok, Sem.run_pure]

theorem setRow_alloc (w : World) (old cs : Array Value) (T : TypeId) : (w.alloc (.cells old T)).setRow w.heap.size cs = w.alloc (.cells cs T) := by
  simp only [World.setRow, World.alloc]
  congr 1
  apply Array.ext_getElem?
  intro i
  rw [Array.getElem?_modify]
  by_cases h : w.heap.size = i
  · subst h; simp
  · simp only [h, if_false, Array.getElem?_push]
    split
    · rename_i e; exact absurd e.symm h
    · rfl

theorem hput_len9 : ∀ (l : List ByteArray) (s : ByteArray), (hput l s).length ≤ l.length + 1
  | [], s => by simp [hput]
  | x :: r, s => by
    have := hput_len9 r s
    rw [hput]
    split
    · simp only [List.length_cons]; omega
    · split <;> simp only [List.length_cons] <;> omega

set_option maxRecDepth 100000 in
set_option maxHeartbeats 16000000 in
theorem rnames (W : World) {B0 gp : Nat} {fv : Value} {hm : ByteArray} {L : Sl} (hP : Hid (Rp W B0 gp fv hm (L, none))) (hL : L.length ≤ 1048576) :
    Calls Tryz.prog 14 #[.pointer (some ⟨gp, 0, none⟩)] W fun e W' => ∃ a n c, e = .returned (.slice a n c) ∧ Sb W' a n c ((L.map (·.1)).foldl hput []) ∧ Below W.heap.size W W' := by
  obtain ⟨sv, nm, e, xs, q1, _, _, ho, h6, hx⟩ := hP.out.blk
  have H6 : Hid (∀ u ∈ xs, u.oneCell' = true) := h6
  clear h6
  have b0 : W.cell? ⟨gp, 0, none⟩ = some sv := q1.cell 0 rfl
  have bl := q1.lt
  have HLL : Hid (L.length ≤ 1048576) := hL
  rcases ho.2 with ⟨rfl, h0⟩ | ⟨g, cap, cur, rfl, hg0, hg, hnc, hcm, hcs, hct⟩
  · have hL0 : L = [] := List.eq_nil_of_length_eq_zero h0
    subst hL0
    clear ho hx q1 hP
    go_enter Tryz.func14, Tryz.ntmps14
    go_wp2
    go_loopw [3, 11] (fun v3 v wr => v3 = .slice none 0 0 ∧ v = .int .i64 0 ∧ W = wr) (fun _ _ _ => 0)
    case atStart => exact ⟨rfl, rfl, rfl⟩
    case round =>
      obtain ⟨rfl, rfl, rfl⟩ := hrel
      go_wp2
      go_ret
      exact ⟨none, 0, 0, rfl, Sb.nil _, Below.refl _ _⟩
  · have HX : Hid (∀ i x, L[i]? = some x → xs[i * 31]? = some (.string x.1)) := fun i x h => (hx i x h).1
    have HG : Hid (W.heap[g]? = some (.cells cur 47 (0, 0))) := hg
    have HCT : Hid (cur.toList.take (L.length * 31) = xs) := hct
    have HCS : Hid (cur.size = cap * 31 ∧ L.length ≤ cap) := ⟨hcs, hnc⟩
    have HPX : Hid _ := hP
    have hgl : g < W.heap.size := (Array.getElem?_eq_some_iff.1 hg).1
    have hlm := HLL.out
    clear ho hx q1 hP hg hct hcs hnc hcm
    go_enter Tryz.func14, Tryz.ntmps14
    go_wp2
    go_loopw [3, 11] (fun v3 v wr => ∃ (k : Nat) (a : Option Addr) (n c : Nat), v3 = .slice a n c ∧ v = .int .i64 (k : Int) ∧ k ≤ L.length ∧ Hid (Sb wr a n c (((L.take k).map (·.1)).foldl hput [])) ∧ Hid (n ≤ k) ∧ Hid (∀ ad, a = some ad → ∃ b off, ad = ⟨b, off, none⟩) ∧ Hid (Below W.heap.size W wr)) (fun _ v _ => L.length - (intOf v).toNat)
    case atStart => exact ⟨0, none, 0, 0, rfl, rfl, Nat.zero_le _, Sb.nil _, Nat.le_refl _, fun _ e => (by cases e), Below.refl _ _⟩
    case round =>
      obtain ⟨k, a, n, c, rfl, rfl, hk, HS, HN, HA, HB⟩ := hrel
      by_cases hlk : k < L.length
      · obtain ⟨x, hxk⟩ : ∃ x, L[k]? = some x := ⟨L[k], List.getElem?_eq_getElem hlk⟩
        obtain ⟨cs, hcsl, hcs0, hrange, hone⟩ : ∃ cs : List Value, cs.length = 31 ∧ cs[0]? = some (.string x.1) ∧ wr.rangeAt g (k * 31) cs ∧ cs.toArray.all (·.oneCell') = true := by
          have hxl : xs.length = L.length * 31 := by rw [← HCT.out, List.length_take]; have := HCS.out; simp; omega
          refine ⟨(xs.drop (k * 31)).take 31, by rw [List.length_take, List.length_drop]; omega, ?_, fun j v hj => ?_, ?_⟩
          · rw [List.getElem?_take_of_lt (by omega), List.getElem?_drop]
            simpa using HX.out k x hxk
          · have hj31 : j < 31 := by have := (List.getElem?_eq_some_iff.1 hj).1; rw [List.length_take] at this; omega
            rw [List.getElem?_take_of_lt hj31, List.getElem?_drop, ← HCT.out, List.getElem?_take_of_lt (by omega)] at hj
            exact (HB.out.cell (p := ⟨g, k * 31 + j, none⟩) hgl).trans ((Ob.mk HG.out).cell (k * 31 + j) (by simpa using hj))
          · rw [Array.all_eq_true_iff_forall_mem]
            intro u hu
            exact H6.out u (List.mem_of_mem_drop (List.mem_of_mem_take (by simpa using hu)))
        have htk : ((L.take (k + 1)).map (·.1)).foldl hput [] = hput (((L.take k).map (·.1)).foldl hput []) x.1 := by
          rw [List.take_add_one, hxk, List.map_append, List.foldl_append]
          rfl
        obtain ⟨w4, hw4⟩ : ∃ w4, w4 = wr.alloc (.cells cs.toArray 47) := ⟨_, rfl⟩
        have hb4 : Below wr.heap.size wr w4 := by rw [hw4]; exact (Below.refl _ _).alloc (Nat.le_refl _) _
        have o4 : Ob w4 wr.heap.size cs.toArray 47 := by rw [hw4]; exact Ob.new _ _ _
        have y0 : w4.cell? ⟨wr.heap.size, 0, none⟩ = some (.string x.1) := o4.cell 0 (by simpa using hcs0)
        have yl := o4.lt
        have hgw := Nat.lt_of_lt_of_le hgl HB.out.size
        have QP : Hid _ := rhput_any x.1 (show Hid _ from HS.out.below hb4) (by have := HN.out; omega) HA.out
        have HB4 : Hid (Below W.heap.size W w4) := HB.out.trans (hb4.mono HB.out.size)
        have HTK : Hid _ := htk
        have HW4 : Hid _ := hw4
        have b0' : wr.cell? ⟨gp, 0, none⟩ = some (.slice (some ⟨g, 0, none⟩) L.length cap) := (HB.out.cell (p := ⟨gp, 0, none⟩) bl).trans b0
        have HLN : Hid ((((L.take k).map (·.1)).foldl hput []).length ≤ n) := Nat.le_of_eq HS.out.hlen
        have HS4 : Hid _ := HS.out.below hb4
        clear hxk htk hw4 hb4 o4 HB HS hcs0
        generalize x.1 = F at *
        go_upto_region 4 with fail
        refine wp_region_lit ?_
        refine wpList_val (v := .pointer (some ⟨g, k * 31, none⟩)) (w' := wr) rfl ?_ ?_
        · go_simp
          try with_reducible rfl
        (try simp only [Act.put, List.setIfInBounds_toArray, List.set_cons_zero, List.set_cons_succ])
        refine wpList_val (w' := wr) rfl (exec_load_mid (x := .tmp 13) (b := g) (off := k * 31) rfl rfl hcsl hrange) ?_
        (try simp only [Act.put, List.setIfInBounds_toArray, List.set_cons_zero, List.set_cons_succ])
        refine wpList_val (v := .pointer (some ⟨wr.heap.size, 0, none⟩)) (w' := wr.alloc (.cells #[.string ⟨#[]⟩, .int .i64 0, .string ⟨#[]⟩, .string ⟨#[]⟩, .slice none 0 0, .slice none 0 0, .slice none 0 0, .slice none 0 0, .slice none 0 0, .slice none 0 0, .slice none 0 0, .slice none 0 0, .slice none 0 0, .slice none 0 0, .string ⟨#[]⟩, .slice none 0 0, .slice none 0 0, .slice none 0 0, .string ⟨#[]⟩, .int .i64 0, .int .i64 0, .int .i64 0, .string ⟨#[]⟩, .string ⟨#[]⟩, .string ⟨#[]⟩, .bool false, .int .i64 0, .string ⟨#[]⟩, .bool false, .slice none 0 0, .slice none 0 0] 47)) rfl ?_ ?_
        · clear hcsl hrange hone
          go_simp
          try with_reducible rfl
        (try simp only [Act.put, List.setIfInBounds_toArray, List.set_cons_zero, List.set_cons_succ])
        refine wpList_store_row rfl 47 (.tmp 5) (.tmp 14) rfl wr.heap.size cs.toArray rfl rfl 47 #[.string ⟨#[]⟩, .int .i64 0, .string ⟨#[]⟩, .string ⟨#[]⟩, .slice none 0 0, .slice none 0 0, .slice none 0 0, .slice none 0 0, .slice none 0 0, .slice none 0 0, .slice none 0 0, .slice none 0 0, .slice none 0 0, .slice none 0 0, .string ⟨#[]⟩, .slice none 0 0, .slice none 0 0, .slice none 0 0, .string ⟨#[]⟩, .int .i64 0, .int .i64 0, .int .i64 0, .string ⟨#[]⟩, .string ⟨#[]⟩, .string ⟨#[]⟩, .bool false, .int .i64 0, .string ⟨#[]⟩, .bool false, .slice none 0 0, .slice none 0 0] (heap_alloc_new _ _) (sym_size hcsl) (by simp [hcsl]) hone ?_
        rw [setRow_alloc, ← HW4.out]
        clear HW4 b0' hcsl hrange hone
        show Exit.then _ _ _ _ _
        go_wp2_with fail
        refine Calls.mono QP.out ?_
        rintro e w5 ⟨v', rfl, hv, hb5⟩
        have HB5 : Hid (Below W.heap.size W w5) := HB4.out.trans (hb5.mono HB4.out.size)
        have HV : Hid (∃ a' n' c', v' = .slice a' n' c' ∧ Sb w5 a' n' c' (((L.take (k + 1)).map (·.1)).foldl hput []) ∧ n' ≤ k + 1 ∧ ∀ ad, a' = some ad → ∃ b off, ad = ⟨b, off, none⟩) := by
          show ∃ a' n' c', _
          rw [HTK.out]
          rcases hv with ⟨rfl, he⟩ | hsw
          · refine ⟨a, n, c, rfl, ?_, by have := HN.out; omega, HA.out⟩
            rw [he]
            exact HS4.out.below hb5
          · obtain ⟨a', c', rfl⟩ := hsw.slice
            refine ⟨a', _, c', rfl, Sb.of_own hsw, ?_, fun ad e => ?_⟩
            · have h1 := hput_len9 (((L.take k).map (·.1)).foldl hput []) F
              have h2 := HLN.out
              have h3 := HN.out
              omega
            · subst e
              rcases hsw.2 with ⟨h0, _⟩ | ⟨g1, cap1, cur1, h0, _⟩
              · cases h0
              · cases h0; exact ⟨g1, 0, rfl⟩
        obtain ⟨a', n', c', rfl, hs', hn', ha'⟩ := HV.out
        have HS' : Hid _ := hs'
        have HN' : Hid (n' ≤ k + 1) := hn'
        have HA' : Hid _ := ha'
        clear hv hb5 HV hs' hn' ha' QP y0 yl HS4 HTK HLN
        go_wp2
        go_roundw
        case rel => first | exact ⟨k + 1, a', n', c', rfl, by go_num, by omega, HS', HN', HA', HB5⟩ | ((repeat apply Exists.intro); exact ⟨⟨k + 1, a', n', c', rfl, by go_num, by omega, HS', HN', HA', HB5⟩, rfl⟩)
        case measure => simp [intOf]; omega
      · have hkn : k = L.length := by omega
        have HS' : Hid (Sb wr a n c ((L.map (·.1)).foldl hput [])) := by have h := HS.out; rw [hkn, List.take_length] at h; exact h
        go_wp2
        go_ret
        exact ⟨a, n, c, rfl, HS'.out, HB.out⟩

set_option maxRecDepth 100000 in
set_option maxHeartbeats 16000000 in
theorem pmakes_walk (w0 : World) (a : Option Addr) (n c : Nat) (ms : List Md) (HS : Hid (Src w0 22 (.ls a n c ms) ∧ Nm (.ls a n c ms))) (HT : Hid (totL ms ≤ 1048576)) :
    Calls Tryz.prog 3 #[.slice a n c] w0 fun e W' => e = .returned (.bool true) ∧ Below w0.heap.size w0 W' := by
  have QW : Hid _ := vawake_any w0
  go_enter Tryz.func3, Tryz.ntmps3
  go_wp2_with fail
  refine Calls.mono QW.out ?_
  rintro e w1 ⟨rfl, hb1⟩
  have HB1 : Hid _ := hb1
  have QA : Hid _ := allF w0 w1 (show Hid _ from hb1) a n c ms HS
  clear hb1 QW
  go_wp2_with fail
  refine Calls.mono QA.out ?_
  rintro e w2 ⟨bb, rfl, hb2⟩
  have HB2 : Hid (Below w0.heap.size w0 w2) := HB1.out.trans (hb2.mono HB1.out.size)
  clear hb2 QA
  rcases bb with _ | _
  · go_wp2
    go_ret
    exact ⟨rfl, HB2.out⟩
  · have HS2 : Hid (Src w2 22 (.ls a n c ms) ∧ Nm (.ls a n c ms)) := ⟨HS.out.1.under' HB2.out, HS.out.2⟩
    have QB : Hid _ := bothF w2 a n c ms HS2 HT
    go_wp2_with fail
    refine Calls.mono QB.out ?_
    rintro e w3 ⟨hb3, hc3⟩
    have HB3 : Hid (Below w0.heap.size w0 w3) := HB2.out.trans (hb3.mono HB2.out.size)
    clear hb3 QB
    rcases hc3 with rfl | ⟨bp, bs, be, vf, Z, h, B0, gp, hm, L, rfl, hbp, hpx, hzw, hB0, hrp, hsl, hlen, hsz⟩
    · go_wp2
      go_ret
      exact ⟨rfl, HB3.out⟩
    · have QN : Hid _ := pnames w3 (show Hid _ from hpx) (L.map (·.1)) (show Hid _ from fun x hx => by rw [← hsl] at hx; exact slook_mem hx) (by rw [List.length_map]; exact hlen) (show Hid _ from fun x hx => by
        obtain ⟨y, hy, rfl⟩ := List.mem_map.1 hx
        exact hsz y hy)
      have HRP : Hid _ := hrp
      have HSL : Hid (slook L = h) := hsl
      have HLEN : Hid (L.length ≤ 1048576) := hlen
      clear hbp hpx hzw hB0 hrp hsl hlen hsz
      go_wp2_with fail
      refine Calls.mono QN.out ?_
      rintro e w4 ⟨a1, n1, c1, zs, rfl, hs1, hris, hmem, hb4⟩
      have HB4 : Hid (Below w0.heap.size w0 w4) := HB3.out.trans (hb4.mono HB3.out.size)
      have QR : Hid _ := rnames w4 (show Hid _ from HRP.out.below hb4) HLEN.out
      have HS1 : Hid _ := hs1
      have HRM : Hid (Ris zs ∧ ∀ x, x ∈ zs ↔ (h x).isSome = true) := ⟨hris, hmem⟩
      clear hs1 hris hmem hb4 QN
      go_wp2_with fail
      refine Calls.mono QR.out ?_
      rintro e w5 ⟨a2, n2, c2, rfl, hs2, hb5⟩
      have HB5 : Hid (Below w0.heap.size w0 w5) := HB4.out.trans (hb5.mono HB4.out.size)
      have QS : Hid _ := rhsame_any (show Hid _ from HS1.out.below hb5) (show Hid _ from hs2)
      have HEQ : Hid (zs = (L.map (·.1)).foldl hput []) := by
        obtain ⟨hr, hm⟩ := foldl_put (L.map (·.1)) [] List.Pairwise.nil
        refine ris_ext _ _ HRM.out.1 hr (fun x => ?_)
        rw [HRM.out.2 x, hm x, ← HSL.out]
        constructor
        · intro hx; exact .inr (slook_mem hx)
        · rintro (hx | hx)
          · cases hx
          · exact mem_slook hx
      clear hs2 hb5 QR
      go_wp2_with fail
      refine Calls.mono QS.out ?_
      rintro e w6 ⟨rfl, hb6⟩
      have HB6 : Hid (Below w0.heap.size w0 w6) := HB5.out.trans (hb6.mono HB5.out.size)
      have HE : Hid (decide (zs = (L.map (·.1)).foldl hput []) = true) := decide_eq_true HEQ.out
      rw [HE.out]
      clear hb6 QS
      go_wp2
      go_ret
      exact ⟨rfl, HB6.out⟩

end Go.Proofs.YtmhbjkoabbmfpaaGreat
