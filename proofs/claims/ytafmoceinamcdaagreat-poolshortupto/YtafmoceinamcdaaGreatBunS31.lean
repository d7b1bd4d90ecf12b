/- Put together by a program out of these texts of mine: VRg. -/
import Derived.Test.YtafmoceinamcdaaGreatBunS30

namespace Go.Proofs.YtafmoceinamcdaaGreat
open Go.RowKit
set_option linter.unusedVariables false
set_option linter.unusedSimpArgs false

def slen : Value → Nat
  | .string s => s.size
  | _ => 0

theorem byts_get9 {s : List Int} (h : byts s) (i : Nat) : 0 ≤ s.getD i 0 ∧ s.getD i 0 ≤ 255 := by
  rw [List.getD_eq_getElem?_getD]
  rcases Nat.lt_or_ge i s.length with hi | hi
  · rw [List.getElem?_eq_getElem hi]
    exact h _ (List.getElem_mem hi)
  · rw [List.getElem?_eq_none hi]
    exact ⟨by simp, by simp⟩

def pkL (sp : List Int) : List (ByteArray × Int) := (pchain (sp.length + 1) sp).map fun t => (strOfNums t, (1 : Int))

theorem pchain_len : ∀ (g : Nat) (s : List Int), (pchain g s).length ≤ g
  | 0, s => by simp [pchain]
  | g + 1, s => by
    unfold pchain
    split
    · simp
    · have := pchain_len g (nparent s).1
      simp only [List.length_cons]
      omega

theorem pkL_len (sp : List Int) : (pkL sp).length ≤ sp.length + 1 := by
  unfold pkL
  rw [List.length_map]
  exact pchain_len _ _

theorem Rp.home {w : World} {B0 gp : Nat} {fv : Value} {hm : ByteArray} {st : Sl × Option ByteArray} (h : Rp w B0 gp fv hm st) (s0 : ByteArray) : Rp (w.setCell ⟨gp, 4, none⟩ (.string s0)) B0 gp fv s0 st ∧ Fr B0 w (w.setCell ⟨gp, 4, none⟩ (.string s0)) := by
  obtain ⟨sv, nm, e, xs, h1, h2, h3, h4, h6', h5⟩ := h.blk
  have hf := fx1 w gp 4 (.string s0)
  refine ⟨⟨h.ge, sv, nm, e, xs, by have := h1.set 4 (.string s0); simpa using this, h2, h3, owns_fx hf h4 (fun b e e2 => ?_), h6', h5⟩, hf.mono (fun b e => ?_)⟩
  · have e3 : b = gp := e2
    subst e3
    rcases h4.2 with ⟨h0, _⟩ | ⟨g, cap, cur, h0, _, h6, _⟩
    · rw [h0] at e; cases e
    · rw [h0] at e; cases e
      rw [h1.eq] at h6
      cases h6
  · have e' : b = gp := e
    subst e'
    exact ⟨h.ge, _, .inl h1.eq⟩

set_option maxRecDepth 100000 in
set_option maxHeartbeats 16000000 in
theorem rfile_any (W : World) (w0 : World) (B0 gp : Nat) (HBW0 : Hid (B0 ≤ W.heap.size)) (HW0 : Hid (w0.heap.size ≤ B0)) (HB00 : Hid (Below w0.heap.size w0 W)) (fv : Value) (hm : ByteArray) (st : Sl × Option ByteArray) (HP0 : Hid (Rp W B0 gp fv hm st)) (sp : List Int) (HSP : Hid (byts sp ∧ sp.length ≤ 2000000)) (s0 s8 : ByteArray) (a2 : Option Addr) (n2 k2 : Nat) (a3 : Option Addr) (n3 k3 : Nat) (a4 : Option Addr) (n4 k4 : Nat) (m4 : List Md) (a5 : Option Addr) (n5 k5 : Nat) (m5 : List Md) (a6 : Option Addr) (n6 k6 : Nat) (m6 : List Md) (a7 : Option Addr) (n7 k7 : Nat) (m7 : List Md) (a9 : Option Addr) (n9 k9 : Nat) (a10 : Option Addr) (n10 k10 : Nat) (HS : Hid ((Src w0 34 (.ls a4 n4 k4 m4) ∧ Nm (.ls a4 n4 k4 m4)) ∧ (Src w0 35 (.ls a5 n5 k5 m5) ∧ Nm (.ls a5 n5 k5 m5)) ∧ (Src w0 60 (.ls a6 n6 k6 m6) ∧ Nm (.ls a6 n6 k6 m6)) ∧ (Src w0 33 (.ls a7 n7 k7 m7) ∧ Nm (.ls a7 n7 k7 m7)))) (HOK : Hid (okd 64 n4 m4 = true)) (HC : Hid (st.1.length + ((pkL sp).length + (partL sp m4 n4 m5 n5 m6 n6 m7 n7).length) ≤ 900000000)) :
    Calls Tryz.prog 73 #[.pointer (some ⟨gp, 0, none⟩), .agg #[.string s0, .string (strOfNums sp), .slice a2 n2 k2, .slice a3 n3 k3, .slice a4 n4 k4, .slice a5 n5 k5, .slice a6 n6 k6, .slice a7 n7 k7, .string s8, .slice a9 n9 k9, .slice a10 n10 k10]] W fun e W' => Aend W B0 gp fv s0 ((pkL sp ++ partL sp m4 n4 m5 n5 m6 n6 m7 n7).foldl (radd s0) st) e W' := by
  have HALL : Hid (pkL sp ++ partL sp m4 n4 m5 n5 m6 n6 m7 n7 = (((((pkL sp) ++ msgL 64 sp m4 n4) ++ enumL sp m5 n5) ++ servL sp m6 n6) ++ valL sp 6 13 m7 n7)) := by
    show _ = _
    unfold partL
    simp [List.append_assoc]
  have HLEN : Hid (st.1.length + ((pkL sp).length + ((msgL 64 sp m4 n4).length + ((enumL sp m5 n5).length + ((servL sp m6 n6).length + n7)))) ≤ 900000000) := by
    have h := HC.out
    unfold partL at h
    simp only [List.length_append, valL_len] at h
    show _ ≤ _
    omega
  have HSQ9 : Hid (sp.length + 63 * 2000001 ≤ 300000000) := by have := HSP.out.2; show _ ≤ _; omega
  have hn4 : n4 ≤ 9223372036854775807 := by obtain ⟨⟨h, _⟩, _⟩ := HS.out.1; cases h with | ls hT hnc hm hnil hlen hmem hk => unfold maxLen at hm; omega
  have hn5 : n5 ≤ 9223372036854775807 := by obtain ⟨⟨h, _⟩, _⟩ := HS.out.2.1; cases h with | ls hT hnc hm hnil hlen hmem hk => unfold maxLen at hm; omega
  have hn6 : n6 ≤ 9223372036854775807 := by obtain ⟨⟨h, _⟩, _⟩ := HS.out.2.2.1; cases h with | ls hT hnc hm hnil hlen hmem hk => unfold maxLen at hm; omega
  obtain ⟨w1, hw1⟩ : ∃ V, V = W.alloc (.cells #[.string s0, .string (strOfNums sp), .slice a2 n2 k2, .slice a3 n3 k3, .slice a4 n4 k4, .slice a5 n5 k5, .slice a6 n6 k6, .slice a7 n7 k7, .string s8, .slice a9 n9 k9, .slice a10 n10 k10] 62) := ⟨_, rfl⟩
  have HB1 : Hid (Below W.heap.size W w1) := by rw [hw1]; exact (Below.refl _ _).alloc (Nat.le_refl _) _
  have on : Ob w1 W.heap.size #[.string s0, .string (strOfNums sp), .slice a2 n2 k2, .slice a3 n3 k3, .slice a4 n4 k4, .slice a5 n5 k5, .slice a6 n6 k6, .slice a7 n7 k7, .string s8, .slice a9 n9 k9, .slice a10 n10 k10] 62 := by rw [hw1]; exact Ob.new _ _ _
  have O1 : Hid _ := on
  have HWN : Hid _ := hw1
  have hwn := hw1
  clear hw1
  have hrp1 := HP0.out.below HB1.out
  obtain ⟨hh1, hh2⟩ := hrp1.home s0
  obtain ⟨w2, hw2⟩ : ∃ V, V = w1.setCell ⟨gp, 4, none⟩ (.string s0) := ⟨_, rfl⟩
  rw [← hw2] at hh1 hh2
  have HF2 : Hid (Fr B0 w1 w2) := hh2
  have HP2 : Hid (Rp w2 B0 gp fv s0 st) := hh1
  obtain ⟨sv, nm, ee, xs, q1, _⟩ := hrp1.blk
  obtain ⟨q4, q4f, ql⟩ : (∃ u, w1.cell? ⟨gp, 4, none⟩ = some u) ∧ w1.frozen? ⟨gp, 4, none⟩ = false ∧ gp < w1.heap.size := ⟨⟨_, q1.cell 4 rfl⟩, q1.frozen 4, q1.lt⟩
  obtain ⟨u4, q4⟩ := q4
  obtain ⟨c0, c1, c2, c3, c4, c5, c6, c7, c8, c9, c10⟩ := (ob11 on).1
  have cl := on.lt
  have HW2 : Hid _ := hw2
  clear on hh1 hh2 hw2 hrp1 q1
  go_enter Tryz.func73, Tryz.ntmps73
  go_upto_region 1 with fail
  rw [← HWN.out]
  clear HWN hwn
  go_upto_region 2 with fail
  rw [← HW2.out]
  have hlo := HF2.out.ob O1.out (by decide) (by decide)
  clear HW2 q4 q4f ql c0 c1 c2 c3 c4 c5 c6 c7 c8 c9 c10 cl
  obtain ⟨c0, c1, c2, c3, c4, c5, c6, c7, c8, c9, c10⟩ := (ob11 hlo).1
  have cl := hlo.lt
  clear hlo
  go_wp2
  go_loopw [4] (fun v wr => ∃ (t : List Int) (g : Nat) (dn : List (ByteArray × Int)), v = .string (strOfNums t) ∧ byts t ∧ t.length < g ∧ Hid (t.length ≤ 2000000) ∧ Hid (pkL sp = dn ++ (pchain g t).map fun t => (strOfNums t, (1 : Int))) ∧ Hid (Fr B0 w1 wr) ∧ Hid (Rp wr B0 gp fv s0 (dn.foldl (radd s0) st))) (fun v _ => slen v)
  case atStart => exact ⟨sp, sp.length + 1, [], rfl, HSP.out.1, by omega, HSP.out.2, rfl, HF2, HP2⟩
  case round =>
    clear HF2 HP2 c0 c1 c2 c3 c4 c5 c6 c7 c8 c9 c10 cl
    obtain ⟨t, g, dn, rfl, htb, htg, HTL, HD, HF, HR⟩ := hrel
    by_cases het : t = []
    · subst het
      have HP8 : Hid (Rp wr B0 gp fv s0 ((pkL sp).foldl (radd s0) st)) := by
        have h := HR.out
        have hd := HD.out
        have hpn : pchain g [] = [] := by cases g <;> simp [pchain]
        rw [hpn, List.map_nil, List.append_nil] at hd
        rw [← hd] at h
        exact h
      have HF8 : Hid (Fr B0 w1 wr) := HF
      have hemp : ((strOfNums []).toList == []) = true := by rw [str_list]; rfl
      clear HF HR HD
      have o8 := HF8.out.ob O1.out (by decide) (by decide)
      obtain ⟨c0, c1, c2, c3, c4, c5, c6, c7, c8, c9, c10⟩ := (ob11 o8).1
      have cl := o8.lt
      clear o8
      go_wp2
      go_loopw [35] (fun v wr => ∃ k : Nat, v = .int .i64 (k : Int) ∧ k ≤ n4 ∧ Hid (Fr B0 w1 wr) ∧ Hid (Rp wr B0 gp fv s0 (((pkL sp) ++ msgL 64 sp m4 k).foldl (radd s0) st))) (fun v _ => n4 - (intOf v).toNat)
      case atStart => exact ⟨0, rfl, Nat.zero_le _, HF8, by have h := HP8.out; simpa [msgL_zero, Hid] using h⟩
      case round =>
        clear HF8 HP8 c0 c1 c2 c3 c4 c5 c6 c7 c8 c9 c10 cl
        obtain ⟨k, rfl, hk, HF, HR⟩ := hrel
        by_cases hlk : k < n4
        · skip
          have HBW := HB00.out.trans ((Fr.of_below (B0 := B0) HB1.out).trans HF.out |>.to_below HBW0.out |>.mono HW0.out)
          obtain ⟨b, off, es0, ea1, en1, ek1, em1, ea2, en2, ek2, em2, ea3, en3, ek3, em3, ea4, en4, ek4, em4, ea5, en5, ek5, em5, ea6, en6, ek6, em6, ea7, en7, ek7, em7, ea8, en8, ek8, em8, ea9, en9, ek9, em9, ea10, en10, ek10, em10, ha, hlt, cc0, cc1, cc2, cc3, cc4, cc5, cc6, cc7, cc8, cc9, cc10, r1, r2, r3, r4, r5, r6, r7, r8, r9, r10, t1, ln1, lm1, t2, ln2, lm2, t3, ln3, lm3, t5, ln5, lm5, t6, ln6, lm6, hz0, hst⟩ := msg_src HS.out.1.1 HS.out.1.2 hlk
          subst ha
          have d0 := (HBW.cell (p := ⟨b, off + k * 11, none⟩) hlt).trans cc0
          have d1 := (HBW.cell (p := ⟨b, off + k * 11 + 1, none⟩) hlt).trans cc1
          have d2 := (HBW.cell (p := ⟨b, off + k * 11 + 2, none⟩) hlt).trans cc2
          have d3 := (HBW.cell (p := ⟨b, off + k * 11 + 3, none⟩) hlt).trans cc3
          have d4 := (HBW.cell (p := ⟨b, off + k * 11 + 4, none⟩) hlt).trans cc4
          have d5 := (HBW.cell (p := ⟨b, off + k * 11 + 5, none⟩) hlt).trans cc5
          have d6 := (HBW.cell (p := ⟨b, off + k * 11 + 6, none⟩) hlt).trans cc6
          have d7 := (HBW.cell (p := ⟨b, off + k * 11 + 7, none⟩) hlt).trans cc7
          have d8 := (HBW.cell (p := ⟨b, off + k * 11 + 8, none⟩) hlt).trans cc8
          have d9 := (HBW.cell (p := ⟨b, off + k * 11 + 9, none⟩) hlt).trans cc9
          have d10 := (HBW.cell (p := ⟨b, off + k * 11 + 10, none⟩) hlt).trans cc10
          have hlw := Nat.lt_of_lt_of_le hlt HBW.size
          clear cc0 cc1 cc2 cc3 cc4 cc5 cc6 cc7 cc8 cc9 cc10 hlt
          obtain ⟨w4, hwn⟩ : ∃ V, V = wr.alloc (.cells #[.string es0, .slice ea1 en1 ek1, .slice ea2 en2 ek2, .slice ea3 en3 ek3, .slice ea4 en4 ek4, .slice ea5 en5 ek5, .slice ea6 en6 ek6, .slice ea7 en7 ek7, .slice ea8 en8 ek8, .slice ea9 en9 ek9, .slice ea10 en10 ek10] 40) := ⟨_, rfl⟩
          have hbn : Below wr.heap.size wr w4 := by rw [hwn]; exact (Below.refl _ _).alloc (Nat.le_refl _) _
          have on : Ob w4 wr.heap.size #[.string es0, .slice ea1 en1 ek1, .slice ea2 en2 ek2, .slice ea3 en3 ek3, .slice ea4 en4 ek4, .slice ea5 en5 ek5, .slice ea6 en6 ek6, .slice ea7 en7 ek7, .slice ea8 en8 ek8, .slice ea9 en9 ek9, .slice ea10 en10 ek10] 40 := by rw [hwn]; exact Ob.new _ _ _
          have HWN : Hid _ := hwn
          have HRPN : Hid _ := HR.out.below hbn
          have HFRN : Hid (Fr B0 w1 w4) := HF.out.trans (Fr.of_below hbn)
          have hokk := rokd_at (f := 63) HOK.out hlk
          rw [ln2, lm2] at hokk
          have hone : oneL 63 sp m4 k = one1 63 sp es0 em1 en1 em6 en6 em2 en2 em3 en3 em5 en5 := by
            rw [oneL_one1, hst, lm1, ln1, lm6, ln6, lm2, ln2, lm3, ln3, lm5, ln5]
          have hsplit : (msgL 64 sp m4 k).length + (one1 63 sp es0 em1 en1 em6 en6 em2 en2 em3 en3 em5 en5).length ≤ (msgL 64 sp m4 n4).length := by
            obtain ⟨rr, hrr⟩ := msgL_split 63 sp m4 hlk
            have hrr : msgL 64 sp m4 n4 = msgL 64 sp m4 k ++ (oneL 63 sp m4 k ++ rr) := hrr
            rw [hrr, hone]
            simp only [List.length_append]
            omega
          have hll := radds_len s0 ((pkL sp) ++ msgL 64 sp m4 k) st
          try simp only [List.length_append, List.length_cons, List.length_nil, valL_len] at hll
          have hlt9 := HLEN.out
          have QM : Hid _ := (rmsg_all w0 63) w4 B0 gp fv s0 _ sp es0 ea1 en1 ek1 em1 ea2 en2 ek2 em2 ea3 en3 ek3 em3 ea4 en4 ek4 ea5 en5 ek5 em5 ea6 en6 ek6 em6 ea7 en7 ek7 ea8 en8 ek8 ea9 en9 ek9 ea10 en10 ek10 (show Hid _ from (by show _ ≤ _; have h1 := HBW0.out; have h2 := HB1.out.size; have h3 := HFRN.out.size; omega)) HW0 (show Hid _ from HBW.trans (hbn.mono HBW.size)) HRPN (show Hid (byts sp ∧ sp.length + 63 * 2000001 ≤ 300000000) from ⟨HSP.out.1, HSQ9.out⟩) (show Hid _ from hz0) (show Hid _ from ⟨⟨r1, t1⟩, ⟨r2, t2⟩, ⟨r3, t3⟩, ⟨r5, t5⟩, ⟨r6, t6⟩⟩) (show Hid _ from hokk) (show Hid _ from (by show _ ≤ _; omega))
          obtain ⟨b0, b1, b2, b3, b4, b5, b6, b7, b8, b9, b10⟩ := (ob11 on).1
          have hlw2 := on.lt
          have HONE : Hid _ := hone
          clear hokk hone hsplit r1 r2 r3 r4 r5 r6 r7 r8 r9 r10 t1 t2 t3 t5 t6 ln1 lm1 ln2 lm2 ln3 lm3 ln5 lm5 ln6 lm6
          have of := HFRN.out.ob O1.out (by decide) (by decide)
          obtain ⟨c0, c1, c2, c3, c4, c5, c6, c7, c8, c9, c10⟩ := (ob11 of).1
          have cl := of.lt
          clear of
          go_upto_region 9 with fail
          rw [← HWN.out]
          clear HWN hwn
          go_wp2_with fail
          refine Calls.mono QM.out ?_
          rintro e w8 ⟨rfl, hf8, hp8⟩
          have HF8 : Hid (Fr B0 w1 w8) := HFRN.out.trans hf8
          have HP8 : Hid _ := hp8
          clear hf8 hp8 QM c0 c1 c2 c3 c4 c5 c6 c7 c8 c9 c10 cl b0 d0 b1 d1 b2 d2 b3 d3 b4 d4 b5 d5 b6 d6 b7 d7 b8 d8 b9 d9 b10 d10
          go_wp2
          go_roundw
          case rel => first | exact ⟨k + 1, by go_num, by omega, HF8, by rw [msgL_succ, ← List.append_assoc, List.foldl_append, HONE.out]; exact HP8⟩ | ((repeat apply Exists.intro); exact ⟨⟨k + 1, by go_num, by omega, HF8, by rw [msgL_succ, ← List.append_assoc, List.foldl_append, HONE.out]; exact HP8⟩, rfl⟩)
          case measure => simp [intOf]; omega
        · have HKN : Hid (k = n4) := by show _ = _; omega
          have HF8 : Hid (Fr B0 w1 wr) := HF
          have HP8 : Hid (Rp wr B0 gp fv s0 (((pkL sp) ++ msgL 64 sp m4 n4).foldl (radd s0) st)) := by have h := HR.out; rw [HKN.out] at h; exact h
          have hkn := HKN.out.symm
          clear HF HR
          subst hkn
          have o8 := HF8.out.ob O1.out (by decide) (by decide)
          obtain ⟨c0, c1, c2, c3, c4, c5, c6, c7, c8, c9, c10⟩ := (ob11 o8).1
          have cl := o8.lt
          clear o8
          go_wp2
          go_loopw [48] (fun v wr => ∃ k : Nat, v = .int .i64 (k : Int) ∧ k ≤ n5 ∧ Hid (Fr B0 w1 wr) ∧ Hid (Rp wr B0 gp fv s0 ((((pkL sp) ++ msgL 64 sp m4 n4) ++ enumL sp m5 k).foldl (radd s0) st))) (fun v _ => n5 - (intOf v).toNat)
          case atStart => exact ⟨0, rfl, Nat.zero_le _, HF8, by have h := HP8.out; simpa [enumL, Hid] using h⟩
          case round =>
            clear HF8 HP8 c0 c1 c2 c3 c4 c5 c6 c7 c8 c9 c10 cl
            obtain ⟨k, rfl, hk, HF, HR⟩ := hrel
            by_cases hlk : k < n5
            · skip
              have HBW := HB00.out.trans ((Fr.of_below (B0 := B0) HB1.out).trans HF.out |>.to_below HBW0.out |>.mono HW0.out)
              obtain ⟨b, off, es0, ea1, en1, ek1, em1, ea2, en2, ek2, ea3, en3, ek3, ha, hlt, cc0, cc1, cc2, cc3, r1, t1, ln1, lm1, hz0, hst⟩ := enu_src HS.out.2.1.1 HS.out.2.1.2 hlk
              subst ha
              have d0 := (HBW.cell (p := ⟨b, off + k * 4, none⟩) hlt).trans cc0
              have d1 := (HBW.cell (p := ⟨b, off + k * 4 + 1, none⟩) hlt).trans cc1
              have d2 := (HBW.cell (p := ⟨b, off + k * 4 + 2, none⟩) hlt).trans cc2
              have d3 := (HBW.cell (p := ⟨b, off + k * 4 + 3, none⟩) hlt).trans cc3
              have hlw := Nat.lt_of_lt_of_le hlt HBW.size
              clear cc0 cc1 cc2 cc3 hlt
              obtain ⟨w4, hwn⟩ : ∃ V, V = wr.alloc (.cells #[.string es0, .slice ea1 en1 ek1, .slice ea2 en2 ek2, .slice ea3 en3 ek3] 43) := ⟨_, rfl⟩
              have hbn : Below wr.heap.size wr w4 := by rw [hwn]; exact (Below.refl _ _).alloc (Nat.le_refl _) _
              have on : Ob w4 wr.heap.size #[.string es0, .slice ea1 en1 ek1, .slice ea2 en2 ek2, .slice ea3 en3 ek3] 43 := by rw [hwn]; exact Ob.new _ _ _
              have HWN : Hid _ := hwn
              have HRPN : Hid _ := HR.out.below hbn
              have HFRN : Hid (Fr B0 w1 w4) := HF.out.trans (Fr.of_below hbn)
              have hsplit : (enumL sp m5 k).length + (1 + en1) ≤ (enumL sp m5 n5).length := by
                obtain ⟨rr, hrr⟩ := enumL_split sp m5 hlk
                rw [hrr, enumL_succ, ln1]
                simp only [List.length_append, List.length_cons, valL_len]
                omega
              have hll := radds_len s0 (((pkL sp) ++ msgL 64 sp m4 n4) ++ enumL sp m5 k) st
              try simp only [List.length_append, List.length_cons, List.length_nil, valL_len] at hll
              have hlt9 := HLEN.out
              have QM : Hid _ := renum_any w4 w0 B0 gp (show Hid _ from (by show _ ≤ _; have h1 := HBW0.out; have h2 := HB1.out.size; have h3 := HFRN.out.size; omega)) HW0 (show Hid _ from HBW.trans (hbn.mono HBW.size)) fv s0 _ HRPN sp (show Hid _ from ⟨HSP.out.1, by have := HSP.out.2; omega⟩) es0 (show Hid _ from hz0) ea1 en1 ek1 em1 ea2 en2 ek2 ea3 en3 ek3 (show Hid _ from ⟨r1, t1⟩) (show Hid _ from (by show _ ≤ _; omega))
              obtain ⟨b0, b1, b2, b3⟩ := (ob4 on).1
              have hlw2 := on.lt
              have HONE : Hid (enumL sp m5 (k + 1) = enumL sp m5 k ++ ((jn sp es0, 3) :: valL sp 4 4 em1 en1)) := by show _ = _; rw [enumL_succ, hst, lm1, ln1]
              clear hsplit r1 t1 ln1 lm1
              have of := HFRN.out.ob O1.out (by decide) (by decide)
              obtain ⟨c0, c1, c2, c3, c4, c5, c6, c7, c8, c9, c10⟩ := (ob11 of).1
              have cl := of.lt
              clear of
              go_upto_region 14 with fail
              rw [← HWN.out]
              clear HWN hwn
              go_wp2_with fail
              refine Calls.mono QM.out ?_
              rintro e w8 ⟨rfl, hf8, hp8⟩
              have HF8 : Hid (Fr B0 w1 w8) := HFRN.out.trans hf8
              have HP8 : Hid _ := hp8
              clear hf8 hp8 QM b0 b1 b2 b3 d0 d1 d2 d3 c0 c1 c2 c3 c4 c5 c6 c7 c8 c9 c10 cl
              go_wp2
              go_roundw
              case rel => first | exact ⟨k + 1, by go_num, by omega, HF8, by rw [HONE.out, ← List.append_assoc, List.foldl_append]; exact HP8⟩ | ((repeat apply Exists.intro); exact ⟨⟨k + 1, by go_num, by omega, HF8, by rw [HONE.out, ← List.append_assoc, List.foldl_append]; exact HP8⟩, rfl⟩)
              case measure => simp [intOf]; omega
            · have HKN : Hid (k = n5) := by show _ = _; omega
              have HF8 : Hid (Fr B0 w1 wr) := HF
              have HP8 : Hid (Rp wr B0 gp fv s0 ((((pkL sp) ++ msgL 64 sp m4 n4) ++ enumL sp m5 n5).foldl (radd s0) st)) := by have h := HR.out; rw [HKN.out] at h; exact h
              have hkn := HKN.out.symm
              clear HF HR
              subst hkn
              have o8 := HF8.out.ob O1.out (by decide) (by decide)
              obtain ⟨c0, c1, c2, c3, c4, c5, c6, c7, c8, c9, c10⟩ := (ob11 o8).1
              have cl := o8.lt
              clear o8
              go_wp2
              go_loopw [61] (fun v wr => ∃ k : Nat, v = .int .i64 (k : Int) ∧ k ≤ n6 ∧ Hid (Fr B0 w1 wr) ∧ Hid (Rp wr B0 gp fv s0 (((((pkL sp) ++ msgL 64 sp m4 n4) ++ enumL sp m5 n5) ++ servL sp m6 k).foldl (radd s0) st))) (fun v _ => n6 - (intOf v).toNat)
              case atStart => exact ⟨0, rfl, Nat.zero_le _, HF8, by have h := HP8.out; simpa [servL, Hid] using h⟩
              case round =>
                clear HF8 HP8 c0 c1 c2 c3 c4 c5 c6 c7 c8 c9 c10 cl
                obtain ⟨k, rfl, hk, HF, HR⟩ := hrel
                by_cases hlk : k < n6
                · skip
                  have HBW := HB00.out.trans ((Fr.of_below (B0 := B0) HB1.out).trans HF.out |>.to_below HBW0.out |>.mono HW0.out)
                  obtain ⟨b, off, es0, ea1, en1, ek1, em1, ea2, en2, ek2, ea3, en3, ek3, ha, hlt, cc0, cc1, cc2, cc3, r1, t1, ln1, lm1, hz0, hst⟩ := ser_src HS.out.2.2.1.1 HS.out.2.2.1.2 hlk
                  subst ha
                  have d0 := (HBW.cell (p := ⟨b, off + k * 4, none⟩) hlt).trans cc0
                  have d1 := (HBW.cell (p := ⟨b, off + k * 4 + 1, none⟩) hlt).trans cc1
                  have d2 := (HBW.cell (p := ⟨b, off + k * 4 + 2, none⟩) hlt).trans cc2
                  have d3 := (HBW.cell (p := ⟨b, off + k * 4 + 3, none⟩) hlt).trans cc3
                  have hlw := Nat.lt_of_lt_of_le hlt HBW.size
                  clear cc0 cc1 cc2 cc3 hlt
                  obtain ⟨w4, hwn⟩ : ∃ V, V = wr.alloc (.cells #[.string es0, .slice ea1 en1 ek1, .slice ea2 en2 ek2, .slice ea3 en3 ek3] 159) := ⟨_, rfl⟩
                  have hbn : Below wr.heap.size wr w4 := by rw [hwn]; exact (Below.refl _ _).alloc (Nat.le_refl _) _
                  have on : Ob w4 wr.heap.size #[.string es0, .slice ea1 en1 ek1, .slice ea2 en2 ek2, .slice ea3 en3 ek3] 159 := by rw [hwn]; exact Ob.new _ _ _
                  have HWN : Hid _ := hwn
                  have HRPN : Hid _ := HR.out.below hbn
                  have HFRN : Hid (Fr B0 w1 w4) := HF.out.trans (Fr.of_below hbn)
                  obtain ⟨sq, hsq⟩ : ∃ sq, sq = njoin sp (numsOf es0) := ⟨_, rfl⟩
                  have HSQ : Hid (byts sq ∧ sq.length ≤ 400000000) := by
                    rw [hsq]
                    refine ⟨byts_njoin HSP.out.1 (numsOf_byts es0), ?_⟩
                    have h1 := HSP.out.2
                    have h3 := numsOf_len es0
                    unfold njoin
                    split
                    · omega
                    · simp only [List.length_append, List.length_cons, List.length_nil]; omega
                  have hjn : jn sp es0 = strOfNums sq := by rw [hsq]; rfl
                  have HSPL : Hid ((servL sp m6 k).length + (1 + en1) ≤ (servL sp m6 n6).length) := by
                    obtain ⟨rr, hrr⟩ := servL_split sp m6 hlk
                    show _ ≤ _
                    rw [hrr, servL_succ, ln1]
                    simp only [List.length_append, List.length_cons, valL_len]
                    omega
                  have hsplit := HSPL.out
                  have HONE : Hid (servL sp m6 (k + 1) = servL sp m6 k ++ ((jn sp es0, 8) :: valL sq 9 7 em1 en1)) := by show _ = _; rw [servL_succ, hst, lm1, ln1, hsq]
                  have HRT : Hid (Src w0 157 (.ls ea1 en1 ek1 em1) ∧ Nm (.ls ea1 en1 ek1 em1)) := ⟨r1, t1⟩
                  have hll := radds_len s0 ((((pkL sp) ++ msgL 64 sp m4 n4) ++ enumL sp m5 n5) ++ servL sp m6 k) st
                  try simp only [List.length_append, List.length_cons, List.length_nil, valL_len] at hll
                  have hlt9 := HLEN.out
                  have QJ : Hid (∀ V, Calls Tryz.prog 106 #[.string (strOfNums sp), .string es0] V fun e V' => e = .returned (.string (strOfNums sq)) ∧ V = V') := fun V => by rw [← hjn]; exact rjn sp es0 V (by have := HSP.out.2; omega) hz0
                  have hbld : ∀ V, (Instr.build 47 #[(0, .string (strOfNums sq)), (1, .int .i64 8)]).run Tryz.prog V = .ok (.agg #[.string (strOfNums sq), .int .i64 8, .string ⟨#[]⟩, .string ⟨#[]⟩, .slice none 0 0, .slice none 0 0, .slice none 0 0, .slice none 0 0, .slice none 0 0, .slice none 0 0, .slice none 0 0, .slice none 0 0, .slice none 0 0, .slice none 0 0, .string ⟨#[]⟩, .slice none 0 0, .slice none 0 0, .slice none 0 0, .string ⟨#[]⟩, .int .i64 0, .int .i64 0, .int .i64 0, .string ⟨#[]⟩, .string ⟨#[]⟩, .string ⟨#[]⟩, .bool false, .int .i64 0, .string ⟨#[]⟩, .bool false, .slice none 0 0, .slice none 0 0]) V := fun V => bld0 _ _ V
                  have QA : Hid _ := radd_any w4 B0 gp (by have h1 := HBW0.out; have h2 := HB1.out.size; have h3 := HFRN.out.size; omega) fv s0 _ HRPN (by omega) (strOfNums sq) 8 (.string ⟨#[]⟩) (.slice none 0 0) (.slice none 0 0) (.slice none 0 0) (.slice none 0 0) (.slice none 0 0) (.slice none 0 0) (.slice none 0 0) (.slice none 0 0) (.slice none 0 0) (.slice none 0 0) (.string ⟨#[]⟩) (.slice none 0 0) (.slice none 0 0) (.slice none 0 0) (.string ⟨#[]⟩) (.int .i64 0) (.int .i64 0) (.int .i64 0) (.string ⟨#[]⟩) (.string ⟨#[]⟩) (.string ⟨#[]⟩) (.bool false) (.int .i64 0) (.string ⟨#[]⟩) (.bool false) (.slice none 0 0) (.slice none 0 0) (by
                    intro u hu
                    simp only [List.mem_cons, List.not_mem_nil, or_false] at hu
                    rcases hu with rfl | rfl | rfl | rfl | rfl | rfl | rfl | rfl | rfl | rfl | rfl | rfl | rfl | rfl | rfl | rfl | rfl | rfl | rfl | rfl | rfl | rfl | rfl | rfl | rfl | rfl | rfl | rfl <;> rfl)
                  have hen1 : en1 ≤ 900000000 := by omega
                  obtain ⟨b0, b1, b2, b3⟩ := (ob4 on).1
                  have hlw2 := on.lt
                  have ON : Hid _ := on
                  have HJN : Hid _ := hjn
                  clear r1 t1 ln1 lm1 hsq hjn hsplit
                  have of := HFRN.out.ob O1.out (by decide) (by decide)
                  obtain ⟨c0, c1, c2, c3, c4, c5, c6, c7, c8, c9, c10⟩ := (ob11 of).1
                  have cl := of.lt
                  clear of
                  go_upto_region 19 with fail
                  rw [← HWN.out]
                  clear HWN hwn
                  go_wp2_with fail
                  refine Calls.mono (QJ.out _) ?_
                  rintro e w5 ⟨rfl, rfl⟩
                  go_wp2_with fail
                  refine Calls.mono QA.out ?_
                  rintro e w8 ⟨rfl, hf8, hp8⟩
                  have HF8 : Hid (Fr B0 w1 w8) := HFRN.out.trans hf8
                  have HP8 : Hid (Rp w8 B0 gp fv s0 (((((((pkL sp) ++ msgL 64 sp m4 n4) ++ enumL sp m5 n5) ++ servL sp m6 k) ++ [(jn sp es0, 8)])).foldl (radd s0) st)) := by rw [List.foldl_append, HJN.out]; exact hp8
                  have o9 := hf8.ob ON.out (by decide) (by decide)
                  clear b0 b1 b2 b3 c0 c1 c2 c3 c4 c5 c6 c7 c8 c9 c10 cl hlw2
                  obtain ⟨b0, b1, b2, b3⟩ := (ob4 o9).1
                  have hlw2 := o9.lt
                  clear o9 hf8 hp8 QA QJ hbld d0 d1 d2 d3 on
                  go_wp2
                  go_loopw [77] (fun v wr => ∃ j : Nat, v = .int .i64 (j : Int) ∧ j ≤ en1 ∧ Hid (Fr B0 w1 wr) ∧ Hid (Rp wr B0 gp fv s0 ((((((pkL sp) ++ msgL 64 sp m4 n4) ++ enumL sp m5 n5) ++ servL sp m6 k) ++ ((jn sp es0, 8) :: valL sq 9 7 em1 j)).foldl (radd s0) st))) (fun v _ => en1 - (intOf v).toNat)
                  case atStart => exact ⟨0, rfl, Nat.zero_le _, HF8, by have h := HP8.out; simpa [valL, Hid] using h⟩
                  case round =>
                    clear HF8 HP8 b0 b1 b2 b3 hlw2 HF HR HFRN HRPN ON HBW hlw hz0 hbn
                    obtain ⟨j, rfl, hj, HF, HR⟩ := hrel
                    by_cases hlj : j < en1
                    · skip
                      have HBW := HB00.out.trans ((Fr.of_below (B0 := B0) HB1.out).trans HF.out |>.to_below HBW0.out |>.mono HW0.out)
                      obtain ⟨b, off, qs0, qs1, qs2, qy3, qy4, qa5, qn5, qk5, qa6, qn6, qk6, ha, hlt, cc0, cc1, cc2, cc3, cc4, cc5, cc6, hz0, hst⟩ := met_src HRT.out.1 HRT.out.2 hlj
                      subst ha
                      have d0 := (HBW.cell (p := ⟨b, off + j * 7, none⟩) hlt).trans cc0
                      have d1 := (HBW.cell (p := ⟨b, off + j * 7 + 1, none⟩) hlt).trans cc1
                      have d2 := (HBW.cell (p := ⟨b, off + j * 7 + 2, none⟩) hlt).trans cc2
                      have d3 := (HBW.cell (p := ⟨b, off + j * 7 + 3, none⟩) hlt).trans cc3
                      have d4 := (HBW.cell (p := ⟨b, off + j * 7 + 4, none⟩) hlt).trans cc4
                      have d5 := (HBW.cell (p := ⟨b, off + j * 7 + 5, none⟩) hlt).trans cc5
                      have d6 := (HBW.cell (p := ⟨b, off + j * 7 + 6, none⟩) hlt).trans cc6
                      have hlw := Nat.lt_of_lt_of_le hlt HBW.size
                      clear cc0 cc1 cc2 cc3 cc4 cc5 cc6 hlt
                      obtain ⟨w4, hwn⟩ : ∃ V, V = wr.alloc (.cells #[.string qs0, .string qs1, .string qs2, .bool qy3, .bool qy4, .slice qa5 qn5 qk5, .slice qa6 qn6 qk6] 161) := ⟨_, rfl⟩
                      have hbn : Below wr.heap.size wr w4 := by rw [hwn]; exact (Below.refl _ _).alloc (Nat.le_refl _) _
                      have on : Ob w4 wr.heap.size #[.string qs0, .string qs1, .string qs2, .bool qy3, .bool qy4, .slice qa5 qn5 qk5, .slice qa6 qn6 qk6] 161 := by rw [hwn]; exact Ob.new _ _ _
                      have HWN : Hid _ := hwn
                      have HRPN : Hid _ := HR.out.below hbn
                      have HFRN : Hid (Fr B0 w1 w4) := HF.out.trans (Fr.of_below hbn)
                      have hll := radds_len s0 (((((pkL sp) ++ msgL 64 sp m4 n4) ++ enumL sp m5 n5) ++ servL sp m6 k) ++ ((jn sp es0, 8) :: valL sq 9 7 em1 j)) st
                      try simp only [List.length_append, List.length_cons, List.length_nil, valL_len] at hll
                      have hlt9 := HLEN.out
                      have QJ : Hid _ := fun V => rjn sq qs0 V (by have := HSQ.out.2; omega) hz0
                      have hbld : ∀ V, (Instr.build 47 #[(0, .string (jn sq qs0)), (1, .int .i64 9)]).run Tryz.prog V = .ok (.agg #[.string (jn sq qs0), .int .i64 9, .string ⟨#[]⟩, .string ⟨#[]⟩, .slice none 0 0, .slice none 0 0, .slice none 0 0, .slice none 0 0, .slice none 0 0, .slice none 0 0, .slice none 0 0, .slice none 0 0, .slice none 0 0, .slice none 0 0, .string ⟨#[]⟩, .slice none 0 0, .slice none 0 0, .slice none 0 0, .string ⟨#[]⟩, .int .i64 0, .int .i64 0, .int .i64 0, .string ⟨#[]⟩, .string ⟨#[]⟩, .string ⟨#[]⟩, .bool false, .int .i64 0, .string ⟨#[]⟩, .bool false, .slice none 0 0, .slice none 0 0]) V := fun V => bld0 _ _ V
                      have hsp9 := HSPL.out
                      have QA : Hid _ := radd_any w4 B0 gp (by have h1 := HBW0.out; have h2 := HB1.out.size; have h3 := HFRN.out.size; omega) fv s0 _ HRPN (by omega) (jn sq qs0) 9 (.string ⟨#[]⟩) (.slice none 0 0) (.slice none 0 0) (.slice none 0 0) (.slice none 0 0) (.slice none 0 0) (.slice none 0 0) (.slice none 0 0) (.slice none 0 0) (.slice none 0 0) (.slice none 0 0) (.string ⟨#[]⟩) (.slice none 0 0) (.slice none 0 0) (.slice none 0 0) (.string ⟨#[]⟩) (.int .i64 0) (.int .i64 0) (.int .i64 0) (.string ⟨#[]⟩) (.string ⟨#[]⟩) (.string ⟨#[]⟩) (.bool false) (.int .i64 0) (.string ⟨#[]⟩) (.bool false) (.slice none 0 0) (.slice none 0 0) (by
                        intro u hu
                        simp only [List.mem_cons, List.not_mem_nil, or_false] at hu
                        rcases hu with rfl | rfl | rfl | rfl | rfl | rfl | rfl | rfl | rfl | rfl | rfl | rfl | rfl | rfl | rfl | rfl | rfl | rfl | rfl | rfl | rfl | rfl | rfl | rfl | rfl | rfl | rfl | rfl <;> rfl)
                      obtain ⟨b0, b1, b2, b3, b4, b5, b6⟩ := (ob7 on).1
                      have hlw2 := on.lt
                      go_upto_region 24 with fail
                      rw [← HWN.out]
                      clear HWN hwn
                      go_wp2_with fail
                      refine Calls.mono (QJ.out _) ?_
                      rintro e w5 ⟨rfl, rfl⟩
                      go_wp2_with fail
                      refine Calls.mono QA.out ?_
                      rintro e w8 ⟨rfl, hf8, hp8⟩
                      have HF8 : Hid (Fr B0 w1 w8) := HFRN.out.trans hf8
                      have HP8 : Hid _ := hp8
                      clear hf8 hp8 QA QJ hbld b0 b1 b2 b3 b4 b5 b6 d0 d1 d2 d3 d4 d5 d6
                      go_wp2
                      go_roundw
                      case rel => first | exact ⟨j + 1, by go_num, by omega, HF8, by rw [valL_succ, ← List.cons_append, ← List.append_assoc, List.foldl_append, hst]; exact HP8⟩ | ((repeat apply Exists.intro); exact ⟨⟨j + 1, by go_num, by omega, HF8, by rw [valL_succ, ← List.cons_append, ← List.append_assoc, List.foldl_append, hst]; exact HP8⟩, rfl⟩)
                      case measure => simp [intOf]; omega
                    · have HKN : Hid (j = en1) := by show _ = _; omega
                      have HF8 : Hid (Fr B0 w1 wr) := HF
                      have HP8 : Hid (Rp wr B0 gp fv s0 (((((pkL sp) ++ msgL 64 sp m4 n4) ++ enumL sp m5 n5) ++ servL sp m6 (k + 1)).foldl (radd s0) st)) := by have h := HR.out; rw [HKN.out] at h; rw [HONE.out, ← List.append_assoc]; exact h
                      have hkn := HKN.out.symm
                      clear HF HR
                      subst hkn
                      go_wp2
                      go_roundw
                      case rel => first | exact ⟨k + 1, by go_num, by omega, HF8, HP8⟩ | ((repeat apply Exists.intro); exact ⟨⟨k + 1, by go_num, by omega, HF8, HP8⟩, rfl⟩)
                      case measure => simp [intOf]; omega
                · have HKN : Hid (k = n6) := by show _ = _; omega
                  have HF8 : Hid (Fr B0 w1 wr) := HF
                  have HP8 : Hid (Rp wr B0 gp fv s0 (((((pkL sp) ++ msgL 64 sp m4 n4) ++ enumL sp m5 n5) ++ servL sp m6 n6).foldl (radd s0) st)) := by have h := HR.out; rw [HKN.out] at h; exact h
                  have hkn := HKN.out.symm
                  clear HF HR
                  subst hkn
                  have HFRN : Hid (Fr B0 w1 wr) := HF8
                  have HBW : Hid (Below w0.heap.size w0 wr) := HB00.out.trans ((Fr.of_below (B0 := B0) HB1.out).trans HF8.out |>.to_below HBW0.out |>.mono HW0.out)
                  have hll := radds_len s0 ((((pkL sp) ++ msgL 64 sp m4 n4) ++ enumL sp m5 n5) ++ servL sp m6 n6) st
                  try simp only [List.length_append, List.length_cons, List.length_nil, valL_len] at hll
                  have hlt9 := HLEN.out
                  have QX : Hid _ := rexts_any wr w0 B0 gp (show Hid _ from (by show _ ≤ _; have h1 := HBW0.out; have h2 := HB1.out.size; have h3 := HFRN.out.size; omega)) HW0 HBW fv s0 _ HP8 sp (show Hid _ from ⟨HSP.out.1, by have := HSP.out.2; omega⟩) a7 n7 k7 m7 (show Hid _ from HS.out.2.2.2) (show Hid _ from (by show _ ≤ _; omega))
                  have o8 := HF8.out.ob O1.out (by decide) (by decide)
                  obtain ⟨c0, c1, c2, c3, c4, c5, c6, c7, c8, c9, c10⟩ := (ob11 o8).1
                  have cl := o8.lt
                  clear o8
                  go_wp2_with fail
                  refine Calls.mono QX.out ?_
                  rintro e w8 ⟨rfl, hf8, hp8⟩
                  have HE : Hid (Aend W B0 gp fv s0 ((pkL sp ++ partL sp m4 n4 m5 n5 m6 n6 m7 n7).foldl (radd s0) st) (.returned (.tuple #[])) w8) := ⟨rfl, (Fr.of_below HB1.out).trans (HF8.out.trans hf8), by rw [HALL.out, List.foldl_append]; exact hp8⟩
                  clear hf8 hp8 QX c0 c1 c2 c3 c4 c5 c6 c7 c8 c9 c10 cl
                  go_wp2
                  first
                    | exact HE.out
                    | (go_end0; exact HE.out)
    · obtain ⟨g', rfl⟩ : ∃ g', g = g' + 1 := ⟨g - 1, by omega⟩
      have hpc : pchain (g' + 1) t = t :: pchain g' (nparent t).1 := by rw [pchain, if_neg het]
      have hlt := nparent_ltV t het
      have hnem : ((strOfNums t).toList == []) = false := by
        cases t with
        | nil => exact absurd rfl het
        | cons c r => exact str_ne c r
      have hdl : dn.length + 1 ≤ (pkL sp).length := by
        rw [HD.out, hpc]
        simp only [List.length_append, List.map_cons, List.length_cons]
        omega
      have hll := radds_len s0 dn st
      try simp only [List.length_append, List.length_cons, List.length_nil, valL_len] at hll
      have hlt9 := HLEN.out
      have hszf := HF.out.size
      have QA : Hid _ := radd_any wr B0 gp (by have h1 := HBW0.out; have h2 := HB1.out.size; omega) fv s0 _ HR (by omega) (strOfNums t) 1 (.string ⟨#[]⟩) (.slice none 0 0) (.slice none 0 0) (.slice none 0 0) (.slice none 0 0) (.slice none 0 0) (.slice none 0 0) (.slice none 0 0) (.slice none 0 0) (.slice none 0 0) (.slice none 0 0) (.string ⟨#[]⟩) (.slice none 0 0) (.slice none 0 0) (.slice none 0 0) (.string ⟨#[]⟩) (.int .i64 0) (.int .i64 0) (.int .i64 0) (.string ⟨#[]⟩) (.string ⟨#[]⟩) (.string ⟨#[]⟩) (.bool false) (.int .i64 0) (.string ⟨#[]⟩) (.bool false) (.slice none 0 0) (.slice none 0 0) (by
        intro u hu
        simp only [List.mem_cons, List.not_mem_nil, or_false] at hu
        rcases hu with rfl | rfl | rfl | rfl | rfl | rfl | rfl | rfl | rfl | rfl | rfl | rfl | rfl | rfl | rfl | rfl | rfl | rfl | rfl | rfl | rfl | rfl | rfl | rfl | rfl | rfl | rfl | rfl <;> rfl)
      have hbld : ∀ V, (Instr.build 47 #[(0, .string (strOfNums t)), (1, .int .i64 1)]).run Tryz.prog V = .ok (.agg #[.string (strOfNums t), .int .i64 1, .string ⟨#[]⟩, .string ⟨#[]⟩, .slice none 0 0, .slice none 0 0, .slice none 0 0, .slice none 0 0, .slice none 0 0, .slice none 0 0, .slice none 0 0, .slice none 0 0, .slice none 0 0, .slice none 0 0, .string ⟨#[]⟩, .slice none 0 0, .slice none 0 0, .slice none 0 0, .string ⟨#[]⟩, .int .i64 0, .int .i64 0, .int .i64 0, .string ⟨#[]⟩, .string ⟨#[]⟩, .string ⟨#[]⟩, .bool false, .int .i64 0, .string ⟨#[]⟩, .bool false, .slice none 0 0, .slice none 0 0]) V := fun V => bld0 _ _ V
      have QP : Hid _ := fun V => rparentW t V (show Hid _ from fun i => byts_get9 htb i) (by have := HTL.out; omega)
      have HD' : Hid (pkL sp = (dn ++ [(strOfNums t, 1)]) ++ (pchain g' (nparent t).1).map fun t => (strOfNums t, (1 : Int))) := by
        show _ = _
        rw [HD.out, hpc]
        simp
      have hsz1 : (strOfNums t).size = t.length := strOfNums_size t
      have hsz2 : (strOfNums (nparent t).1).size = (nparent t).1.length := strOfNums_size _
      clear hpc
      go_wp2_with fail
      refine Calls.mono QA.out ?_
      rintro e w8 ⟨rfl, hf8, hp8⟩
      have HF8 : Hid (Fr B0 w1 w8) := HF.out.trans hf8
      have HP8 : Hid _ := hp8
      clear hf8 hp8 QA hbld
      go_wp2_with fail
      refine Calls.mono (QP.out _) ?_
      rintro e w9 ⟨rfl, hb9⟩
      have HF9 : Hid (Fr B0 w1 w9) := HF8.out.trans (Fr.of_below hb9)
      have HP9 : Hid (Rp w9 B0 gp fv s0 ((dn ++ [(strOfNums t, 1)]).foldl (radd s0) st)) := by rw [List.foldl_append]; exact HP8.out.below hb9
      clear hb9 QP
      go_wp2
      go_roundw
      case rel => first | exact ⟨_, g', _, rfl, byts_parent htb, by omega, (show Hid _ from by have := HTL.out; show _ ≤ _; omega), HD', HF9, HP9⟩ | ((repeat apply Exists.intro); exact ⟨⟨_, g', _, rfl, byts_parent htb, by omega, (show Hid _ from by have := HTL.out; show _ ≤ _; omega), HD', HF9, HP9⟩, rfl⟩)
      case measure => first | (simp only [slen]; omega) | omega | (show (strOfNums (nparent t).1).size < (strOfNums t).size; omega)

end Go.Proofs.YtafmoceinamcdaaGreat
