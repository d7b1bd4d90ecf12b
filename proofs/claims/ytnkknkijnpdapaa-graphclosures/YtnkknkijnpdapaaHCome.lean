/- The reference's walk: come. -/
import Derived.Test.YtnkknkijnpdapaaHDup
namespace Go.Proofs.Ytnkknkijnpdapaa
open Go.RowKit
set_option linter.unusedVariables false
set_option linter.unusedSimpArgs false

/-- What an unfinished walk is. -/
structure Wm (w0 w : World) (g : Nat) (a : Option Addr) (len cap : Nat) (l : List Un) (s : Hs) : Prop where
  mem : ∃ vo vw, Wk w g a len cap s vo vw
  below : Below w0.heap.size w0 w
  ord : Ordd l s.out
  way : WayOk l s.way
  e0 : 0 ≤ s.e
  e1 : s.e ≤ 1000

theorem Ordd.le {l : List Un} {out : List ByteArray} (h : Ordd l out) : out.length ≤ l.length := by
  have := nodup_le out (l.map Un.path) h.nodup (fun x hx => by
    obtain ⟨i, hi⟩ := List.getElem?_of_mem hx
    obtain ⟨u, hu, _⟩ := h.at i x hi
    obtain ⟨h1, h2⟩ := hunit_some hu
    exact List.mem_map.2 ⟨u, h1, h2⟩)
  simpa using this

theorem hcome_stop {l : List Un} {f : Nat} {p : ByteArray} {s : Hs} (h : s.e ≠ 0 ∨ hin s.out p = true) : hcome l (f + 1) p s = s := by rw [hcome, if_pos h]

theorem hcome_cyc {l : List Un} {f : Nat} {p : ByteArray} {s : Hs} (h : s.e = 0) (h1 : hin s.out p = false) (h2 : hin s.way p = true) : hcome l (f + 1) p s = { s with path := p, e := 101 } := by
  rw [hcome, if_neg (by simp [h, h1]), if_pos h2]

theorem hcome_none {l : List Un} {f : Nat} {p : ByteArray} {s : Hs} (h : s.e = 0) (h1 : hin s.out p = false) (h2 : hin s.way p = false) (h3 : hunit l p = none) : hcome l (f + 1) p s = { s with path := p, e := 100 } := by
  rw [hcome, if_neg (by simp [h, h1]), if_neg (by simp [h2]), h3]

theorem hcome_two {l : List Un} {f : Nat} {p : ByteArray} {s : Hs} {u : Un} (h : s.e = 0) (h1 : hin s.out p = false) (h2 : hin s.way p = false) (h3 : hunit l p = some u) (h4 : hdup u.deps = true) : hcome l (f + 1) p s = { s with path := p, e := 102 } := by
  rw [hcome, if_neg (by simp [h, h1]), if_neg (by simp [h2]), h3]
  simp [h4]

theorem hcome_go {l : List Un} {f : Nat} {p : ByteArray} {s : Hs} {u : Un} (h : s.e = 0) (h1 : hin s.out p = false) (h2 : hin s.way p = false) (h3 : hunit l p = some u) (h4 : hdup u.deps = false) {s2 : Hs} (hs : s2 = u.deps.foldl (fun s d => hcome l f d s) { s with way := s.way ++ [p] }) : hcome l (f + 1) p s = if s2.e = 0 then { out := s2.out ++ [p], way := s.way, path := s2.path, e := s2.e } else { s2 with way := s.way } := by
  rw [hcome, if_neg (by simp [h, h1]), if_neg (by simp [h2]), h3]
  simp only [h4, Bool.false_eq_true, if_false]
  rw [← hs]

set_option maxRecDepth 10000 in
set_option maxHeartbeats 4000000 in
theorem rcome_any {w0 : World} {a : Option Addr} {len cap : Nat} {us : List Um} (hU : Hid (Ul w0 a len cap us)) (hlen : len ≤ 1000) (g : Nat) (hg : w0.heap.size ≤ g) : ∀ (f : Nat) (p : ByteArray) (s : Hs) (W : World), Wm w0 W g a len cap (us.map Um.un) s → (us.map Um.un).length + 1 ≤ f + s.way.length →
    Calls Try.prog 25 #[.pointer (some ⟨g, 0, none⟩), .string p] W fun e W' => e = .returned (.tuple #[]) ∧ Wm w0 W' g a len cap (us.map Um.un) (hcome (us.map Um.un) f p s) := by
  intro f
  induction f with
  | zero => intro p s W h hf; have := h.way.le; omega
  | succ f ih =>
    intro p s W h hf
    obtain ⟨⟨vo, vw, hk⟩, hbel, hord, hway, he0, he1⟩ := h
    obtain ⟨c0, c1, c2, c3, c4⟩ := hk.cells
    have hgl := hk.lt
    obtain ⟨oa, oc, hvo⟩ := hk.out.slice
    obtain ⟨ya, yc, hvw⟩ := hk.way.slice
    subst hvo hvw
    have HK : Hid _ := hk
    have HO : Hid (Wm w0 W g a len cap (us.map Um.un) s) := ⟨⟨_, _, hk⟩, hbel, hord, hway, he0, he1⟩
    have Qo : Hid _ := rhin_any p (Sb.of_own hk.out)
    have Qw : Hid _ := fun (V : World) (hb : Below W.heap.size W V) => rhin_any p (Sb.of_own (hk.way.below hb))
    have Qf : Hid _ := rfind_any p hU W hbel
    clear hk hbel hord hway
    by_cases hE : s.e = 0
    · have c4' : W.cell? ⟨g, 4, none⟩ = some (.int .i64 0) := by rw [c4, hE]
      clear c4
      by_cases hO : hin s.out p = true
      · rw [hcome_stop (.inr hO)]
        rw [hO] at Qo
        go_enter Try.func25, Try.ntmps25
        go_wp2_with fail
        refine Calls.mono Qo.out ?_
        rintro e w1 ⟨rfl, rfl⟩
        go_wp2
        (try simp only [Exit.inBlock, Exit.then])
        refine bodyPost_ret (results_none rfl _ _ _) rfl ?_
        exact ⟨rfl, HO.out⟩
      · have hO' : hin s.out p = false := by simpa using hO
        rw [hO'] at Qo
        by_cases hY : hin s.way p = true
        · rw [hcome_cyc hE hO' hY]
          rw [hY] at Qw
          clear hf ih hO hO' hY
          generalize hfi us p = R at Qf
          go_enter Try.func25, Try.ntmps25
          go_wp2_with fail
          refine Calls.mono Qo.out ?_
          rintro e w1 ⟨rfl, rfl⟩
          go_wp2_with fail
          refine Calls.mono Qf.out ?_
          rintro e w1 ⟨rfl, hb1⟩
          have HK1 : Hid (Wk w1 g _ len cap s (.slice oa s.out.length oc) (.slice ya s.way.length yc)) := HK.out.under hb1
          have HB1 : Hid (Below w0.heap.size w0 w1) := HO.out.below.trans (hb1.mono HO.out.below.size)
          have Qw1 : Hid _ := Qw.out w1 hb1
          obtain ⟨c0, c1, c2, c3, c4⟩ := HK1.out.cells
          rw [hE] at c4
          have hgl := HK1.out.lt
          have f3 := HK1.out.free 3
          have f4 := HK1.out.free 4
          clear hb1 Qw Qo Qf HK
          go_wp2_with fail
          refine Calls.mono Qw1.out ?_
          rintro e w2 ⟨rfl, rfl⟩
          clear Qw1
          go_wp2
          (try simp only [Exit.inBlock, Exit.then])
          refine bodyPost_ret (results_none rfl _ _ _) rfl ?_
          exact ⟨rfl, ⟨_, _, HK1.out.fail p 101⟩, (HB1.out.setCell hg _).setCell hg _, HO.out.ord, HO.out.way, by show (0 : Int) ≤ 101; omega, by show (101 : Int) ≤ 1000; omega⟩
        · have hY' : hin s.way p = false := by simpa using hY
          rw [hY'] at Qw
          rcases hfi_spec us p with ⟨hR, hn⟩ | ⟨k, u, hR, hu, hup, hun⟩
          · rw [hcome_none hE hO' hY' hn]
            rw [hR] at Qf
            clear hf ih hO hO' hY hY' hR hn
            go_enter Try.func25, Try.ntmps25
            go_wp2_with fail
            refine Calls.mono Qo.out ?_
            rintro e w1 ⟨rfl, rfl⟩
            go_wp2_with fail
            refine Calls.mono Qf.out ?_
            rintro e w1 ⟨rfl, hb1⟩
            have HK1 : Hid (Wk w1 g _ len cap s (.slice oa s.out.length oc) (.slice ya s.way.length yc)) := HK.out.under hb1
            have HB1 : Hid (Below w0.heap.size w0 w1) := HO.out.below.trans (hb1.mono HO.out.below.size)
            have Qw1 : Hid _ := Qw.out w1 hb1
            obtain ⟨c0, c1, c2, c3, c4⟩ := HK1.out.cells
            rw [hE] at c4
            have hgl := HK1.out.lt
            have f3 := HK1.out.free 3
            have f4 := HK1.out.free 4
            clear hb1 Qw Qo Qf HK
            go_wp2_with fail
            refine Calls.mono Qw1.out ?_
            rintro e w2 ⟨rfl, rfl⟩
            clear Qw1
            go_wp2
            (try simp only [Exit.inBlock, Exit.then])
            refine bodyPost_ret (results_none rfl _ _ _) rfl ?_
            exact ⟨rfl, ⟨_, _, HK1.out.fail p 100⟩, (HB1.out.setCell hg _).setCell hg _, HO.out.ord, HO.out.way, by show (0 : Int) ≤ 100; omega, by show (100 : Int) ≤ 1000; omega⟩
          · rw [hR] at Qf
            clear hR hO hY
            obtain ⟨h1, h2, h3, h4, h6, h7⟩ := hU.out
            have hkl : k < us.length := (List.getElem?_eq_some_iff.1 hu).1
            obtain ⟨b, off, rfl, hlt, hc⟩ := h6 (by omega)
            obtain ⟨d0, d1, d2⟩ := unit_cells hc hu
            have hkl2 : (k : Int) < (len : Int) := by omega
            have HS : Hid (Sb w0 u.da u.deps.length u.dc u.deps) := (h7 k u hu).1
            have hdl := (h7 k u hu).1.h63
            obtain ⟨up, uda, udc, ud, upa, upc, upb⟩ := u
            simp only at d1 HS hdl hup
            change hunit (us.map Um.un) p = some ⟨up, ud, upb⟩ at hun
            have HD : Hid (∀ V, Below w0.heap.size w0 V → V.cell? ⟨b, off + k * 3 + 1, none⟩ = some (.slice uda ud.length udc) ∧ b < V.heap.size) := fun V hV => ⟨(hV.cell hlt).trans d1, Nat.lt_of_lt_of_le hlt hV.size⟩
            have hkn : ¬ ((k : Int) < 0) := by omega
            have HUl : Hid (us.length = len) := h1
            clear h1 h2 h4 h6 h7 hkl hlt hc d0 d1 d2 hu
            clear hkn
            obtain ⟨R, HR⟩ : ∃ R, Hid (R = hcome (us.map Um.un) (f + 1) p s) := ⟨_, rfl⟩
            have HOr : Hid (Ordd (us.map Um.un) R.out) := by
              show Ordd _ _
              rw [HR.out]
              exact (hcome_kept (f + 1) p s HO.out.way hf).1.ord HO.out.ord
            rw [← HR.out]
            go_enter Try.func25, Try.ntmps25
            go_wp2_with fail
            refine Calls.mono Qo.out ?_
            rintro e w1 ⟨rfl, rfl⟩
            go_wp2_with fail
            refine Calls.mono Qf.out ?_
            rintro e w1 ⟨rfl, hb1⟩
            have HK1 : Hid (Wk w1 g _ len cap s (.slice oa s.out.length oc) (.slice ya s.way.length yc)) := HK.out.under hb1
            have HB1 : Hid (Below w0.heap.size w0 w1) := HO.out.below.trans (hb1.mono HO.out.below.size)
            have Qw1 : Hid _ := Qw.out w1 hb1
            obtain ⟨c0, c1, c2, c3, c4⟩ := HK1.out.cells
            rw [hE] at c4
            have hgl := HK1.out.lt
            have f3 := HK1.out.free 3
            have f4 := HK1.out.free 4
            clear hb1 Qw Qo Qf HK
            go_wp2_with fail
            refine Calls.mono Qw1.out ?_
            rintro e w2 ⟨rfl, rfl⟩
            clear Qw1
            obtain ⟨x1, x2⟩ := HD.out _ HB1.out
            go_wp2
            go_loopw [66] (fun v wr => ∃ j : Nat, v = .int .i64 (j : Int) ∧ j ≤ ud.length ∧ Hid (∀ i, i < j → ∀ d, ud[i]? = some d → hin (ud.take i) d = false) ∧ w1 = wr) (fun v _ => ud.length - (intOf v).toNat)
            case atStart => exact ⟨0, rfl, by omega, fun i hi => absurd hi (by omega), rfl⟩
            case round =>
              obtain ⟨j, rfl, hj, HJ, rfl⟩ := hrel
              by_cases hjl : j < ud.length
              · obtain ⟨d, hd⟩ : ∃ d, ud[j]? = some d := ⟨ud[j]'hjl, List.getElem?_eq_getElem hjl⟩
                have hS1 := HS.out.below HB1.out
                obtain ⟨b2, off2, rfl, hlt2, hc2⟩ := hS1.hmem (by omega)
                have hcell := hc2 j d hd
                have hudc := hS1.hcap
                have Q2 : Hid _ := rhin_any d (hS1.take j (by omega))
                have hjc : (j : Int) ≤ (udc : Int) := by omega
                by_cases hI : hin (ud.take j) d = true
                · rw [hI] at Q2
                  have HR2 : Hid (R = { s with path := p, e := 102 }) := HR.out.trans (hcome_two hE hO' hY' hun (hdup_yes hd hI))
                  clear hI hd hc2 HJ ih hf hS1
                  go_wp2_with fail
                  refine Calls.mono Q2.out ?_
                  rintro e w3 ⟨rfl, rfl⟩
                  go_wp2
                  (try simp only [Exit.inBlock, Exit.then])
                  refine bodyPost_ret (results_none rfl _ _ _) rfl ?_
                  refine ⟨rfl, ?_⟩
                  rw [HR2.out]
                  exact ⟨⟨_, _, HK1.out.fail p 102⟩, (HB1.out.setCell hg _).setCell hg _, HO.out.ord, HO.out.way, by show (0 : Int) ≤ 102; omega, by show (102 : Int) ≤ 1000; omega⟩
                · have hI' : hin (ud.take j) d = false := by simpa using hI
                  rw [hI'] at Q2
                  have HJ2 : Hid (∀ i, i < j + 1 → ∀ d, ud[i]? = some d → hin (ud.take i) d = false) := fun i hi d' hd' => by
                    by_cases q : i = j
                    · subst q
                      rw [hd] at hd'
                      cases hd'
                      exact hI'
                    · exact HJ.out i (by omega) d' hd'
                  clear hI hI' hd hc2 HJ ih hf hS1
                  go_wp2_with fail
                  refine Calls.mono Q2.out ?_
                  rintro e w3 ⟨rfl, rfl⟩
                  go_wp2
                  go_roundw
                  case rel => first | exact ⟨j + 1, by go_num, by omega, HJ2, by first | rfl | trivial⟩ | ((repeat apply Exists.intro); exact ⟨⟨j + 1, by go_num, by omega, HJ2, by first | rfl | trivial⟩, rfl⟩)
                  case measure => simp [intOf]; omega
              · obtain rfl : j = ud.length := by omega
                have hD : hdup ud = false := hdup_no (fun i hi => HJ.out i hi)
                obtain ⟨S2, HS2⟩ : ∃ S2, Hid (S2 = ud.foldl (fun s d => hcome (us.map Um.un) f d s) { s with way := s.way ++ [p] }) := ⟨_, rfl⟩
                have HR2 : Hid (R = if S2.e = 0 then { out := S2.out ++ [p], way := s.way, path := S2.path, e := S2.e } else { S2 with way := s.way }) := HR.out.trans (hcome_go hE hO' hY' hun hD HS2.out)
                clear HJ hD hjl hj HR
                have hA : Below w1.heap.size w1 (w1.alloc (.cells #[.string p] 9)) := (Below.refl _ _).alloc (Nat.le_refl _) _
                have HWA : Hid (Sw (w1.alloc (.cells #[.string p] 9)) (g + 1) (.slice ya s.way.length yc) s.way) := HK1.out.way.below hA
                have HCp : Hid _ := text_cell w1 p
                have HWl : Hid (s.way.length + 1 ≤ 1000000) := by have := HO.out.way.le; rw [List.length_map, HUl.out] at this; show _ ≤ _; omega
                have HBs : Hid (g + 1 ≤ (w1.alloc (.cells #[.string p] 9)).heap.size) := by show _ ≤ _; simp only [World.size_alloc]; omega
                have HWy : Hid (WayOk (us.map Um.un) (s.way ++ [p])) := HO.out.way.push ((hin_not _ _).1 (by simp [hY'])) hun
                have hf2 : (us.map Um.un).length + 1 ≤ f + (s.way ++ [p]).length := by rw [List.length_append]; simp only [List.length_cons, List.length_nil]; omega
                clear hA
                go_wp2_with (at_builtin; refine wpList_append_sw rfl _ _ rfl (g + 1) (.slice ya s.way.length yc) s.way p w1.heap.size 1 rfl rfl HWA.out HCp.out HWl.out HBs.out ?_; intro v' w3 hN3 hg3 hat3; obtain ⟨z2, hgl3, zf2, hk3, hb3⟩ := HK1.out.pushWay hN3 hg3 hat3; obtain ⟨va, vc, hv⟩ := hN3.slice; rw [List.length_append, List.length_singleton] at hv; subst hv; have HK3 : Hid _ := hk3; obtain ⟨y0, y1, y2, y3, y4⟩ := hk3.cells; have hgl4 := hk3.lt; have hb4 : Below w0.heap.size w0 (w3.setCell ⟨g, 2, none⟩ (.slice va (s.way.length + 1) vc)) := (HB1.out.trans (hb3 _ hg)).setCell hg _; obtain ⟨x3, x4⟩ := HD.out _ hb4; have HB3 : Hid (Below w0.heap.size w0 (w3.setCell ⟨g, 2, none⟩ (.slice va (s.way.length + 1) vc))) := hb4; clear hk3 hb3 hb4 hN3 hg3 hat3 HWA HCp HBs HK1 HB1 c0 c1 c2 c3 c4 f3 f4 x1 x2 hgl)
                clear y0 y1 y2 y3 y4 z2 zf2 hgl3 x3 x4 hgl4
                go_loopw [110] (fun v wr => ∃ (j : Nat) (s' : Hs), v = .int .i64 (j : Int) ∧ j ≤ ud.length ∧ Hid (s' = (ud.take j).foldl (fun s d => hcome (us.map Um.un) f d s) { s with way := s.way ++ [p] }) ∧ Hid (s'.way = s.way ++ [p]) ∧ Hid (Wm w0 wr g (some ⟨b, off, none⟩) len cap (us.map Um.un) s')) (fun v _ => ud.length - (intOf v).toNat)
                case atStart => exact ⟨0, _, rfl, by omega, rfl, rfl, ⟨⟨_, _, HK3.out⟩, HB3.out, HO.out.ord, HWy.out, by show (0 : Int) ≤ s.e; omega, by show s.e ≤ (1000 : Int); omega⟩⟩
                case round =>
                  obtain ⟨j, s', rfl, hj, HF, HW, HM⟩ := hrel
                  by_cases hjl : j < ud.length
                  · obtain ⟨d, hd⟩ : ∃ d, ud[j]? = some d := ⟨ud[j]'hjl, List.getElem?_eq_getElem hjl⟩
                    have hS1 := HS.out.below HM.out.below
                    obtain ⟨b2, off2, rfl, hlt2, hc2⟩ := hS1.hmem (by omega)
                    have hcell := hc2 j d hd
                    have Q2 : Hid _ := ih d s' wr HM.out (by rw [HW.out]; exact hf2)
                    have HF2 : Hid (hcome (us.map Um.un) f d s' = (ud.take (j + 1)).foldl (fun s d => hcome (us.map Um.un) f d s) { s with way := s.way ++ [p] }) := by
                      show _ = _
                      rw [List.take_add_one, hd, List.foldl_append, ← HF.out]
                      rfl
                    have HW2 : Hid ((hcome (us.map Um.un) f d s').way = s.way ++ [p]) := (hcome_kept f d s' HM.out.way (by rw [HW.out]; exact hf2)).1.way.trans HW.out
                    clear hd hc2 hS1 HF HW HM ih
                    go_wp2_with fail
                    refine Calls.mono Q2.out ?_
                    rintro e w5 ⟨rfl, hM5⟩
                    have HM5 : Hid _ := hM5
                    clear hM5
                    go_wp2
                    go_roundw
                    case rel => first | exact ⟨j + 1, _, by go_num, by omega, HF2, HW2, HM5⟩ | ((repeat apply Exists.intro); exact ⟨⟨j + 1, _, by go_num, by omega, HF2, HW2, HM5⟩, rfl⟩)
                    case measure => simp [intOf]; omega
                  · obtain rfl : j = ud.length := by omega
                    have hF := HF.out
                    rw [List.take_length, ← HS2.out] at hF
                    subst hF
                    obtain ⟨⟨vo, vw, hk⟩, hbel, hord, hway, he0', he1'⟩ := HM.out
                    obtain ⟨oa', oc', hvo⟩ := hk.out.slice
                    obtain ⟨ya', yc', hvw⟩ := hk.way.slice
                    rw [HW.out, List.length_append, List.length_cons, List.length_nil] at hvw
                    subst hvo hvw
                    obtain ⟨y0, y1, y2, y3, y4⟩ := hk.cells
                    have hgl := hk.lt
                    have f2 := hk.free 2
                    have hsb := Sb.of_own hk.way
                    obtain ⟨yb, yo, rfl, _, _⟩ := hsb.hmem (by omega)
                    have hyc2 : s.way.length + 1 ≤ yc' := hsb.hcap
                    have hyc : s.way.length ≤ 1001 := by have := hway.le; rw [HW.out, List.length_map, HUl.out, List.length_append] at this; omega
                    have HM2 : Hid _ := HM.out
                    obtain ⟨WX, hWX⟩ : ∃ WX, (wr.setCell ⟨g, 2, none⟩ (.slice (some ⟨yb, yo, none⟩) s.way.length yc')).drew = WX := ⟨_, rfl⟩
                    have hkc : Wk WX g (some ⟨b, off, none⟩) len cap { s' with way := s.way } (.slice oa' s'.out.length oc') (.slice (some ⟨yb, yo, none⟩) s.way.length yc') := by
                      rw [← hWX]
                      exact (hk.cutWay HW.out).under ((Below.refl _ _).drew)
                    have hbX : Below w0.heap.size w0 WX := by
                      rw [← hWX]
                      exact (hbel.setCell hg _).drew
                    have HKc : Hid _ := hkc
                    have HBX : Hid _ := hbX
                    obtain ⟨q0, q1, q2, q3, q4⟩ := hkc.cells
                    have hglx := hkc.lt
                    have g1 := hkc.free 1
                    clear hsb hk hbel hord hway HM ih hkc hbX
                    by_cases hE2 : s'.e = 0
                    · change WX.cell? ⟨g, 4, none⟩ = some (.int .i64 s'.e) at q4
                      rw [hE2] at q4
                      have hA : Below WX.heap.size WX (WX.alloc (.cells #[.string p] 9)) := (Below.refl _ _).alloc (Nat.le_refl _) _
                      have HOA : Hid (Sw (WX.alloc (.cells #[.string p] 9)) (g + 1) (.slice oa' s'.out.length oc') s'.out) := HKc.out.out.below hA
                      have HCp : Hid _ := text_cell WX p
                      have HOl : Hid (s'.out.length + 1 ≤ 1000000) := by have := HM2.out.ord.le; rw [List.length_map, HUl.out] at this; show _ ≤ _; omega
                      have HBs : Hid (g + 1 ≤ (WX.alloc (.cells #[.string p] 9)).heap.size) := by show _ ≤ _; simp only [World.size_alloc]; omega
                      have HR3 : Hid (R = { out := s'.out ++ [p], way := s.way, path := s'.path, e := s'.e }) := HR2.out.trans (if_pos hE2)
                      clear hA
                      go_wp2
                      go_region
                      all_goals
                        go_wp2_with (at_builtin; refine wpList_append_sw rfl _ _ rfl (g + 1) (.slice oa' s'.out.length oc') s'.out p WX.heap.size 1 rfl rfl HOA.out HCp.out HOl.out HBs.out ?_; intro v' w6 hN6 hg6 hat6; obtain ⟨z2, hgl6, zf2, hk6, hb6⟩ := HKc.out.pushOut hN6 hg6 hat6; obtain ⟨va6, vc6, hv⟩ := hN6.slice; rw [List.length_append, List.length_singleton] at hv; subst hv; have HK6 : Hid _ := hk6; have HB6 : Hid (Below w0.heap.size w0 w6) := HBX.out.trans (hb6 _ hg); clear hk6 hb6 hN6 hg6 hat6 HOA HCp HBs q0 q1 q2 q3 q4)
                        go_end0
                        refine ⟨rfl, ?_⟩
                        rw [HR3.out]
                        refine ⟨⟨_, _, HK6.out⟩, HB6.out.setCell hg _, ?_, HO.out.way, ?_, ?_⟩
                        · have h9 := HOr.out
                          rw [HR3.out] at h9
                          exact h9
                        · show 0 ≤ s'.e
                          omega
                        · show s'.e ≤ 1000
                          omega
                    · have HR3 : Hid (R = { s' with way := s.way }) := HR2.out.trans (if_neg hE2)
                      have hne2 : (s'.e == 0) = false := by simpa using hE2
                      change WX.cell? ⟨g, 4, none⟩ = some (.int .i64 s'.e) at q4
                      go_wp2
                      go_region
                      all_goals
                        go_wp2
                        go_end0
                        refine ⟨rfl, ?_⟩
                        rw [HR3.out]
                        exact ⟨⟨_, _, HKc.out⟩, HBX.out, HM2.out.ord, HO.out.way, HM2.out.e0, HM2.out.e1⟩
    · rw [hcome_stop (.inl hE)]
      have hne : (s.e != 0) = true := by simpa using hE
      go_enter Try.func25, Try.ntmps25
      go_wp2
      (try simp only [Exit.inBlock, Exit.then])
      refine bodyPost_ret (results_none rfl _ _ _) rfl ?_
      exact ⟨rfl, HO.out⟩

end Go.Proofs.Ytnkknkijnpdapaa
