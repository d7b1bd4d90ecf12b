/- The program's own closure of lay: paths one by one, each behind what it imports. -/
import Derived.Test.YtnkknkijnpdapaaJLay0
import Derived.Deep.RegionWith
namespace Go.Proofs.Ytnkknkijnpdapaa
open Go.RowKit
set_option linter.unusedVariables false
set_option linter.unusedSimpArgs false

/-- How the closure ends. -/
def Eend (w0 : World) (g h : Nat) (us : List Um) (s : Hs) (e : Ending) (W' : World) : Prop :=
  (s.e = 0 ∧ e = .returned (.tuple #[]) ∧ Ly w0 W' g h us s.out (gmk s.out s.way)) ∨ (s.e ≠ 0 ∧ e = .panicked [flt s.path s.e] ∧ ∃ out gm, Ly w0 W' g h us out gm)

set_option maxRecDepth 10000 in
set_option maxHeartbeats 16000000 in
theorem peach_any {w0 : World} {a0 : Option Addr} {len0 cap0 : Nat} {us : List Um} (hU : Hid (Ul w0 a0 len0 cap0 us)) (hs : Hid (Usm us)) (hlen : us.length ≤ 1000) (g h : Nat) :
    ∀ (f : Nat) (a : Option Addr) (len cap : Nat) (zs : List ByteArray) (s : Hs) (W : World), Hid (Sb w0 a len cap zs) → Hid (∀ z ∈ zs, Tsm z) → Hid (s.e = 0) → Hid (Ly w0 W g h us s.out (gmk s.out s.way)) → Hid (WayOk (us.map Um.un) s.way) → Hid (Ordd (us.map Um.un) s.out) → Hid ((us.map Um.un).length + 1 ≤ f + s.way.length) →
    Calls Try.prog 33 #[.slice a len cap, .pointer (some ⟨h + 2, 0, none⟩), .pointer (some ⟨h + 3, 0, none⟩), .pointer (some ⟨h, 0, none⟩), .pointer (some ⟨g, 0, none⟩)] W fun e W' => Eend w0 g h us (zs.foldl (fun s d => hcome (us.map Um.un) f d s) s) e W' := by
  intro f
  induction f with
  | zero => intro a len cap zs s W _ _ _ _ hw _ hf; have := hw.out.le; have := hf.out; omega
  | succ f ih =>
    intro a len cap zs s W hS hz he hL hw ho hf
    have IH : Hid _ := ih
    clear ih
    obtain ⟨R, HR⟩ : ∃ R, Hid (R = zs.foldl (fun s d => hcome (us.map Um.un) (f + 1) d s) s) := ⟨_, rfl⟩
    rw [← HR.out]
    obtain ⟨h1, h2, h3, h4, h6⟩ := hS.out
    have H1 : Hid (zs.length = len) := h1
    have H6 : Hid _ := h6
    clear h1 h6 hS
    go_enter Try.func33, Try.ntmps33
    go_wp2
    go_loopw [10] (fun v wr => ∃ (k : Nat) (s' : Hs), v = .int .i64 (k : Int) ∧ k ≤ len ∧ Hid (s' = (zs.take k).foldl (fun s d => hcome (us.map Um.un) (f + 1) d s) s) ∧ Hid (s'.e = 0) ∧ Hid (s'.way = s.way) ∧ Hid (Ordd (us.map Um.un) s'.out) ∧ Hid (Ly w0 wr g h us s'.out (gmk s'.out s'.way))) (fun v _ => len - (intOf v).toNat)
    case atStart => exact ⟨0, s, rfl, by omega, (by show _ = _; simp), he, rfl, ho, hL⟩
    case round =>
      obtain ⟨k, s', rfl, hk, HF, HE, HY, HO, HL⟩ := hrel
      clear he hL ho
      by_cases hkl : k < len
      · obtain ⟨b, off, rfl, hlt, hc⟩ := H6.out (by omega)
        obtain ⟨z, hzk⟩ : ∃ z, zs[k]? = some z := ⟨zs[k]'(by rw [H1.out]; exact hkl), List.getElem?_eq_getElem (by rw [H1.out]; exact hkl)⟩
        have hcell := (HL.out.below.cell hlt).trans (hc k z hzk)
        have hlt2 : b < wr.heap.size := Nat.lt_of_lt_of_le hlt HL.out.below.size
        have HT : Hid (Tsm z) := hz.out z (List.mem_of_getElem? hzk)
        obtain ⟨m1, m2, m3⟩ := box_cell HL.out.bm
        obtain ⟨n, hM⟩ := HL.out.mm
        have hlk := hM.look Try.underlying60 (zeroMark _) z HT.out.key false
        have HF1 : Hid (hcome (us.map Um.un) (f + 1) z s' = (zs.take (k + 1)).foldl (fun s d => hcome (us.map Um.un) (f + 1) d s) s) := by
          show _ = _
          rw [take_snoc hzk, List.foldl_append, ← HF.out]
          rfl
        have HFe : Hid ((hcome (us.map Um.un) (f + 1) z s').e ≠ 0 → R = hcome (us.map Um.un) (f + 1) z s') := fun e => by
          rw [HR.out, fold_at hzk (by rw [← HF.out]; exact e), ← HF.out]
        by_cases hO : hin s'.out z = true
        · have hg2 : gmk s'.out s'.way z = some (.int .i64 2) := by unfold gmk; rw [if_pos hO]
          rw [hg2] at hlk
          simp only [mlook] at hlk
          have HF2 : Hid (s' = (zs.take (k + 1)).foldl (fun s d => hcome (us.map Um.un) (f + 1) d s) s) := by
            rw [← HF1.out, hcome_stop (.inr hO)]
            rfl
          clear HF HF1 HFe hO hg2 hM hc hzk HT IH
          go_wp2
          go_roundw
          case rel => first | exact ⟨k + 1, s', by go_num, by omega, HF2, HE, HY, HO, HL⟩ | ((repeat apply Exists.intro); exact ⟨⟨k + 1, s', by go_num, by omega, HF2, HE, HY, HO, HL⟩, rfl⟩)
          case measure => simp [intOf]; omega
        · have hO' : hin s'.out z = false := by simpa using hO
          by_cases hW : hin s'.way z = true
          · have hg2 : gmk s'.out s'.way z = some (.int .i64 1) := by unfold gmk; rw [if_neg hO, if_pos hW]
            rw [hg2] at hlk
            simp only [mlook] at hlk
            have HE2 : Hid (Eend w0 g h us R (.panicked [flt z 101]) wr) := by
              have hq := hcome_cyc (f := f) HE.out hO' hW (l := us.map Um.un)
              have hq2 := HFe.out (by rw [hq]; simp)
              rw [hq2, hq]
              exact .inr ⟨by simp, rfl, _, _, HL.out⟩
            clear HF HF1 HFe hO hO' hW hg2 hM hc hzk HT IH HE HY HO HL HR
            go_wp2
            exact ⟨rfl, HE2.out⟩
          · have hW' : hin s'.way z = false := by simpa using hW
            have hg2 : gmk s'.out s'.way z = none := by unfold gmk; rw [if_neg hO, if_neg hW]
            rw [hg2] at hlk
            simp only [mlook] at hlk
            obtain ⟨w1, hup, hM1, hg1⟩ := hM.put Try.underlying60 z HT.out.key (.int .i64 1)
            have HL1 : Hid (Ly w0 w1 g h us s'.out (gmk s'.out (s'.way ++ [z]))) := HL.out.mark hg1 (hM1.congr (gmk_open hO'))
            obtain ⟨e1, _, e3⟩ := box_cell HL1.out.be
            obtain ⟨u1, _, u3⟩ := box_cell HL1.out.bu
            cases hq : ug us z with
            | none =>
              have QI : Hid (∀ V, Below w1.heap.size w1 V → Calls Try.prog 34 #[.map (some (g + 2)), .string z] V fun e W' => e = .panicked [flt z 100] ∧ Below V.heap.size V W') := fun V hV => by
                obtain ⟨n', hMu⟩ := (HL1.out.under hV).mu
                exact pimp_none z hMu HT.out.key hq
              have HE2 : Hid (∀ V, Below w1.heap.size w1 V → Eend w0 g h us R (.panicked [flt z 100]) V) := fun V hV => by
                have hq := hcome_none (f := f) HE.out hO' hW' (ug_none hq)
                have hq2 := HFe.out (by rw [hq]; simp)
                rw [hq2, hq]
                exact .inr ⟨by simp, rfl, _, _, HL1.out.under hV⟩
              clear HF HF1 HFe hO hO' hW hW' hg2 hM hc hzk HT IH HE HY HO HL HR hM1 hg1 hq HL1
              go_wp2_with fail
              refine wp_region_held (S := fun V => Hid (V.cell? ⟨h + 3, 0, none⟩ = some (.func (.func 33) #[] #[.pointer (some ⟨h + 2, 0, none⟩), .pointer (some ⟨h + 3, 0, none⟩), .pointer (some ⟨h, 0, none⟩), .pointer (some ⟨g, 0, none⟩)])) ∧ Hid (V.cell? ⟨h, 0, none⟩ = some (.map (some (g + 2))))) rfl ?_
              have HS0 : Hid _ := And.intro e1 u1
              refine wpAnyH_take (i := 0) (v := ?_) rfl (by kernel_rfl) (by kernel_rfl) (by kernel_rfl) (fun _ _ _ h => h) (Or.inl ⟨by rfl, ?_⟩) HS0.out ?_
              rotate_left
              · rintro V ⟨x1, x2⟩
                have x3 := x1.out
                go_simp
                try with_reducible rfl
              refine wpAnyH_take (i := 1) (v := ?_) rfl (by kernel_rfl) (by kernel_rfl) (by kernel_rfl) (fun _ _ _ h => h) (Or.inl ⟨by rfl, ?_⟩) HS0.out ?_
              rotate_left
              · rintro V ⟨x1, x2⟩
                have x3 := x2.out
                go_simp
                try with_reducible rfl
              refine wpAnyH_take (i := 2) (v := ?_) rfl (by kernel_rfl) (by kernel_rfl) (by kernel_rfl) (fun _ _ _ h => h) (Or.inl ⟨by rfl, ?_⟩) HS0.out ?_
              rotate_left
              · rintro V ⟨x1, x2⟩
                have x3 := x2.out
                go_simp
                try with_reducible rfl
              refine wpAnyH_all (rs := [3]) (by kernel_rfl) (by simp) ?_
              intro i hi
              obtain rfl : i = 3 := by simpa using hi
              clear hi
              refine wpOp_list2 rfl ?_
              intro Q' hQ' hP'
              have HP : Hid _ := hP'
              have HQ : Hid _ := hQ'
              clear hP' hQ'
              go_wp2_with fail
              refine Calls.mono (QI.out _ ((Below.refl _ _).drew)) ?_
              rintro e w2 ⟨rfl, hb2⟩
              exact HP.out _ _ _ ⟨rfl, HE2.out _ ((Below.refl _ w1).drew.trans hb2)⟩
            | some v =>
              obtain ⟨u, hum, hup2, rfl, hun⟩ := ug_some hq
              have HSu : Hid (Sb w0 u.da u.deps.length u.dc u.deps) := by
                obtain ⟨j, hj⟩ := List.getElem?_of_mem hum
                exact (hU.out.hall j u hj).1
              have HTu : Hid (∀ z ∈ u.deps, Tsm z) := (hs.out u hum).2
              clear hum hup2
              by_cases hd : hdup u.deps = true
              · have QI : Hid (∀ V, Below w1.heap.size w1 V → Calls Try.prog 34 #[.map (some (g + 2)), .string z] V fun e W' => e = .panicked [flt z 102] ∧ Below V.heap.size V W') := fun V hV => by
                  obtain ⟨n', hMu⟩ := (HL1.out.under hV).mu
                  exact pimp_two z hMu HT.out.key hq HSu HTu (HL1.out.under hV).below hd
                have HE2 : Hid (∀ V, Below w1.heap.size w1 V → Eend w0 g h us R (.panicked [flt z 102]) V) := fun V hV => by
                  have hq := hcome_two (f := f) HE.out hO' hW' hun hd
                  have hq2 := HFe.out (by rw [hq]; simp)
                  rw [hq2, hq]
                  exact .inr ⟨by simp, rfl, _, _, HL1.out.under hV⟩
                clear HF HF1 HFe hO hO' hW hW' hg2 hM hc hzk HT IH HE HY HO HL HR hM1 hg1 hq HL1 hd hun HSu HTu
                go_wp2_with fail
                refine wp_region_held (S := fun V => Hid (V.cell? ⟨h + 3, 0, none⟩ = some (.func (.func 33) #[] #[.pointer (some ⟨h + 2, 0, none⟩), .pointer (some ⟨h + 3, 0, none⟩), .pointer (some ⟨h, 0, none⟩), .pointer (some ⟨g, 0, none⟩)])) ∧ Hid (V.cell? ⟨h, 0, none⟩ = some (.map (some (g + 2))))) rfl ?_
                have HS0 : Hid _ := And.intro e1 u1
                refine wpAnyH_take (i := 0) (v := ?_) rfl (by kernel_rfl) (by kernel_rfl) (by kernel_rfl) (fun _ _ _ h => h) (Or.inl ⟨by rfl, ?_⟩) HS0.out ?_
                rotate_left
                · rintro V ⟨x1, x2⟩
                  have x3 := x1.out
                  go_simp
                  try with_reducible rfl
                refine wpAnyH_take (i := 1) (v := ?_) rfl (by kernel_rfl) (by kernel_rfl) (by kernel_rfl) (fun _ _ _ h => h) (Or.inl ⟨by rfl, ?_⟩) HS0.out ?_
                rotate_left
                · rintro V ⟨x1, x2⟩
                  have x3 := x2.out
                  go_simp
                  try with_reducible rfl
                refine wpAnyH_take (i := 2) (v := ?_) rfl (by kernel_rfl) (by kernel_rfl) (by kernel_rfl) (fun _ _ _ h => h) (Or.inl ⟨by rfl, ?_⟩) HS0.out ?_
                rotate_left
                · rintro V ⟨x1, x2⟩
                  have x3 := x2.out
                  go_simp
                  try with_reducible rfl
                refine wpAnyH_all (rs := [3]) (by kernel_rfl) (by simp) ?_
                intro i hi
                obtain rfl : i = 3 := by simpa using hi
                clear hi
                refine wpOp_list2 rfl ?_
                intro Q' hQ' hP'
                have HP : Hid _ := hP'
                have HQ : Hid _ := hQ'
                clear hP' hQ'
                go_wp2_with fail
                refine Calls.mono (QI.out _ ((Below.refl _ _).drew)) ?_
                rintro e w2 ⟨rfl, hb2⟩
                exact HP.out _ _ _ ⟨rfl, HE2.out _ ((Below.refl _ w1).drew.trans hb2)⟩
              · have hd' : hdup u.deps = false := by simpa using hd
                obtain ⟨S2, HS2e⟩ : ∃ S2, Hid (S2 = u.deps.foldl (fun s d => hcome (us.map Um.un) f d s) { s' with way := s'.way ++ [z] }) := ⟨_, rfl⟩
                obtain ⟨S3, HS3e⟩ : ∃ S3, Hid (S3 = hcome (us.map Um.un) (f + 1) z s') := ⟨_, rfl⟩
                have HS3 : Hid (S3 = if S2.e = 0 then { out := S2.out ++ [z], way := s'.way, path := S2.path, e := S2.e } else { S2 with way := s'.way }) := HS3e.out.trans (hcome_go HE.out hO' hW' hun hd' HS2e.out)
                have HR3 : Hid (S3.e ≠ 0 → R = S3) := fun e => by rw [HS3e.out] at e ⊢; exact HFe.out e
                have HF3 : Hid (S3 = (zs.take (k + 1)).foldl (fun s d => hcome (us.map Um.un) (f + 1) d s) s) := HS3e.out.trans HF1.out
                have hwk : WayOk (us.map Um.un) s'.way := by rw [HY.out]; exact hw.out
                have hfk : (us.map Um.un).length + 1 ≤ f + 1 + s'.way.length := by rw [HY.out]; exact hf.out
                have hkp := hcome_kept (f + 1) z s' hwk hfk
                have HY4 : Hid (S3.way = s'.way) := by show _ = _; rw [HS3e.out]; exact hkp.1.way
                have HY3 : Hid (S3.way = s.way) := HY4.out.trans HY.out
                have HO3 : Hid (Ordd (us.map Um.un) S3.out) := by show Ordd _ _; rw [HS3e.out]; exact hkp.1.ord HO.out
                have HW2 : Hid (WayOk (us.map Um.un) (s'.way ++ [z])) := hwk.push ((hin_not _ _).1 (by simp [hW'])) hun
                have HF2 : Hid ((us.map Um.un).length + 1 ≤ f + (s'.way ++ [z]).length) := by show _ ≤ _; rw [List.length_append, List.length_singleton]; omega
                have HFK : Hid _ := fold_kept (l := us.map Um.un) (P := fun _ => True) (g := fun s d => hcome (us.map Um.un) f d s) u.deps { s' with way := s'.way ++ [z] } (fun d _ t ht => by
                  have := hcome_kept f d t (by rw [ht]; exact HW2.out) (by rw [ht]; exact HF2.out)
                  exact ⟨this.1.imp (fun _ _ => trivial), this.2⟩)
                have HYe : Hid (S2.way = s'.way ++ [z]) := by show _ = _; rw [HS2e.out]; exact HFK.out.1.way
                have HOl : Hid (S2.out.length + 1 ≤ 1000000) := by
                  show _ ≤ _
                  have h9 : Ordd (us.map Um.un) S2.out := by rw [HS2e.out]; exact HFK.out.1.ord HO.out
                  have := h9.le
                  rw [List.length_map] at this
                  omega
                have QI : Hid (∀ V, Below w1.heap.size w1 V → Calls Try.prog 34 #[.map (some (g + 2)), .string z] V fun e W' => e = .returned (.slice u.da u.deps.length u.dc) ∧ Below V.heap.size V W') := fun V hV => by
                  obtain ⟨n', hMu⟩ := (HL1.out.under hV).mu
                  exact pimp_ok z hMu HT.out.key hq HSu HTu (HL1.out.under hV).below hd'
                clear HF HF1 HFe hO hO' hW hW' hg2 hM hc hzk HR hM1 hg1 hq hun hd hd' hwk hfk hkp HS3e HFK
                go_wp2_with fail
                refine wp_region_held (S := fun V => Hid (V.cell? ⟨h + 3, 0, none⟩ = some (.func (.func 33) #[] #[.pointer (some ⟨h + 2, 0, none⟩), .pointer (some ⟨h + 3, 0, none⟩), .pointer (some ⟨h, 0, none⟩), .pointer (some ⟨g, 0, none⟩)])) ∧ Hid (V.cell? ⟨h, 0, none⟩ = some (.map (some (g + 2))))) rfl ?_
                have HS0 : Hid _ := And.intro e1 u1
                refine wpAnyH_take (i := 0) (v := ?_) rfl (by kernel_rfl) (by kernel_rfl) (by kernel_rfl) (fun _ _ _ h => h) (Or.inl ⟨by rfl, ?_⟩) HS0.out ?_
                rotate_left
                · rintro V ⟨x1, x2⟩
                  have x3 := x1.out
                  go_simp
                  try with_reducible rfl
                refine wpAnyH_take (i := 1) (v := ?_) rfl (by kernel_rfl) (by kernel_rfl) (by kernel_rfl) (fun _ _ _ h => h) (Or.inl ⟨by rfl, ?_⟩) HS0.out ?_
                rotate_left
                · rintro V ⟨x1, x2⟩
                  have x3 := x2.out
                  go_simp
                  try with_reducible rfl
                refine wpAnyH_take (i := 2) (v := ?_) rfl (by kernel_rfl) (by kernel_rfl) (by kernel_rfl) (fun _ _ _ h => h) (Or.inl ⟨by rfl, ?_⟩) HS0.out ?_
                rotate_left
                · rintro V ⟨x1, x2⟩
                  have x3 := x2.out
                  go_simp
                  try with_reducible rfl
                refine wpAnyH_all (rs := [3]) (by kernel_rfl) (by simp) ?_
                intro i hi
                obtain rfl : i = 3 := by simpa using hi
                clear hi
                refine wpOp_list2 rfl ?_
                intro Q' hQ' hP'
                have HP : Hid _ := hP'
                have HQ : Hid _ := hQ'
                clear hP' hQ'
                go_wp2_with fail
                refine Calls.mono (QI.out _ ((Below.refl _ _).drew)) ?_
                rintro e w2 ⟨rfl, hb2⟩
                have HB2 : Hid (Below w1.heap.size w1 w2) := (Below.refl _ w1).drew.trans hb2
                have HL2 : Hid (Ly w0 w2 g h us s'.out (gmk s'.out (s'.way ++ [z]))) := HL1.out.under HB2.out
                have HS2 : Hid _ := And.intro (box_cell HL2.out.be).1 (box_cell HL2.out.bu).1
                have Q2 : Hid _ := IH.out u.da u.deps.length u.dc u.deps { s' with way := s'.way ++ [z] } w2 HSu HTu HE HL2 HW2 HO HF2
                clear hb2
                go_wp2
                refine HQ.out _ _ ⟨⟨HS2.out.1, HS2.out.2⟩, ?_⟩
                clear HQ HP HS2
                refine wpAnyH_all (rs := [4]) (by kernel_rfl) (by simp) ?_
                intro i hi
                obtain rfl : i = 4 := by simpa using hi
                clear hi
                refine wpOp_list2 rfl ?_
                intro Q' hQ' hP'
                have HP : Hid _ := hP'
                have HQ : Hid _ := hQ'
                clear hP' hQ'
                go_wp2_with fail
                refine Calls.mono Q2.out ?_
                by_cases hE2 : S2.e = 0
                · have HE3 : Hid (S3.e = 0) := by
                    show _ = _
                    rw [HS3.out, if_pos hE2]
                    exact hE2
                  have HO2 : Hid (S3.out = S2.out ++ [z]) := by
                    show _ = _
                    rw [HS3.out, if_pos hE2]
                  rintro e w3 hend
                  rw [← HS2e.out] at hend
                  rcases hend with ⟨_, rfl, hL3⟩ | ⟨hne, _, _⟩
                  · obtain ⟨n3, hM3⟩ := hL3.mm
                    obtain ⟨m1, m2, m3⟩ := box_cell hL3.bm
                    obtain ⟨w4, hup4, hM4, hg4⟩ := hM3.put Try.underlying60 z HT.out.key (.int .i64 2)
                    have HL4 : Hid (Ly w0 w4 g h us S2.out (gmk (S2.out ++ [z]) s'.way)) := hL3.mark hg4 (hM4.congr (fun x => by rw [HYe.out]; exact gmk_laid x))
                    obtain ⟨vo, hbo, hso⟩ := HL4.out.bo
                    obtain ⟨oa, oc, rfl⟩ := hso.slice
                    have HBO : Hid _ := hbo
                    have HSO : Hid (Sw w4 (h + 4) (.slice oa S2.out.length oc) S2.out) := hso
                    obtain ⟨q1, q2, q3⟩ := box_cell hbo
                    have HL6' : Hid (∀ V, Ly w0 V g h us (S2.out ++ [z]) (gmk (S2.out ++ [z]) s'.way) → Ly w0 V g h us S3.out (gmk S3.out S3.way)) := fun V hV => by rw [HO2.out, HY4.out]; exact hV
                    have HS4 : Hid _ := And.intro (box_cell hL3.be).1 (box_cell hL3.bu).1
                    clear hL3 hM3 hM4 hg4 hbo hso hE2 HE HO HL HL1 HL2 HB2 HS3 HS2e HYe IH Q2 QI HW2 HF2 HSu HTu HO2
                    go_wp2
                    refine HQ.out _ _ ⟨⟨HS4.out.1, HS4.out.2⟩, ?_⟩
                    clear HQ HP HS4
                    refine wpAnyH_done (by kernel_rfl) ?_ _
                    go_wp2_with fail
                    refine wp_region_any rfl ?_
                    refine wpAny_take (i := 1) (v := ?_) rfl (by kernel_rfl) (by kernel_rfl) (by kernel_rfl) (fun _ _ _ h => h) (Or.inl ⟨by rfl, ?_⟩) ?_
                    rotate_left
                    · intro V
                      go_simp
                      try with_reducible rfl
                    refine wpAny_all (rs := [0, 2]) (by kernel_rfl) (by simp) ?_
                    intro i hi
                    obtain rfl | rfl : i = 0 ∨ i = 2 := by simpa using hi
                    · clear hi
                      refine wpOp_list2 rfl ?_
                      intro Q' hQ' _
                      have HQ : Hid _ := hQ'
                      clear hQ'
                      go_wp2
                      refine HQ.out _ _ ?_
                      clear HQ
                      refine wpAny_all (rs := [2]) (by kernel_rfl) (by simp) ?_
                      intro i hi
                      obtain rfl : i = 2 := by simpa using hi
                      clear hi
                      refine wpOp_list2 rfl ?_
                      intro Q' hQ' _
                      have HQ : Hid _ := hQ'
                      clear hQ'
                      go_wp2_with fail
                      refine Calls.mono (pclone_any z _ HT) ?_
                      rintro e w5 ⟨rfl, hb5⟩
                      have HB5 : Hid (Below w4.heap.size w4 w5) := (Below.refl _ w4).drew.trans hb5
                      have hbo5 := (HB5.out.block _ (by have := HL4.out.size; have := HL4.out.hh; omega)).trans HBO.out
                      obtain ⟨y1, y2, y3⟩ := box_cell hbo5
                      have HBO5 : Hid _ := hbo5
                      clear hb5 hbo5
                      go_wp2
                      refine HQ.out _ _ ?_
                      clear HQ
                      refine wpAny_all (rs := [3]) (by kernel_rfl) (by simp) ?_
                      intro i hi
                      obtain rfl : i = 3 := by simpa using hi
                      clear hi
                      refine wpOp_list2 rfl ?_
                      intro Q' hQ' _
                      have HQ : Hid _ := hQ'
                      clear hQ'
                      have y4 : (w5.alloc (.cells #[.string z] 9)).cell? ⟨g, 0, none⟩ = some (.slice oa S2.out.length oc) := by
                        rw [((Below.refl _ w5).alloc (Nat.le_refl _) _).cell y3]
                        exact y1
                      go_wp2
                      refine HQ.out _ _ ?_
                      clear HQ
                      refine wpAny_all (rs := [4]) (by kernel_rfl) (by simp) ?_
                      intro i hi
                      obtain rfl : i = 4 := by simpa using hi
                      clear hi
                      refine wpOp_list2 rfl ?_
                      intro Q' hQ' _
                      have HQ : Hid _ := hQ'
                      clear hQ'
                      have HA5 : Hid (Below w5.heap.size w5 (w5.alloc (.cells #[.string z] 9))) := (Below.refl _ _).alloc (Nat.le_refl _) _
                      have HSA : Hid (Sw (w5.alloc (.cells #[.string z] 9)) (h + 4) (.slice oa S2.out.length oc) S2.out) := (HSO.out.below HB5.out).below HA5.out
                      have HLA : Hid (Ly w0 (w5.alloc (.cells #[.string z] 9)) g h us S2.out (gmk (S2.out ++ [z]) s'.way)) := (HL4.out.under HB5.out).under HA5.out
                      have HCp : Hid _ := text_cell w5 z
                      have HBs : Hid (h + 4 ≤ (w5.alloc (.cells #[.string z] 9)).heap.size) := by show _ ≤ _; have := HLA.out.size; omega
                      have HBA : Hid ((w5.alloc (.cells #[.string z] 9)).heap[g]? = some (.cells #[.slice oa S2.out.length oc] 23 (0, 0))) := (HA5.out.block _ y3).trans HBO5.out
                      refine wpList_append_sw rfl _ _ rfl (h + 4) (.slice oa S2.out.length oc) S2.out z w5.heap.size 1 rfl rfl HSA.out HCp.out HOl.out HBs.out ?_
                      intro v' w6 hN6 hg6 hat6
                      obtain ⟨hL6, z1, z2, z3⟩ := HLA.out.push HBA.out HSA.out hg6 hN6
                      obtain ⟨va6, vc6, hv⟩ := hN6.slice
                      rw [List.length_append, List.length_singleton] at hv
                      subst hv
                      have HL6 : Hid _ := hL6
                      clear hL6 hN6 hg6 hat6 HSA HLA HCp HBs HBA HA5
                      go_wp2
                      refine HQ.out _ _ ?_
                      clear HQ
                      refine wpAny_all (rs := [5]) (by kernel_rfl) (by simp) ?_
                      intro i hi
                      obtain rfl : i = 5 := by simpa using hi
                      clear hi
                      refine wpOp_list2 rfl ?_
                      intro Q' hQ' _
                      have HQ : Hid _ := hQ'
                      clear hQ'
                      go_wp2
                      refine HQ.out _ _ ?_
                      clear HQ
                      refine wpAny_done (by kernel_rfl) ?_ _
                      go_wp2
                      go_roundw
                      case rel => first | exact ⟨k + 1, S3, by go_num, by omega, HF3, HE3, HY3, HO3, HL6'.out _ HL6.out⟩ | ((repeat apply Exists.intro); exact ⟨⟨k + 1, S3, by go_num, by omega, HF3, HE3, HY3, HO3, HL6'.out _ HL6.out⟩, rfl⟩)
                      case measure => simp [intOf]; omega
                    · clear hi
                      refine wpOp_list2 rfl ?_
                      intro Q' hQ' _
                      have HQ : Hid _ := hQ'
                      clear hQ'
                      go_wp2_with fail
                      refine Calls.mono (pclone_any z _ HT) ?_
                      rintro e w5 ⟨rfl, hb5⟩
                      have HB5 : Hid (Below w4.heap.size w4 w5) := (Below.refl _ w4).drew.trans hb5
                      have hbo5 := (HB5.out.block _ (by have := HL4.out.size; have := HL4.out.hh; omega)).trans HBO.out
                      obtain ⟨y1, y2, y3⟩ := box_cell hbo5
                      have HBO5 : Hid _ := hbo5
                      clear hb5 hbo5
                      go_wp2
                      refine HQ.out _ _ ?_
                      clear HQ
                      refine wpAny_all (rs := [0, 3]) (by kernel_rfl) (by simp) ?_
                      intro i hi
                      obtain rfl | rfl : i = 0 ∨ i = 3 := by simpa using hi
                      · clear hi
                        refine wpOp_list2 rfl ?_
                        intro Q' hQ' _
                        have HQ : Hid _ := hQ'
                        clear hQ'
                        go_wp2
                        refine HQ.out _ _ ?_
                        clear HQ
                        refine wpAny_all (rs := [3]) (by kernel_rfl) (by simp) ?_
                        intro i hi
                        obtain rfl : i = 3 := by simpa using hi
                        clear hi
                        refine wpOp_list2 rfl ?_
                        intro Q' hQ' _
                        have HQ : Hid _ := hQ'
                        clear hQ'
                        have y4 : (w5.alloc (.cells #[.string z] 9)).cell? ⟨g, 0, none⟩ = some (.slice oa S2.out.length oc) := by
                          rw [((Below.refl _ w5).alloc (Nat.le_refl _) _).cell y3]
                          exact y1
                        go_wp2
                        refine HQ.out _ _ ?_
                        clear HQ
                        refine wpAny_all (rs := [4]) (by kernel_rfl) (by simp) ?_
                        intro i hi
                        obtain rfl : i = 4 := by simpa using hi
                        clear hi
                        refine wpOp_list2 rfl ?_
                        intro Q' hQ' _
                        have HQ : Hid _ := hQ'
                        clear hQ'
                        have HA5 : Hid (Below w5.heap.size w5 (w5.alloc (.cells #[.string z] 9))) := (Below.refl _ _).alloc (Nat.le_refl _) _
                        have HSA : Hid (Sw (w5.alloc (.cells #[.string z] 9)) (h + 4) (.slice oa S2.out.length oc) S2.out) := (HSO.out.below HB5.out).below HA5.out
                        have HLA : Hid (Ly w0 (w5.alloc (.cells #[.string z] 9)) g h us S2.out (gmk (S2.out ++ [z]) s'.way)) := (HL4.out.under HB5.out).under HA5.out
                        have HCp : Hid _ := text_cell w5 z
                        have HBs : Hid (h + 4 ≤ (w5.alloc (.cells #[.string z] 9)).heap.size) := by show _ ≤ _; have := HLA.out.size; omega
                        have HBA : Hid ((w5.alloc (.cells #[.string z] 9)).heap[g]? = some (.cells #[.slice oa S2.out.length oc] 23 (0, 0))) := (HA5.out.block _ y3).trans HBO5.out
                        refine wpList_append_sw rfl _ _ rfl (h + 4) (.slice oa S2.out.length oc) S2.out z w5.heap.size 1 rfl rfl HSA.out HCp.out HOl.out HBs.out ?_
                        intro v' w6 hN6 hg6 hat6
                        obtain ⟨hL6, z1, z2, z3⟩ := HLA.out.push HBA.out HSA.out hg6 hN6
                        obtain ⟨va6, vc6, hv⟩ := hN6.slice
                        rw [List.length_append, List.length_singleton] at hv
                        subst hv
                        have HL6 : Hid _ := hL6
                        clear hL6 hN6 hg6 hat6 HSA HLA HCp HBs HBA HA5
                        go_wp2
                        refine HQ.out _ _ ?_
                        clear HQ
                        refine wpAny_all (rs := [5]) (by kernel_rfl) (by simp) ?_
                        intro i hi
                        obtain rfl : i = 5 := by simpa using hi
                        clear hi
                        refine wpOp_list2 rfl ?_
                        intro Q' hQ' _
                        have HQ : Hid _ := hQ'
                        clear hQ'
                        go_wp2
                        refine HQ.out _ _ ?_
                        clear HQ
                        refine wpAny_done (by kernel_rfl) ?_ _
                        go_wp2
                        go_roundw
                        case rel => first | exact ⟨k + 1, S3, by go_num, by omega, HF3, HE3, HY3, HO3, HL6'.out _ HL6.out⟩ | ((repeat apply Exists.intro); exact ⟨⟨k + 1, S3, by go_num, by omega, HF3, HE3, HY3, HO3, HL6'.out _ HL6.out⟩, rfl⟩)
                        case measure => simp [intOf]; omega
                      · clear hi
                        refine wpOp_list2 rfl ?_
                        intro Q' hQ' _
                        have HQ : Hid _ := hQ'
                        clear hQ'
                        have y4 : (w5.alloc (.cells #[.string z] 9)).cell? ⟨g, 0, none⟩ = some (.slice oa S2.out.length oc) := by
                          rw [((Below.refl _ w5).alloc (Nat.le_refl _) _).cell y3]
                          exact y1
                        go_wp2
                        refine HQ.out _ _ ?_
                        clear HQ
                        refine wpAny_all (rs := [0]) (by kernel_rfl) (by simp) ?_
                        intro i hi
                        obtain rfl : i = 0 := by simpa using hi
                        clear hi
                        refine wpOp_list2 rfl ?_
                        intro Q' hQ' _
                        have HQ : Hid _ := hQ'
                        clear hQ'
                        go_wp2
                        refine HQ.out _ _ ?_
                        clear HQ
                        refine wpAny_all (rs := [4]) (by kernel_rfl) (by simp) ?_
                        intro i hi
                        obtain rfl : i = 4 := by simpa using hi
                        clear hi
                        refine wpOp_list2 rfl ?_
                        intro Q' hQ' _
                        have HQ : Hid _ := hQ'
                        clear hQ'
                        have HA5 : Hid (Below w5.heap.size w5 (w5.alloc (.cells #[.string z] 9))) := (Below.refl _ _).alloc (Nat.le_refl _) _
                        have HSA : Hid (Sw (w5.alloc (.cells #[.string z] 9)) (h + 4) (.slice oa S2.out.length oc) S2.out) := (HSO.out.below HB5.out).below HA5.out
                        have HLA : Hid (Ly w0 (w5.alloc (.cells #[.string z] 9)) g h us S2.out (gmk (S2.out ++ [z]) s'.way)) := (HL4.out.under HB5.out).under HA5.out
                        have HCp : Hid _ := text_cell w5 z
                        have HBs : Hid (h + 4 ≤ (w5.alloc (.cells #[.string z] 9)).heap.size) := by show _ ≤ _; have := HLA.out.size; omega
                        have HBA : Hid ((w5.alloc (.cells #[.string z] 9)).heap[g]? = some (.cells #[.slice oa S2.out.length oc] 23 (0, 0))) := (HA5.out.block _ y3).trans HBO5.out
                        refine wpList_append_sw rfl _ _ rfl (h + 4) (.slice oa S2.out.length oc) S2.out z w5.heap.size 1 rfl rfl HSA.out HCp.out HOl.out HBs.out ?_
                        intro v' w6 hN6 hg6 hat6
                        obtain ⟨hL6, z1, z2, z3⟩ := HLA.out.push HBA.out HSA.out hg6 hN6
                        obtain ⟨va6, vc6, hv⟩ := hN6.slice
                        rw [List.length_append, List.length_singleton] at hv
                        subst hv
                        have HL6 : Hid _ := hL6
                        clear hL6 hN6 hg6 hat6 HSA HLA HCp HBs HBA HA5
                        go_wp2
                        refine HQ.out _ _ ?_
                        clear HQ
                        refine wpAny_all (rs := [5]) (by kernel_rfl) (by simp) ?_
                        intro i hi
                        obtain rfl : i = 5 := by simpa using hi
                        clear hi
                        refine wpOp_list2 rfl ?_
                        intro Q' hQ' _
                        have HQ : Hid _ := hQ'
                        clear hQ'
                        go_wp2
                        refine HQ.out _ _ ?_
                        clear HQ
                        refine wpAny_done (by kernel_rfl) ?_ _
                        go_wp2
                        go_roundw
                        case rel => first | exact ⟨k + 1, S3, by go_num, by omega, HF3, HE3, HY3, HO3, HL6'.out _ HL6.out⟩ | ((repeat apply Exists.intro); exact ⟨⟨k + 1, S3, by go_num, by omega, HF3, HE3, HY3, HO3, HL6'.out _ HL6.out⟩, rfl⟩)
                        case measure => simp [intOf]; omega
                  · exact absurd hE2 hne
                · have HE2 : Hid (∀ V, (∃ out gm, Ly w0 V g h us out gm) → Eend w0 g h us R (.panicked [flt S2.path S2.e]) V) := fun V hV => by
                    have hq2 := HR3.out (by rw [HS3.out, if_neg hE2]; exact hE2)
                    rw [hq2, HS3.out, if_neg hE2]
                    exact .inr ⟨hE2, rfl, hV⟩
                  rintro e w3 hend
                  rw [← HS2e.out] at hend
                  rcases hend with ⟨h0, _, _⟩ | ⟨_, rfl, hL3⟩
                  · exact absurd h0 hE2
                  · exact HP.out _ _ _ ⟨rfl, HE2.out _ hL3⟩
      · obtain rfl : k = len := by omega
        have HE2 : Hid (Eend w0 g h us R (.returned (.tuple #[])) wr) := by
          have : R = s' := by rw [HR.out, HF.out, List.take_of_length_le (by rw [H1.out]; exact Nat.le_refl _)]
          rw [this]
          exact .inl ⟨HE.out, rfl, HL.out⟩
        clear HF HE HY HO HL HR
        go_wp2
        go_end0
        exact HE2.out

end Go.Proofs.Ytnkknkijnpdapaa
