/- The reference's Order. -/
import Derived.Test.YtnkknkijnpdapaaHCome
namespace Go.Proofs.Ytnkknkijnpdapaa
open Go.RowKit
set_option linter.unusedVariables false
set_option linter.unusedSimpArgs false

theorem hcome_err0 {l : List Un} : ∀ (f : Nat) (p : ByteArray) (s : Hs), (hcome l f p s).e = 0 → s.e = 0 := by
  intro f
  induction f with
  | zero => intro p s h; exact h
  | succ f ih =>
    intro p s h
    rcases Classical.em (s.e = 0) with he | he
    · exact he
    · rw [hcome_stop (.inl he)] at h
      exact absurd h he

set_option maxRecDepth 10000 in
set_option maxHeartbeats 4000000 in
theorem rorder_any {W : World} {a aa : Option Addr} {len cap la ca : Nat} {us : List Um} {asked : List ByteArray} (hU : Hid (Ul W a len cap us)) (hA : Hid (Sb W aa la ca asked)) (hlen : len ≤ 1000) (hla : la ≤ 1000) (hdp : Hid (∀ (j : Nat) (u : Um), us[j]? = some u → u.deps.length ≤ 1000)) :
    Calls Try.prog 12 #[.slice a len cap, .slice aa la ca] W fun e W' => ∃ v, e = .returned (.tuple #[v, .string (hord (us.map Um.un) asked).2.1, .int .i64 (hord (us.map Um.un) asked).2.2]) ∧ Sw W' W.heap.size v (hord (us.map Um.un) asked).1 ∧ Below W.heap.size W W' := by
  obtain ⟨h1, h2, h3, h4, h6, h7⟩ := hU.out
  have H1 : Hid (us.length = len) := h1
  have H6 : Hid _ := h6
  obtain ⟨k1, k2, k3, k4, k6⟩ := hA.out
  have K1 : Hid (asked.length = la) := k1
  have K6 : Hid _ := k6
  have hd1 : ¬ ((len : Int) > 1000) := by omega
  have hd2 : ¬ ((la : Int) > 1000) := by omega
  obtain ⟨R, HR⟩ : ∃ R, Hid (R = hord (us.map Um.un) asked) := ⟨_, rfl⟩
  rw [← HR.out]
  clear h1 h6 h7 k1 k6
  go_enter Try.func12, Try.ntmps12
  go_wp2
  go_loopw [22] (fun v wr => ∃ k : Nat, v = .int .i64 (k : Int) ∧ k ≤ len ∧ Hid (Below W.heap.size W wr)) (fun v _ => len - (intOf v).toNat)
  case atStart => exact ⟨0, rfl, by omega, Below.refl _ _⟩
  case round =>
    obtain ⟨k, rfl, hk, HB⟩ := hrel
    by_cases hkl : k < len
    · obtain ⟨b, off, rfl, hlt, hc⟩ := H6.out (by omega)
      obtain ⟨u, hu⟩ : ∃ u, us[k]? = some u := ⟨us[k]'(by rw [H1.out]; exact hkl), List.getElem?_eq_getElem (by rw [H1.out]; exact hkl)⟩
      obtain ⟨c0, c1, c2⟩ := unit_cells (w := wr) (fun i u hi j v hj => (HB.out.cell hlt).trans (hc i u hi j v hj)) hu
      have hlt2 : b < wr.heap.size := Nat.lt_of_lt_of_le hlt HB.out.size
      have hud := hdp.out k u hu
      obtain ⟨up, uda, udc, ud, upa, upc, upb⟩ := u
      simp only at c0 c1 c2 hud
      have HBn : Hid (Below W.heap.size W (wr.alloc (.cells #[.string up, .slice uda ud.length udc, .slice upa upb.length upc] 40))) := HB.out.alloc HB.out.size _
      have g1 : ¬ ((ud.length : Int) > 1000) := by omega
      clear hu hc HB
      go_wp2
      go_roundw
      case rel => first | exact ⟨k + 1, by go_num, by omega, HBn⟩ | ((repeat apply Exists.intro); exact ⟨⟨k + 1, by go_num, by omega, HBn⟩, rfl⟩)
      case measure => simp [intOf]; omega
    · obtain rfl : k = len := by omega
      have hA : Below W.heap.size W (wr.alloc (.cells #[.slice a k cap, .slice none 0 0, .slice none 0 0, .string { data := #[] }, .int .i64 0] 50)) := HB.out.alloc HB.out.size _
      have hM0 : Wm W (wr.alloc (.cells #[.slice a k cap, .slice none 0 0, .slice none 0 0, .string { data := #[] }, .int .i64 0] 50)) wr.heap.size a k cap (us.map Um.un) hs0 := ⟨⟨.slice none 0 0, .slice none 0 0, heap_alloc_new _ _, Sw.nil _ _, Sw.nil _ _, .inl rfl⟩, hA, .nil, ⟨List.nodup_nil, fun x hx => by simp [hs0] at hx⟩, by show (0 : Int) ≤ 0; omega, by show (0 : Int) ≤ 1000; omega⟩
      have HM0 : Hid _ := hM0
      have Qc : Hid _ := rcome_any hU hlen wr.heap.size HB.out.size ((us.map Um.un).length + 1)
      have HSz : Hid (W.heap.size ≤ wr.heap.size) := HB.out.size
      clear hA hM0 HB hkl
      go_wp2
      go_loopw [36] (fun v wr2 => ∃ (j : Nat) (s' : Hs), v = .int .i64 (j : Int) ∧ j ≤ la ∧ Hid (s' = (asked.take j).foldl (fun s p => hcome (us.map Um.un) ((us.map Um.un).length + 1) p s) hs0) ∧ Hid (Wm W wr2 wr.heap.size a k cap (us.map Um.un) s')) (fun v _ => la - (intOf v).toNat)
      case atStart => exact ⟨0, _, rfl, by omega, rfl, HM0⟩
      case round =>
        obtain ⟨j, s', rfl, hj, HF, HM⟩ := hrel
        by_cases hjl : j < la
        · obtain ⟨b, off, rfl, hlt, hc⟩ := K6.out (by omega)
          obtain ⟨d, hd⟩ : ∃ d, asked[j]? = some d := ⟨asked[j]'(by rw [K1.out]; exact hjl), List.getElem?_eq_getElem (by rw [K1.out]; exact hjl)⟩
          have hcell := (HM.out.below.cell hlt).trans (hc j d hd)
          have hlt2 : b < wr.heap.size := Nat.lt_of_lt_of_le hlt HM.out.below.size
          have Q2 : Hid _ := Qc.out d s' wr HM.out (by omega)
          have HF2 : Hid (hcome (us.map Um.un) ((us.map Um.un).length + 1) d s' = (asked.take (j + 1)).foldl (fun s p => hcome (us.map Um.un) ((us.map Um.un).length + 1) p s) hs0) := by
            show _ = _
            rw [List.take_add_one, hd, List.foldl_append, ← HF.out]
            rfl
          clear hd hc HF HM
          go_wp2_with fail
          refine Calls.mono Q2.out ?_
          rintro e w5 ⟨rfl, hM5⟩
          have HM5 : Hid _ := hM5
          clear hM5
          go_wp2
          go_roundw
          case rel => first | exact ⟨j + 1, _, by go_num, by omega, HF2, HM5⟩ | ((repeat apply Exists.intro); exact ⟨⟨j + 1, _, by go_num, by omega, HF2, HM5⟩, rfl⟩)
          case measure => simp [intOf]; omega
        · obtain rfl : j = la := by omega
          have hF := HF.out
          rw [← K1.out, List.take_length] at hF
          have hF2 : s' = hrun (us.map Um.un) asked := hF
          obtain ⟨⟨vo, vw, hk⟩, hbel, hord, hway, he0, he1⟩ := HM.out
          obtain ⟨oa', oc', hvo⟩ := hk.out.slice
          subst hvo
          obtain ⟨y0, y1, y2, y3, y4⟩ := hk.cells
          have hgl := hk.lt
          have HKo : Hid _ := hk.out
          have HBe : Hid _ := hbel
          have HR2 : Hid (R = if s'.e = 0 then (s'.out, ⟨#[]⟩, 0) else ([], s'.path, s'.e)) := by
            show _ = _
            rw [HR.out, hF2]
            rfl
          clear hF hF2 HF HM hk hbel hord hway Qc HM0
          by_cases hE : s'.e = 0
          · rw [hE] at y4
            have HR3 : Hid (R = (s'.out, ⟨#[]⟩, 0)) := HR2.out.trans (if_pos hE)
            go_wp2
            go_ret3
            refine ⟨.slice oa' s'.out.length oc', ?_, ?_, HBe.out⟩
            · rw [HR3.out]
              rfl
            · rw [HR3.out]
              exact Sw.base (zs := s'.out) HKo.out (by have := HSz.out; omega)
          · have hne : (s'.e != 0) = true := by simpa using hE
            have HR3 : Hid (R = ([], s'.path, s'.e)) := HR2.out.trans (if_neg hE)
            go_wp2
            go_quiet (fail)
            go_wp2
            go_ret3
            refine ⟨.slice none 0 0, ?_, ?_, HBe.out.trans ((hdrewN (Below.refl _ _) _).mono HBe.out.size)⟩
            · rw [HR3.out]
              rfl
            · rw [HR3.out]
              exact Sw.nil _ _

end Go.Proofs.Ytnkknkijnpdapaa
