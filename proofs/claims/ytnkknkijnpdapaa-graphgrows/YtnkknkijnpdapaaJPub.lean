/- The program's own public: which of a unit's Deps are. -/
import Derived.Test.YtnkknkijnpdapaaJImp
namespace Go.Proofs.Ytnkknkijnpdapaa
open Go.RowKit
set_option linter.unusedVariables false
set_option linter.unusedSimpArgs false

def upub1 (ds : List ByteArray) (n : Int) : List ByteArray := if 0 ≤ n ∧ n < (ds.length : Int) then [ds.getD n.toNat default] else []

theorem upubs_eq (u : Un) : upubs u = u.pub.flatMap (upub1 u.deps) := by
  unfold upubs
  induction u.pub with
  | nil => rfl
  | cons n r ih =>
    rw [List.flatMap_cons, ← ih, List.filter_cons]
    unfold upub1
    by_cases h : 0 ≤ n ∧ n < (u.deps.length : Int)
    · rw [if_pos h, if_pos (by simpa using h)]; rfl
    · rw [if_neg h, if_neg (by simpa using h)]; rfl

theorem flat_take {ds : List ByteArray} {l : List Int} {k : Nat} {z : Int} (h : l[k]? = some z) : (l.take (k + 1)).flatMap (upub1 ds) = (l.take k).flatMap (upub1 ds) ++ upub1 ds z := by
  rw [take_snoc h, List.flatMap_append]
  simp

theorem flat_len (ds : List ByteArray) : ∀ l : List Int, (l.flatMap (upub1 ds)).length ≤ l.length
  | [] => by simp
  | z :: l => by
    rw [List.flatMap_cons, List.length_append, List.length_cons]
    have := flat_len ds l
    have h1 : (upub1 ds z).length ≤ 1 := by unfold upub1; split <;> simp
    omega

set_option maxRecDepth 10000 in
set_option maxHeartbeats 4000000 in
theorem ppub_any {w : World} (p : ByteArray) (da pa : Option Addr) (dc pc : Nat) (ds : List ByteArray) (ps : List Int) (hD : Hid (Sb w da ds.length dc ds)) (hN : Hid (Sn w pa ps.length pc ps)) (hl : ps.length ≤ 1000) (W : World) (hB : Hid (Below w.heap.size w W)) :
    Calls Try.prog 29 #[.agg #[.string p, .slice da ds.length dc, .slice pa ps.length pc]] W fun e W' => ∃ v, e = .returned v ∧ Sw W' W.heap.size v (ps.flatMap (upub1 ds)) ∧ Below W.heap.size W W' := by
  obtain ⟨h1, h2, h3, h4, h6⟩ := hD.out.below hB.out
  obtain ⟨m1, m2, m3, m4, m5, m6⟩ := hN.out.below hB.out
  have H6 : Hid _ := h6
  have M6 : Hid _ := m6
  have M5 : Hid _ := m5
  clear h1 m1 h6 m6 m5 hD hN hB
  go_enter Try.func29, Try.ntmps29
  go_wp2
  go_loopw [3, 9] (fun vl v wr => ∃ (k : Nat), v = .int .i64 (k : Int) ∧ k ≤ ps.length ∧ Hid (Sw wr (W.heap.size + 1) vl ((ps.take k).flatMap (upub1 ds))) ∧ Hid (Below (W.heap.size + 1) (W.alloc (.cells #[.string p, .slice da ds.length dc, .slice pa ps.length pc] 40)) wr)) (fun _ v _ => ps.length - (intOf v).toNat)
  case atStart => exact ⟨0, rfl, by omega, (by show Sw _ _ _ _; exact Sw.nil _ _), Below.refl _ _⟩
  case round =>
    obtain ⟨k, rfl, hk, HS, HB⟩ := hrel
    have hbs := HB.out.size
    simp at hbs
    have c1 := HB.out.cell (p := ⟨W.heap.size, 1, none⟩) (by simp)
    rw [World.cell?_alloc_new] at c1
    simp at c1
    have hgl : W.heap.size < wr.heap.size := by omega
    obtain ⟨oa, oc, hv⟩ := HS.out.slice
    subst hv
    by_cases hkl : k < ps.length
    · obtain ⟨b, off, rfl, hlt, hc⟩ := M6.out (by omega)
      obtain ⟨z, hz⟩ : ∃ z, ps[k]? = some z := ⟨ps[k]'hkl, List.getElem?_eq_getElem hkl⟩
      have hBW : Below W.heap.size W wr := ((Below.refl _ W).alloc (Nat.le_refl _) _).trans (HB.out.mono (by omega))
      have hcell := (hBW.cell hlt).trans (hc k z hz)
      have hlt2 : b < wr.heap.size := Nat.lt_of_lt_of_le hlt hBW.size
      obtain ⟨z0, z1⟩ := M5.out z (List.mem_of_getElem? hz)
      have HF : Hid _ := flat_take (ds := ds) hz
      by_cases hq : 0 ≤ z ∧ z < (ds.length : Int)
      · obtain ⟨b2, off2, rfl, hlt3, hc2⟩ := H6.out (by omega)
        obtain ⟨d, hd⟩ : ∃ d, ds[z.toNat]? = some d := ⟨ds[z.toNat]'(by omega), List.getElem?_eq_getElem (by omega)⟩
        have hcell2 := (hBW.cell hlt3).trans (hc2 z.toNat d hd)
        have hlt4 : b2 < wr.heap.size := Nat.lt_of_lt_of_le hlt3 hBW.size
        have HF2 : Hid ((ps.take (k + 1)).flatMap (upub1 ds) = (ps.take k).flatMap (upub1 ds) ++ [d]) := by
          show _ = _
          rw [HF.out]
          unfold upub1
          rw [if_pos hq]
          simp [List.getD, hd]
        have HA : Hid (Below wr.heap.size wr (wr.alloc (.cells #[.string d] 9))) := (Below.refl _ _).alloc (Nat.le_refl _) _
        have HSA : Hid (Sw (wr.alloc (.cells #[.string d] 9)) (W.heap.size + 1) (.slice oa ((ps.take k).flatMap (upub1 ds)).length oc) ((ps.take k).flatMap (upub1 ds))) := HS.out.below HA.out
        have HCp : Hid _ := text_cell wr d
        have HOl : Hid (((ps.take k).flatMap (upub1 ds)).length + 1 ≤ 1000000) := by
          show _ ≤ _
          have h8 := flat_len ds (ps.take k)
          rw [List.length_take] at h8
          omega
        have HBs : Hid (W.heap.size + 1 ≤ (wr.alloc (.cells #[.string d] 9)).heap.size) := by show _ ≤ _; simp; omega
        obtain ⟨hq1, hq2⟩ := hq
        clear hc hz hc2 hd hBW HF
        generalize (ps.take k).flatMap (upub1 ds) = ls at HS HSA HOl HF2
        go_wp2_with (at_builtin; refine wpList_append_sw rfl _ _ rfl (W.heap.size + 1) (.slice oa ls.length oc) ls d wr.heap.size 1 rfl rfl HSA.out HCp.out HOl.out HBs.out ?_; intro v' w3 hN3 hg3 hat3; have HB3 : Hid (Below (W.heap.size + 1) (W.alloc (.cells #[.string p, .slice (some ⟨b2, off2, none⟩) ds.length dc, .slice (some ⟨b, off, none⟩) ps.length pc] 40)) w3) := (HB.out.trans (HA.out.mono (by omega))).grown hg3 (by have := HA.out.size; omega) (fun k hk => by have := (own_at HSA.out hk).1; omega); obtain ⟨va, vc, hv⟩ := hN3.slice; rw [List.length_append, List.length_singleton] at hv; subst hv; have HS3 : Hid (Sw w3 (W.heap.size + 1) (.slice va (ls.length + 1) vc) ((ps.take (k + 1)).flatMap (upub1 ds))) := (HF2.out ▸ hN3); clear hN3 hg3 hat3)
        go_roundw
        case rel => first | exact ⟨k + 1, by go_num, by omega, HS3, HB3⟩ | ((repeat apply Exists.intro); exact ⟨⟨k + 1, by go_num, by omega, HS3, HB3⟩, rfl⟩)
        case measure => simp [intOf]; omega
      · have HS2 : Hid (Sw wr (W.heap.size + 1) (.slice oa ((ps.take k).flatMap (upub1 ds)).length oc) ((ps.take (k + 1)).flatMap (upub1 ds))) := by
          show Sw _ _ _ _
          rw [HF.out]
          unfold upub1
          rw [if_neg hq, List.append_nil]
          exact HS.out
        clear hc hz hBW HF HS
        by_cases hq1 : 0 ≤ z
        · have hq2 : ¬ z < (ds.length : Int) := fun h => hq ⟨hq1, h⟩
          clear hq
          go_wp2
          go_roundw
          case rel => first | exact ⟨k + 1, by go_num, by omega, HS2, HB⟩ | ((repeat apply Exists.intro); exact ⟨⟨k + 1, by go_num, by omega, HS2, HB⟩, rfl⟩)
          case measure => simp [intOf]; omega
        · clear hq
          go_wp2
          go_roundw
          case rel => first | exact ⟨k + 1, by go_num, by omega, HS2, HB⟩ | ((repeat apply Exists.intro); exact ⟨⟨k + 1, by go_num, by omega, HS2, HB⟩, rfl⟩)
          case measure => simp [intOf]; omega
    · obtain rfl : k = ps.length := by omega
      have HS2 : Hid (Sw wr (W.heap.size + 1) (.slice oa ((ps.take ps.length).flatMap (upub1 ds)).length oc) (ps.flatMap (upub1 ds))) := by
        have := HS.out
        rw [List.take_length] at this ⊢
        exact this
      have HBW : Hid (Below W.heap.size W wr) := ((Below.refl _ W).alloc (Nat.le_refl _) _).trans (HB.out.mono (by omega))
      clear HS
      go_wp2
      go_ret
      exact ⟨_, rfl, HS2.out.base (by omega), HBW.out⟩

end Go.Proofs.Ytnkknkijnpdapaa
