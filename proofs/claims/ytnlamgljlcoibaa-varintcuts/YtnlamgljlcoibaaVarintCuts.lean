/- VarintCuts, proved for every number and every place: of a number's bytes that are cut off Take answers no number, and the document's error; no condition. -/
import Derived.Test.YtnlamgljlcoibaaRows
import Derived.WalkKit
import Derived.ProofKit
import Derived.OpenShut
import Derived.ShutString
import Derived.Test.YtnlamgljlcoibaaTake
import Derived.Test.YtnlamgljlcoibaaBkMath
namespace Go.Proofs.Ytnlamgljlcoibaa.varintCuts
open Go.ChangeShapes Go.WideShapes Go.ChangeAt Go.RowKit
open Go.ChangeMaps (open_string shut_string)
set_option linter.unusedVariables false      -- a walk need not use every 'w<i>' (that an integer argument fits its kind)

theorem own : ownKnob Try.prog.godebug = none := by kernel_rfl

theorem own_cells {W : World} {base b n c : Nat} {zs : List Int} (hn : zs.length = n) (h : W.ownsRow base 5 1 (.slice (some ⟨b, 0, none⟩) n c) n (zs.map (Value.int .u8))) (k : Nat) (hk : k ≤ n) :
    ∀ i, i < k → W.cell? ⟨b, 0 + i, none⟩ = some (.int .u8 ((zs.take k).getD i 0)) := by
  intro i hi
  have := h.cellAt i (by omega)
  rw [Nat.zero_add, this]
  simp [List.getElem?_eq_getElem (show i < zs.length by omega), List.getD, hi]

theorem getD_bd {l : List Int} (h : ∀ c ∈ l, 0 ≤ c ∧ c ≤ 255) (i : Nat) : 0 ≤ l.getD i 0 ∧ l.getD i 0 ≤ 255 := by
  rcases Nat.lt_or_ge i l.length with hl | hl
  · simp only [List.getD, List.getElem?_eq_getElem hl, Option.getD_some]
    exact h _ (List.getElem_mem hl)
  · simp [List.getD, List.getElem?_eq_none hl]

set_option maxHeartbeats 400000 in
theorem walk (a0 : Int) (a1 : Int) (w0 : (Lit.int .u64 a0).wf = true) (w1 : (Lit.int .i64 a1).wf = true) (w : World) :
    Calls Try.prog 8 #[.int .u64 a0, .int .i64 a1] w fun e w' => e = .returned (.bool true) ∧ Below w.heap.size w w' := by
  have b0 := bounds_u64 w0
  have b1 := bounds_i64 w1
  have vp := vb_pos 9 a0.toNat
  have vl := vb_len_le 9 a0.toNat
  go_enter Try.func8, Try.ntmps8
  go_wp2_with fail
  refine (awake_any _).mono ?_
  rintro e w1 ⟨rfl, hb⟩
  go_wp2_with fail
  refine (put_any _ _ b0.1 b0.2).mono ?_
  rintro e w2 ⟨b, rfl, hown, hb2⟩
  have HF : Hid (Below w.heap.size w w2) := hb.trans (hb2.mono hb.size)
  have HO := own_cells rfl hown
  have HK := tk_cut a0.toNat
  have HB := vb_bd 9 a0.toNat (by omega)
  clear hown hb2 hb
  generalize vb 9 a0.toNat = l at *
  by_cases hneg : a1 < 0
  · clear HO HK HB
    go_wp2
    go_ret
    exact ⟨rfl, HF.out⟩
  · obtain ⟨k, rfl⟩ : ∃ k : Nat, a1 = (k : Int) := ⟨a1.toNat, by omega⟩
    by_cases hge : l.length ≤ k
    · clear HO HK HB
      go_wp2
      go_ret
      exact ⟨rfl, HF.out⟩
    · have q := take_any b 0 k l.length (l.take k) w2 (by show _ = _; simp; omega) (by omega) (HO k (by omega)) (fun i => getD_bd (fun c hc => HB c (List.mem_of_mem_take hc)) i)
      rw [HK k (by omega)] at q
      have Q : Hid _ := q
      clear HO HK HB q
      go_wp2_with fail
      refine Calls.mono Q.out ?_
      rintro e w' ⟨rfl, rfl⟩
      rw [show tkEnd (0, 0, 10) = .returned (.tuple #[.int .u64 0, .int .i64 0, .int .i64 10]) from rfl]
      go_wp2
      go_ret
      exact ⟨rfl, HF.out⟩

set_option maxRecDepth 100000 in
theorem lifted (os : Os) (started : os.Started) (H : Type) (enc : TypeId × Value → H) :
    ReturnsInHanded {} Try.checked os 8 .any (Rows.varintCutsSpec.pre6 enc Try.prog Try.f8 Rows.varintCutsRow.domain false) (Rows.varintCutsSpec.post enc Try.prog Try.f8 false true false false) := by
  refine returnsInHanded_of_change (C := Try.checked) own started (by kernel_rfl) Try.func8
    (ChangeSpec.witness6 (enc := enc) (C := Try.checked) false ⟨#[], #[.int .u64 0, .int .i64 0], []⟩ 8 (by kernel_rfl) (by kernel_rfl) (by kernel_rfl) (by kernel_rfl)) ?_
  intro W base args ds gs before hval0 hW hcnd _
  have hval : ∀ (j : Nat) t v, Try.f8.params[j]? = some t → args[j]? = some v → Value.okWide Try.prog W .any base t v := hval0
  have hW' := hW
  obtain ⟨p, q, hA0, hV, rfl, hfz, hnd⟩ := hW
  have hA : DataW.TrodAll enc Try.prog W 0 (fun _ => true) true Try.f8.params.toList args.toList ds p := hA0
  rw [Try.params8] at hA hval
  obtain ⟨v0, vs0, d0, ds0, p0, q0, hargs, rfl, rfl, h0, r0⟩ := trodAll_cons hA
  obtain ⟨v1, vs1, d1, ds1, p1, q1, rfl, rfl, rfl, h1, r1⟩ := trodAll_cons r0
  obtain ⟨rfl, rfl, rfl⟩ := trodAll_nil r1
  obtain rfl : args = #[v0, v1] := by cases args; simp_all
  obtain ⟨rfl, rfl⟩ := trodVars_none hV
  obtain ⟨a0, rfl, rfl, rfl, w0⟩ := open_int Try.underlying22 (hval 0 22 v0 rfl rfl) h0
  obtain ⟨a1, rfl, rfl, rfl, w1⟩ := open_int Try.underlying3 (hval 1 3 v1 rfl rfl) h1
  clear hA0 hval0
  simp only [List.append_nil] at hW'
  refine (walk a0 a1 w0 w1 W).mono fun e W' ⟨he, bel⟩ => ?_
  subst he
  exact ⟨_, rfl, _, _, _, [], [], [], hW', trodAll_mk1 (shut_bool Try.underlying4 _), (trodAll_cons_mk (shut_int Try.underlying22 w0) (trodAll_cons_mk (shut_int Try.underlying3 w1) trodAll_mk0)), rfl, bel.frame _, fun h => by cases h⟩

theorem over : Rows.varintCutsRow.holds Try.pinned (OpenSpec.ofChange Rows.varintCutsSpec) :=
  OpenClaim.holds_of_wide 8 Try.f8 rfl rfl rfl rfl rfl rfl rfl ⟨rfl, rfl, rfl, rfl, rfl⟩ rfl rfl rfl rfl rfl (by kernel_rfl) Try.func8 (by kernel_rfl)
    (of_decide_eq_true (by kernel_rfl)) (by unfold Func.isWrapper; first | (rw [if_pos (by decide +kernel)]; kernel_rfl) | (rw [if_neg (by decide +kernel)]; exact ⟨rfl, rfl⟩))
    (fun os started H enc _ => lifted os started H enc)

end Go.Proofs.Ytnlamgljlcoibaa.varintCuts
namespace Go.Proofs.Ytnlamgljlcoibaa
theorem varintCuts_holds : Rows.VarintCutsSaid := varintCuts.over
#print axioms varintCuts_holds
end Go.Proofs.Ytnlamgljlcoibaa
