/- VarintSizes, proved for every two numbers: a greater number has no fewer bytes, and seven bits more are one byte more; no condition. -/
import Derived.Test.YtnlamgljlcoibabRows
import Derived.WalkKit
import Derived.ProofKit
import Derived.OpenShut
import Derived.ShutString
import Derived.Test.YtnlamgljlcoibabWalks
namespace Go.Proofs.Ytnlamgljlcoibab.varintSizes
open Go.ChangeShapes Go.WideShapes Go.ChangeAt Go.RowKit
open Go.ChangeMaps (open_string shut_string)
set_option linter.unusedVariables false      -- a walk need not use every 'w<i>' (that an integer argument fits its kind)

theorem own : ownKnob Try.prog.godebug = none := by kernel_rfl

theorem vb_mono : ∀ (f n m : Nat), n ≤ m → (vb f n).length ≤ (vb f m).length
  | 0, n, m, _ => by simp [vb]
  | f + 1, n, m, h => by
    rw [vb, vb]
    by_cases hm : m < 128
    · rw [if_pos hm, if_pos (by omega)]; simp
    · rw [if_neg hm]
      by_cases hn : n < 128
      · rw [if_pos hn]; simp
      · rw [if_neg hn]
        have := vb_mono f (n / 128) (m / 128) (by omega)
        simpa using this

theorem vb_fuel : ∀ (f n : Nat), n < 128 ^ (f + 1) → vb (f + 1) n = vb f n
  | 0, n, h => by
    have h' : n < 128 := by simpa using h
    show (if n < 128 then [(n : Int)] else _) = _
    rw [if_pos h']; rfl
  | f + 1, n, h => by
    rw [vb]
    conv => rhs; rw [vb]
    by_cases hn : n < 128
    · rw [if_pos hn, if_pos hn]
    · rw [if_neg hn, if_neg hn, vb_fuel f (n / 128) (by rw [Nat.pow_succ] at h; omega)]

theorem vb_shift (n : Int) (h0 : 0 < n) (h1 : n < 144115188075855872) : ((vb 9 (n * 128).toNat).length : Int) = ((vb 9 n.toNat).length : Int) + 1 := by
  have e : (n * 128).toNat = n.toNat * 128 := by omega
  rw [e, vb_fuel 8 n.toNat (by omega)]
  rw [vb, if_neg (by omega), show n.toNat * 128 / 128 = n.toNat by omega]
  simp

set_option maxHeartbeats 400000 in
theorem walk (a0 : Int) (a1 : Int) (w0 : (Lit.int .u64 a0).wf = true) (w1 : (Lit.int .u64 a1).wf = true) (w : World) :
    Calls Try.prog 3 #[.int .u64 a0, .int .u64 a1] w fun e w' => e = .returned (.bool true) ∧ Below w.heap.size w w' := by
  have b0 := bounds_u64 w0
  have b1 := bounds_u64 w1
  have v0 := vb_len_le 9 a0.toNat
  have v1 := vb_len_le 9 a1.toNat
  have hm : a0 ≤ a1 → (vb 9 a0.toNat).length ≤ (vb 9 a1.toNat).length := fun h => vb_mono 9 _ _ (by omega)
  have hs : 0 < a0 → a0 < 144115188075855872 → ((vb 9 (a0 * 128).toNat).length : Int) = ((vb 9 a0.toNat).length : Int) + 1 := vb_shift a0
  have v2 := vb_len_le 9 (a0 * 128).toNat
  have S0 : Hid _ := fun W => size_any a0 W b0.1 b0.2
  have S1 : Hid _ := fun W => size_any a1 W b1.1 b1.2
  have S2 : Hid (a0 < 144115188075855872 → ∀ W, _) := fun h => fun W => size_any (a0 * 128) W (by omega) (by omega)
  generalize (vb 9 a0.toNat).length = l0 at *
  generalize (vb 9 a1.toNat).length = l1 at *
  generalize (vb 9 (a0 * 128).toNat).length = l2 at *
  have HM : Hid _ := hm
  have HS : Hid _ := hs
  clear hm hs
  go_enter Try.func3, Try.ntmps3
  go_wp2_with fail
  refine (awake_any _).mono ?_
  rintro e w1 ⟨rfl, hb⟩
  by_cases hle : a0 ≤ a1
  · have hl := HM.out hle
    by_cases hz : a0 = 0
    · have ez : (a0 == 0) = true := by simpa using hz
      clear hz
      go_wp2_with fail
      refine Calls.mono (S0.out _) ?_
      rintro e w' ⟨rfl, rfl⟩
      go_wp2_with fail
      refine Calls.mono (S1.out _) ?_
      rintro e w' ⟨rfl, rfl⟩
      go_wp2
      go_ret
      exact ⟨rfl, hb⟩
    · have ez : (a0 == 0) = false := by simpa using hz
      by_cases hbig : a0 < 144115188075855872
      · have hq := HS.out (by omega) hbig
        go_wp2_with fail
        refine Calls.mono (S0.out _) ?_
        rintro e w' ⟨rfl, rfl⟩
        go_wp2_with fail
        refine Calls.mono (S1.out _) ?_
        rintro e w' ⟨rfl, rfl⟩
        go_wp2_with fail
        refine Calls.mono (S2.out hbig _) ?_
        rintro e w' ⟨rfl, rfl⟩
        go_wp2_with fail
        refine Calls.mono (S0.out _) ?_
        rintro e w' ⟨rfl, rfl⟩
        go_wp2
        go_ret
        exact ⟨rfl, hb⟩
      · skip
        go_wp2_with fail
        refine Calls.mono (S0.out _) ?_
        rintro e w' ⟨rfl, rfl⟩
        go_wp2_with fail
        refine Calls.mono (S1.out _) ?_
        rintro e w' ⟨rfl, rfl⟩
        go_wp2
        go_ret
        exact ⟨rfl, hb⟩
  · clear HM
    by_cases hz : a0 = 0
    · have ez : (a0 == 0) = true := by simpa using hz
      clear hz
      go_wp2
      go_ret
      exact ⟨rfl, hb⟩
    · have ez : (a0 == 0) = false := by simpa using hz
      by_cases hbig : a0 < 144115188075855872
      · have hq := HS.out (by omega) hbig
        go_wp2_with fail
        refine Calls.mono (S2.out hbig _) ?_
        rintro e w' ⟨rfl, rfl⟩
        go_wp2_with fail
        refine Calls.mono (S0.out _) ?_
        rintro e w' ⟨rfl, rfl⟩
        go_wp2
        go_ret
        exact ⟨rfl, hb⟩
      · skip
        go_wp2
        go_ret
        exact ⟨rfl, hb⟩

set_option maxRecDepth 100000 in
theorem lifted (os : Os) (started : os.Started) (H : Type) (enc : TypeId × Value → H) :
    ReturnsInHanded {} Try.checked os 3 .any (Rows.varintSizesSpec.pre6 enc Try.prog Try.f3 Rows.varintSizesRow.domain false) (Rows.varintSizesSpec.post enc Try.prog Try.f3 false true false false) := by
  refine returnsInHanded_of_change (C := Try.checked) own started (by kernel_rfl) Try.func3
    (ChangeSpec.witness6 (enc := enc) (C := Try.checked) false ⟨#[], #[.int .u64 0, .int .u64 0], []⟩ 8 (by kernel_rfl) (by kernel_rfl) (by kernel_rfl) (by kernel_rfl)) ?_
  intro W base args ds gs before hval0 hW hcnd _
  have hval : ∀ (j : Nat) t v, Try.f3.params[j]? = some t → args[j]? = some v → Value.okWide Try.prog W .any base t v := hval0
  have hW' := hW
  obtain ⟨p, q, hA0, hV, rfl, hfz, hnd⟩ := hW
  have hA : DataW.TrodAll enc Try.prog W 0 (fun _ => true) true Try.f3.params.toList args.toList ds p := hA0
  rw [Try.params3] at hA hval
  obtain ⟨v0, vs0, d0, ds0, p0, q0, hargs, rfl, rfl, h0, r0⟩ := trodAll_cons hA
  obtain ⟨v1, vs1, d1, ds1, p1, q1, rfl, rfl, rfl, h1, r1⟩ := trodAll_cons r0
  obtain ⟨rfl, rfl, rfl⟩ := trodAll_nil r1
  obtain rfl : args = #[v0, v1] := by cases args; simp_all
  obtain ⟨rfl, rfl⟩ := trodVars_none hV
  obtain ⟨a0, rfl, rfl, rfl, w0⟩ := open_int Try.underlying22 (hval 0 22 v0 rfl rfl) h0
  obtain ⟨a1, rfl, rfl, rfl, w1⟩ := open_int Try.underlying22 (hval 1 22 v1 rfl rfl) h1
  clear hA0 hval0
  simp only [List.append_nil] at hW'
  refine (walk a0 a1 w0 w1 W).mono fun e W' ⟨he, bel⟩ => ?_
  subst he
  exact ⟨_, rfl, _, _, _, [], [], [], hW', trodAll_mk1 (shut_bool Try.underlying4 _), (trodAll_cons_mk (shut_int Try.underlying22 w0) (trodAll_cons_mk (shut_int Try.underlying22 w1) trodAll_mk0)), rfl, bel.frame _, fun h => by cases h⟩

theorem over : Rows.varintSizesRow.holds Try.pinned (OpenSpec.ofChange Rows.varintSizesSpec) :=
  OpenClaim.holds_of_wide 3 Try.f3 rfl rfl rfl rfl rfl rfl rfl ⟨rfl, rfl, rfl, rfl, rfl⟩ rfl rfl rfl rfl rfl (by kernel_rfl) Try.func3 (by kernel_rfl)
    (of_decide_eq_true (by kernel_rfl)) (by unfold Func.isWrapper; first | (rw [if_pos (by decide +kernel)]; kernel_rfl) | (rw [if_neg (by decide +kernel)]; exact ⟨rfl, rfl⟩))
    (fun os started H enc _ => lifted os started H enc)

end Go.Proofs.Ytnlamgljlcoibab.varintSizes
namespace Go.Proofs.Ytnlamgljlcoibab
theorem varintSizes_holds : Rows.VarintSizesSaid := varintSizes.over
#print axioms varintSizes_holds
end Go.Proofs.Ytnlamgljlcoibab
