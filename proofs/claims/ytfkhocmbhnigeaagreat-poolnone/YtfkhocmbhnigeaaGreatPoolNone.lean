/- PoolNone, proved for every two texts and every list of kinds: a pool that nobody made has nothing; no condition. -/
import Derived.Test.YtfkhocmbhnigeaaGreatRows
import Derived.Test.YtfkhocmbhnigeaaGreatVNil2
import Derived.Deep.RegionWith
import Derived.ProofKit
import Derived.OpenShut
import Derived.ShutString
import Derived.ChangeOld
import Derived.Below
namespace Go.Proofs.YtfkhocmbhnigeaaGreat.poolNone
open Go.ChangeShapes Go.WideShapes Go.ChangeAt Go.RowKit
open Go.ChangeMaps (open_string shut_string)
set_option linter.unusedVariables false

theorem own : ownKnob Tryz.prog.godebug = none := by kernel_rfl
theorem laidOut : laidOutB Tryz.prog = true := by kernel_rfl

theorem mem_bdV {z : List Int} (h : ∀ i, 0 ≤ z.getD i 0 ∧ z.getD i 0 ≤ 255) : byts z := fun x hx => by
  obtain ⟨i, hi⟩ := List.getElem?_of_mem hx
  have := h i
  rw [List.getD_eq_getElem?_getD, hi] at this
  exact this

set_option maxRecDepth 100000 in
set_option maxHeartbeats 8000000 in
theorem walk (z0 : List Int) (z1 : List Int) (a2 : Option Addr) (l2 c2 : Nat) (w : World) (hz0 : Hid (∀ i, 0 ≤ z0.getD i 0 ∧ z0.getD i 0 ≤ 255)) (hz1 : Hid (∀ i, 0 ≤ z1.getD i 0 ∧ z1.getD i 0 ≤ 255)) :
    Calls Tryz.prog 7 #[.string (strOfNums z0), .string (strOfNums z1), .slice a2 l2 c2] w fun e w' => e = .returned (.bool true) ∧ Below w.heap.size w w' := by
  have hs0 := strOfNums_size z0
  have hs1 := strOfNums_size z1
  by_cases hbig : 300 < z0.length
  · have hbig' : (300 : Int) < (z0.length : Int) := by omega
    generalize strOfNums z0 = A at hs0
    generalize strOfNums z1 = B at hs1
    go_enter Tryz.func7, Tryz.ntmps7
    go_wp2_with fail
    refine (vawake_any _).mono ?_
    rintro e w1 ⟨rfl, hbb1⟩
    go_wp2
    go_ret
    exact ⟨rfl, hbb1⟩
  have hbig' : ¬ (300 : Int) < (z0.length : Int) := by omega
  by_cases hbig2 : 300 < z1.length
  · have hbig2' : (300 : Int) < (z1.length : Int) := by omega
    generalize strOfNums z0 = A at hs0
    generalize strOfNums z1 = B at hs1
    go_enter Tryz.func7, Tryz.ntmps7
    go_wp2_with fail
    refine (vawake_any _).mono ?_
    rintro e w1 ⟨rfl, hbb1⟩
    go_wp2
    go_ret
    exact ⟨rfl, hbb1⟩
  have hbig2' : ¬ (300 : Int) < (z1.length : Int) := by omega
  have hm0 : (strOfNums z0).size ≤ maxLen := by rw [hs0]; unfold maxLen; omega
  have Q1 : Hid _ := fun W => pmessage0 (strOfNums z0) hm0 W
  have Q2 : Hid _ := fun W => penum0 (strOfNums z0) hm0 W
  have Q3 : Hid _ := fun W => pext0 (strOfNums z0) hm0 W
  have Q4 : Hid _ := fun W => pfile0 (strOfNums z0) W
  have Q5 : Hid _ := fun (sa : Option Addr) (sn sc : Nat) W => plook0 z0 z1 (mem_bdV hz0.out) (mem_bdV hz1.out) (by omega) (by omega) sa a2 sn sc l2 c2 W
  have Q6 : Hid _ := fun W => pkind0 (strOfNums z0) hm0 W
  have Q7 : Hid _ := fun W => phome0 (strOfNums z0) hm0 W
  have Q9 : Hid _ := fun W => pexts_0 z0 (by omega) W
  clear hm0
  generalize strOfNums z0 = A at *
  generalize strOfNums z1 = B at *
  clear hz0 hz1 hbig hbig2
  go_enter Tryz.func7, Tryz.ntmps7
  go_wp2_with fail
  refine (vawake_any _).mono ?_
  rintro e w1 ⟨rfl, hb1⟩
  have HB1 : Hid (Below w.heap.size w w1) := hb1
  clear hb1
  go_wp2_with fail
  refine Calls.mono (Q1.out _) ?_
  rintro e w2 ⟨rfl, hb2⟩
  have HB2 : Hid (Below w.heap.size w w2) := HB1.out.trans (hb2.mono HB1.out.size)
  clear hb2 HB1
  go_wp2_with fail
  refine Calls.mono (Q2.out _) ?_
  rintro e w3 ⟨rfl, hb3⟩
  have HB3 : Hid (Below w.heap.size w w3) := (HB2.out.alloc HB2.out.size _).trans (hb3.mono (Nat.le_trans HB2.out.size (by simp)))
  clear hb3 HB2
  go_wp2_with fail
  refine Calls.mono (Q3.out _) ?_
  rintro e w4 ⟨rfl, hb4⟩
  have HB4 : Hid (Below w.heap.size w w4) := (HB3.out.alloc HB3.out.size _).trans (hb4.mono (Nat.le_trans HB3.out.size (by simp)))
  clear hb4 HB3
  go_wp2_with fail
  refine Calls.mono (Q4.out _) ?_
  rintro e w5 ⟨rfl, hb5⟩
  have HB5 : Hid (Below w.heap.size w w5) := (HB4.out.alloc HB4.out.size _).trans (hb5.mono (Nat.le_trans HB4.out.size (by simp)))
  clear hb5 HB4
  go_wp2_with fail
  refine Calls.mono (Q5.out _ _ _ _) ?_
  rintro e w6 ⟨rfl, hb6⟩
  have HB6 : Hid (Below w.heap.size w w6) := ((HB5.out.alloc HB5.out.size _).alloc (Nat.le_trans HB5.out.size (by simp)) _).trans (hb6.mono (Nat.le_trans HB5.out.size (by simp; try omega)))
  clear hb6 HB5
  go_wp2_with fail
  refine Calls.mono (Q6.out _) ?_
  rintro e w7 ⟨rfl, hb7⟩
  have HB7 : Hid (Below w.heap.size w w7) := HB6.out.trans (hb7.mono HB6.out.size)
  clear hb7 HB6
  go_wp2_with fail
  refine Calls.mono (Q7.out _) ?_
  rintro e w8 ⟨rfl, hb8⟩
  have HB8 : Hid (Below w.heap.size w w8) := HB7.out.trans (hb8.mono HB7.out.size)
  clear hb8 HB7
  go_wp2_with fail
  refine Calls.mono (pnames0 _) ?_
  rintro e w9 ⟨rfl, hb9⟩
  have HB9 : Hid (Below w.heap.size w w9) := HB8.out.trans (hb9.mono HB8.out.size)
  clear hb9 HB8
  go_wp2_with fail
  refine Calls.mono (Q9.out _) ?_
  rintro e w10 ⟨rfl, hb10⟩
  have HB10 : Hid (Below w.heap.size w w10) := HB9.out.trans (hb10.mono HB9.out.size)
  clear hb10 HB9
  go_wp2
  go_ret
  exact ⟨rfl, HB10.out⟩

set_option maxRecDepth 100000 in
theorem lifted (os : Os) (started : os.Started) (H : Type) (enc : TypeId × Value → H) :
    ReturnsInHanded {} Tryz.checked os 7 .any (Rows.poolNoneSpec.pre6 enc Tryz.prog Tryz.f7 Rows.poolNoneRow.domain false) (Rows.poolNoneSpec.post enc Tryz.prog Tryz.f7 false true false false) := by
  refine returnsInHanded_of_change (C := Tryz.checked) own started (by kernel_rfl) Tryz.func7
    (ChangeSpec.witness6 (enc := enc) (C := Tryz.checked) false ⟨#[], #[.string ByteArray.empty, .string ByteArray.empty, .slice none 0 0], []⟩ 8 (by kernel_rfl) (by kernel_rfl) (by kernel_rfl) (by kernel_rfl)) ?_
  intro W base args ds gs before hval0 hW hcnd _
  have hval : ∀ (j : Nat) t v, Tryz.f7.params[j]? = some t → args[j]? = some v → Value.okWide Tryz.prog W .any base t v := hval0
  have hW' := hW
  obtain ⟨p, q, hA0, hV, rfl, hfz, hnd⟩ := hW
  have hA : DataW.TrodAll enc Tryz.prog W 0 (fun _ => true) true Tryz.f7.params.toList args.toList ds p := hA0
  rw [Tryz.params7] at hA hval
  obtain ⟨v0, vs0, d0, ds0, p0, q0, hargs, rfl, rfl, h0, r0⟩ := trodAll_cons hA
  obtain ⟨v1, vs1, d1, ds1, p1, q1, rfl, rfl, rfl, h1, r1⟩ := trodAll_cons r0
  obtain ⟨v2, vs2, d2, ds2, p2, q2, rfl, rfl, rfl, h2, r2⟩ := trodAll_cons r1
  obtain ⟨rfl, rfl, rfl⟩ := trodAll_nil r2
  obtain rfl : args = #[v0, v1, v2] := by cases args; simp_all
  obtain ⟨rfl, rfl⟩ := trodVars_none hV
  obtain ⟨s0, rfl, rfl, rfl, w0⟩ := open_string Tryz.underlying9 (hval 0 9 v0 rfl rfl) h0
  obtain ⟨z0, rfl, hz0⟩ := str_nums s0
  obtain ⟨s1, rfl, rfl, rfl, w1⟩ := open_string Tryz.underlying9 (hval 1 9 v1 rfl rfl) h1
  obtain ⟨z1, rfl, hz1⟩ := str_nums s1
  obtain ⟨a2, l2, c2, rfl⟩ := okWide_slice Tryz.underlying59 (hval 2 59 v2 rfl rfl)
  have lt2 : ∀ x ∈ p2, x.block < W.heap.size := by obtain ⟨m, hm⟩ := h2; exact DataW.trod_lt m _ _ _ hm
  clear hA0 hval0
  refine (walk z0 z1 a2 l2 c2 W hz0 hz1).mono fun e W' ⟨he, bel⟩ => ?_
  subst he
  exact ⟨_, rfl, _, _, _, [], _, [], hW', trodAll_mk1 (shut_bool Tryz.underlying4 _), (trodAll_cons_mk (shut_string Tryz.underlying9 w0) (trodAll_cons_mk (shut_string Tryz.underlying9 w1) (trodAll_cons_mk (Below.trod laidOut (by kernel_rfl) (of_decide_eq_true (by kernel_rfl)) h2 bel lt2) trodAll_mk0))), rfl, bel.frame _, fun h => by cases h⟩

theorem over : Rows.poolNoneRow.holds Tryz.pinned (OpenSpec.ofChange Rows.poolNoneSpec) :=
  OpenClaim.holds_of_wide 7 Tryz.f7 rfl rfl rfl rfl rfl rfl rfl ⟨rfl, rfl, rfl, rfl, rfl⟩ rfl rfl rfl rfl rfl (by kernel_rfl) Tryz.func7 (by kernel_rfl)
    (of_decide_eq_true (by kernel_rfl)) (by unfold Func.isWrapper; first | (rw [if_pos (by decide +kernel)]; kernel_rfl) | (rw [if_neg (by decide +kernel)]; exact ⟨rfl, rfl⟩))
    (fun os started H enc _ => lifted os started H enc)

end Go.Proofs.YtfkhocmbhnigeaaGreat.poolNone
namespace Go.Proofs.YtfkhocmbhnigeaaGreat
theorem poolNone_holds : Rows.PoolNoneSaid := poolNone.over
#print axioms poolNone_holds
end Go.Proofs.YtfkhocmbhnigeaaGreat
