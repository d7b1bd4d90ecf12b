/- QuotePlain, proved for all bytes: a quoted text has nothing but signs that can be seen, and blanks; no condition. -/
import Derived.Test.YtilcaihfoelapaaDoorCards
import Derived.Test.YtilcaihfoelapaaDoorTie
import Derived.Test.YtilcaihfoelapaaDoorQAwake
import Derived.Deep.RegionWith
import Derived.ProofKit
import Derived.OpenShut
import Derived.ShutString
import Derived.ChangeOld
import Derived.Below
import Derived.Deep.DeepHandedRow
import Derived.Lib.LaidTab
import Derived.Stop.LaidErr
namespace Go.Proofs.YtilcaihfoelapaaDoor.quotePlain
open Go.ChangeShapes Go.WideShapes Go.ChangeAt Go.RowKit
open Go.ChangeMaps (open_string shut_string)
set_option linter.unusedVariables false

theorem own : ownKnob Tryd.prog.godebug = none := by kernel_rfl
theorem laidOut : laidOutB Tryd.prog = true := by kernel_rfl

theorem gHd : Tryd.prog.globalNamed "glossary/utf.heads" = some 0 := by kernel_rfl
theorem gHdT : (Tryd.prog.globals[0]?).map (·.type) = some 66 := by kernel_rfl

/-- WHAT THE ROW's LIST GIVES: the table's cells hold its numbers. -/
theorem table {W : World} (h : laidMetH Tryd.prog Rows.quotePlainRow.laid W) : QTab W := by
  have h2 : Lib.TabIs Tryd.prog W "glossary/utf.heads" .u8 [0, 0, 192, 224, 240] := Lib.tabIs_of_head (rest := []) gHd gHdT Tryd.underlying66 Tryd.underlying5 (by kernel_rfl) (by kernel_rfl) h
  exact fun i hi => h2.cell gHd i hi

/-- A WORLD FOR THE WITNESS: the settled one, the table holding what its initialiser lays. -/
def layCells (xs : Array Value) : Obj → Obj
  | .cells _ t frozen => .cells xs t frozen
  | o => o
noncomputable def laidWorld (os : Os) : World :=
  { World.holding Tryd.prog os ⟨#[], #[], []⟩ with heap := (World.holding Tryd.prog os ⟨#[], #[], []⟩).heap.modify 0 (layCells (([0, 0, 192, 224, 240] : List Int).map fun z => Value.int .u8 z).toArray) }

set_option maxHeartbeats 1000000 in
theorem walk (a0 : Option Addr) (l0 c0 : Nat) (z0 : List Int) (w : World) (hT : Hid (QTab w)) (hb0 : Hid (Bs w a0 l0 c0 z0)) :
    Calls Tryd.prog 7 #[.slice a0 l0 c0] w fun e w' => e = .returned (.bool true) ∧ Below w.heap.size w w' := by
  have hll := hb0.out.2.1
  by_cases hbig : 500 < l0
  · have hbig' : (500 : Int) < (l0 : Int) := by omega
    go_enter Tryd.func7, Tryd.ntmps7
    go_wp2_with fail
    refine (qawake_any _ hT).mono ?_
    rintro e w1 ⟨rfl, hbb1⟩
    go_wp2
    go_ret
    exact ⟨rfl, hbb1⟩
  have hbig' : ¬ (500 : Int) < (l0 : Int) := by omega
  have q := fun W (hB : Below w.heap.size w W) => ptext_bs (w := W) (a := a0) (len := l0) (cap := c0) (zs := z0) (hb0.out.below hB (Nat.le_refl _)) (by omega)
  have hXl : (qtext z0).length ≤ 2002 := by rw [qtext_len]; have := flat_len z0; have := hb0.out.1; omega
  have hX2 : 2 ≤ (qtext z0).length := by rw [qtext_len]; omega
  have HP : Hid (∀ c ∈ qtext z0, 32 ≤ c ∧ c ≤ 126) := qtext_plain z0 hb0.out.mem
  have hf : (qtext z0).getD 0 0 = 34 := rfl
  have hl : (qtext z0).getD ((qtext z0).length - 1) 0 = 34 := by rw [qtext_len]; simp [qtext, List.getD]
  have hsx := strOfNums_size (qtext z0)
  generalize qtext z0 = X at q hXl hX2 HP hf hl hsx
  have BX : ∀ i, 0 ≤ X.getD i 0 ∧ X.getD i 0 ≤ 255 := getD_bd (fun c hc => by have := HP.out c hc; omega)
  have at0 := str_at X BX 0 (by rw [hsx]; omega)
  have atl := str_at X BX (X.length - 1) (by rw [hsx]; omega)
  rw [hf] at at0
  rw [hl] at atl
  have HA : Hid (∀ k, (h : k < X.length) → ∃ c, (((strOfNums X)[k]'(by rw [hsx]; exact h)).toNat : Int) = c ∧ 32 ≤ c ∧ c ≤ 126) := fun k h => ⟨X.getD k 0, str_at X BX k _, by
    have hm : X.getD k 0 ∈ X := by simp [List.getD, List.getElem?_eq_getElem h]
    exact HP.out _ hm⟩
  have Q : Hid _ := q
  clear q hf hl HP BX
  go_enter Tryd.func7, Tryd.ntmps7
  go_wp2_with fail
  refine (qawake_any _ hT).mono ?_
  rintro e w1 ⟨rfl, hbb1⟩
  go_wp2_with fail
  refine Calls.mono (Q.out _ hbb1) ?_
  rintro e w2 ⟨rfl, hb2⟩
  have HB2 : Hid (Below w.heap.size w w2) := hbb1.trans (hb2.mono hbb1.size)
  clear hb2
  go_wp2
  go_loopw [4] (fun i wr => ∃ k : Nat, i = .int .i64 (k : Int) ∧ k ≤ X.length ∧ wr = w2) (fun i _ => X.length - (intOf i).toNat)
  case atStart => exact ⟨0, rfl, by omega, rfl⟩
  case round =>
    obtain ⟨k, rfl, hk, rfl⟩ := hrel
    by_cases hlt : k < X.length
    · obtain ⟨c, hat, c0, c1⟩ := HA.out k hlt
      have c0' : ¬ c < 32 := by omega
      have c1' : ¬ 126 < c := by omega
      go_wp2
      go_roundw
      case rel => exact ⟨k + 1, by go_num, by omega, by first | rfl | trivial⟩
      case measure => simp [intOf]; omega
    · obtain rfl : k = X.length := by omega
      have hx2 : (2 : Int) ≤ (X.length : Int) := by omega
      go_wp2
      go_ret
      exact ⟨rfl, HB2.out⟩

theorem contract (H : Type) (enc : TypeId × Value → H) (W : World) (base : Nat) (args : Array Value) (ds gs : List (DataW H)) (before : List MemPlace)
    (hval0 : ∀ (j : Nat) t v, Tryd.f7.params[j]? = some t → args[j]? = some v → Value.okWide Tryd.prog W .any base t v)
    (hW : DataW.Whole enc Tryd.prog Tryd.f7.params.toList Rows.quotePlainSpec.vars false W args.toList ds gs before) (hL : laidMetH Tryd.prog Rows.quotePlainRow.laid W) :
    Calls Tryd.prog 7 args W fun e W' => ∃ v, e = .returned v ∧ Rows.quotePlainSpec.post enc Tryd.prog Tryd.f7 false true false false W args v W' := by
  have hval : ∀ (j : Nat) t v, Tryd.f7.params[j]? = some t → args[j]? = some v → Value.okWide Tryd.prog W .any base t v := hval0
  have hW' := hW
  obtain ⟨p, q, hA0, hV, rfl, hfz, hnd⟩ := hW
  have hA : DataW.TrodAll enc Tryd.prog W 0 (fun _ => true) true Tryd.f7.params.toList args.toList ds p := hA0
  rw [Tryd.params7] at hA hval
  obtain ⟨v0, vs0, d0, ds0, p0, q0, hargs, rfl, rfl, h0, r0⟩ := trodAll_cons hA
  obtain ⟨rfl, rfl, rfl⟩ := trodAll_nil r0
  obtain rfl : args = #[v0] := by cases args; simp_all
  obtain ⟨rfl, rfl⟩ := trodVars_none hV
  obtain ⟨a0, l0, c0, rfl⟩ := okWide_slice Tryd.underlying22 (hval 0 22 v0 rfl rfl)
  have k0 := h0
  have lt0 : ∀ x ∈ p0, x.block < W.heap.size := by obtain ⟨m, hm⟩ := k0; exact DataW.trod_lt m _ _ _ hm
  obtain ⟨z0, w0⟩ : ∃ zs, Bs W a0 l0 c0 zs := by
    obtain ⟨fuel, hf⟩ := h0
    exact bs_open (by simpa [Value.cells] using hf)
  clear hA0 hval0
  refine (walk a0 l0 c0 _ W (table hL) w0).mono fun e W' ⟨he, bel⟩ => ?_
  subst he
  exact ⟨_, rfl, _, _, _, [], _, [], hW', trodAll_mk1 (shut_bool Tryd.underlying4 _), (trodAll_cons_mk (Below.trod laidOut (by kernel_rfl) (of_decide_eq_true (by kernel_rfl)) k0 bel lt0) trodAll_mk0), rfl, bel.frame _, fun h => by cases h⟩

theorem laid_met (os : Os) : laidMet Tryd.prog Rows.quotePlainRow.laid ((laidWorld os).forCall (fun _ _ => 0) ⟨#[], #[.slice none 0 0], []⟩).memory :=
  laidMet_of_run' 8 (by kernel_rfl) (by kernel_rfl)

theorem reads (os : Os) {H : Type} (enc : TypeId × Value → H) : ∃ places, DataW.whole enc Tryd.prog ((laidWorld os).forCall (fun _ _ => 0) ⟨#[], #[.slice none 0 0], []⟩).memory Tryd.f7.params.toList Rows.quotePlainSpec.vars false (#[.slice none 0 0] : Array Value).toList 8 = some ([.nil], [], places) :=
  ⟨[], by kernel_rfl⟩

set_option maxRecDepth 100000 in
theorem lifted (os : Os) (started : os.Started) (H : Type) (enc : TypeId × Value → H) (F : Stop.Interp) :
    ReturnsInHanded {} Tryd.checked os 7 .any ((OpenSpec.ofChange Rows.quotePlainSpec).preRow enc Tryd.prog Tryd.f7 Rows.quotePlainRow.domain false Rows.quotePlainRow.laid) (((OpenSpec.ofChange Rows.quotePlainSpec).at F).post enc Tryd.prog Tryd.f7 false true false false) := by
  obtain ⟨places, hx⟩ := reads os enc
  refine returnsInHanded_of_row (C := Tryd.checked) (s := OpenSpec.ofChange Rows.quotePlainSpec) own started (by kernel_rfl) Tryd.func7
    (witness_row_at (enc := enc) (C := Tryd.checked) false (laidWorld os) #[.slice none 0 0] rfl (by kernel_rfl) (by kernel_rfl) (by kernel_rfl)
      (OpenSpec.preRow_of_cond 8 hx (by kernel_rfl) (fun k hk => by cases hk) (by kernel_rfl) (laid_met os))) ?_
  intro W base args ds gs before hval hW _ _ _ hL _ _
  exact contract H enc W base args ds gs before hval hW hL

theorem said : Rows.QuotePlainSaid :=
  OpenClaim.holds_of_cond 7 Tryd.f7 rfl rfl rfl rfl rfl rfl rfl ⟨rfl, rfl, rfl, rfl, rfl⟩ rfl rfl rfl rfl rfl (by kernel_rfl) Tryd.func7 (by kernel_rfl)
    (of_decide_eq_true (by kernel_rfl)) (by unfold Func.isWrapper; first | (rw [if_pos (by decide +kernel)]; kernel_rfl) | (rw [if_neg (by decide +kernel)]; exact ⟨rfl, rfl⟩))
    (fun os started H enc _ F => by rw [OpenClaim.pre_eq_preRow]; exact lifted os started H enc F)

/-- No parameter wants a stand-in; the program's own looks are off: what the card asks. -/
theorem plain (f : FuncId) (fn : Func) (hf : Tryd.pinned.checked.prog.funcNamed "glossary/glossarylaw04.QuotePlain" = some f) (hfn : Tryd.pinned.checked.prog.funcs[f]? = some fn) :
    false = Tryd.pinned.checked.prog.looks [] ∧ ∀ (j : Nat) t, fn.params[j]? = some t → Tryd.pinned.checked.prog.wantsStandIn t = false := by
  obtain rfl : f = 7 := Option.some.inj ((show Tryd.prog.funcNamed "glossary/glossarylaw04.QuotePlain" = some 7 by kernel_rfl).symm.trans hf) |>.symm
  obtain rfl : fn = Tryd.f7 := (Option.some.inj (Tryd.func7.symm.trans hfn)).symm
  refine ⟨by kernel_rfl, fun j t ht => ?_⟩
  rw [Tryd.params7] at ht
  have hm := Array.mem_of_getElem? ht
  simp only [List.mem_toArray, List.mem_cons, List.not_mem_nil, or_false] at hm
  subst hm
  exact (show Tryd.prog.wantsStandIn 22 = false by kernel_rfl)

end Go.Proofs.YtilcaihfoelapaaDoor.quotePlain
namespace Go.Proofs.YtilcaihfoelapaaDoor
theorem quotePlain_holds : Rows.QuotePlainCardSaid :=
  Claim7.holds_tied_plain_at .later [] _ _ _ _ quotePlain.said (fun _ h => by cases h) (by kernel_rfl) (fun _ h => by cases h) quotePlain_row_tie rfl ⟨rfl, rfl⟩ (by kernel_rfl) rfl quotePlain.plain (by kernel_rfl)
#print axioms quotePlain_holds
end Go.Proofs.YtilcaihfoelapaaDoor
