/- QuoteCuts, proved for all bytes and every cut, where what comes in is of bulk at most 1048576 (the second form): a quoted text that is cut off is none. -/
import Derived.Test.YtilcaihfoelapaaDoorCards
import Derived.Test.YtilcaihfoelapaaDoorTie
import Derived.Test.YtilcaihfoelapaaDoorQAwake
import Derived.Test.YtilcaihfoelapaaDoorBulk
import Derived.Deep.RegionWith
import Derived.ProofKit
import Derived.OpenShut
import Derived.ShutString
import Derived.ChangeOld
import Derived.Below
import Derived.Deep.DeepHandedRow
import Derived.Lib.LaidTab
import Derived.Stop.LaidErr
namespace Go.Proofs.YtilcaihfoelapaaDoor.quoteCuts
open Go.ChangeShapes Go.WideShapes Go.ChangeAt Go.RowKit
open Go.ChangeMaps (open_string shut_string)
set_option linter.unusedVariables false

theorem own : ownKnob Tryd.prog.godebug = none := by kernel_rfl
theorem laidOut : laidOutB Tryd.prog = true := by kernel_rfl

theorem gHd : Tryd.prog.globalNamed "glossary/utf.heads" = some 0 := by kernel_rfl
theorem gHdT : (Tryd.prog.globals[0]?).map (·.type) = some 66 := by kernel_rfl

/-- WHAT THE ROW's LIST GIVES: the table's cells hold its numbers. -/
theorem table {W : World} (h : laidMetH Tryd.prog Rows.quoteCutsRow.laid W) : QTab W := by
  have h2 : Lib.TabIs Tryd.prog W "glossary/utf.heads" .u8 [0, 0, 192, 224, 240] := Lib.tabIs_of_head (rest := []) gHd gHdT Tryd.underlying66 Tryd.underlying5 (by kernel_rfl) (by kernel_rfl) h
  exact fun i hi => h2.cell gHd i hi

/-- A WORLD FOR THE WITNESS: the settled one, the table holding what its initialiser lays. -/
def layCells (xs : Array Value) : Obj → Obj
  | .cells _ t frozen => .cells xs t frozen
  | o => o
noncomputable def laidWorld (os : Os) : World :=
  { World.holding Tryd.prog os ⟨#[], #[], []⟩ with heap := (World.holding Tryd.prog os ⟨#[], #[], []⟩).heap.modify 0 (layCells (([0, 0, 192, 224, 240] : List Int).map fun z => Value.int .u8 z).toArray) }

set_option maxHeartbeats 1000000 in
theorem walk (a0 : Option Addr) (l0 c0 : Nat) (z0 : List Int) (x1 : Int) (w : World) (hT : Hid (QTab w)) (hb0 : Hid (Bs w a0 l0 c0 z0)) (b1 : -9223372036854775808 ≤ x1 ∧ x1 ≤ 9223372036854775807) (hu0 : l0 ≤ 1048576) :
    Calls Tryd.prog 8 #[.slice a0 l0 c0, .int .i64 x1] w fun e w' => e = .returned (.bool true) ∧ Below w.heap.size w w' := by
  have hll := hb0.out.2.1
  have q := fun W (hB : Below w.heap.size w W) => ptext_bs (w := W) (a := a0) (len := l0) (cap := c0) (zs := z0) (hb0.out.below hB (Nat.le_refl _)) (by omega)
  have hsx := strOfNums_size (qtext z0)
  by_cases hbig : 500 < l0
  · have hbig' : (500 : Int) < (l0 : Int) := by omega
    generalize strOfNums (qtext z0) = S at q hsx
    have Q : Hid _ := q
    clear q hsx
    go_enter Tryd.func8, Tryd.ntmps8
    go_wp2_with fail
    refine (qawake_any _ hT).mono ?_
    rintro e w1 ⟨rfl, hbb1⟩
    go_wp2_with fail
    refine Calls.mono (Q.out _ hbb1) ?_
    rintro e w2 ⟨rfl, hb2⟩
    go_wp2
    go_ret
    exact ⟨rfl, hbb1.trans (hb2.mono hbb1.size)⟩
  have hbig' : ¬ (500 : Int) < (l0 : Int) := by omega
  have hXl : (qtext z0).length ≤ 2002 := by rw [qtext_len]; have := flat_len z0; have := hb0.out.1; omega
  by_cases h1 : x1 < 1
  · generalize qtext z0 = X at q hsx hXl
    generalize strOfNums X = S at q hsx
    have Q : Hid _ := q
    clear q
    go_enter Tryd.func8, Tryd.ntmps8
    go_wp2_with fail
    refine (qawake_any _ hT).mono ?_
    rintro e w1 ⟨rfl, hbb1⟩
    go_wp2_with fail
    refine Calls.mono (Q.out _ hbb1) ?_
    rintro e w2 ⟨rfl, hb2⟩
    go_wp2
    go_ret
    exact ⟨rfl, hbb1.trans (hb2.mono hbb1.size)⟩
  by_cases h2 : ((qtext z0).length : Int) ≤ x1
  · generalize qtext z0 = X at q hsx hXl h2
    generalize strOfNums X = S at q hsx
    have Q : Hid _ := q
    clear q
    go_enter Tryd.func8, Tryd.ntmps8
    go_wp2_with fail
    refine (qawake_any _ hT).mono ?_
    rintro e w1 ⟨rfl, hbb1⟩
    go_wp2_with fail
    refine Calls.mono (Q.out _ hbb1) ?_
    rintro e w2 ⟨rfl, hb2⟩
    go_wp2
    go_ret
    exact ⟨rfl, hbb1.trans (hb2.mono hbb1.size)⟩
  obtain ⟨cut, rfl⟩ : ∃ cut : Nat, x1 = (cut : Int) := ⟨x1.toNat, by omega⟩
  have HB0 : Hid (∀ c ∈ z0, 0 ≤ c ∧ c ≤ 255) := hb0.out.mem
  have BX : ∀ c ∈ qtext z0, 0 ≤ c ∧ c ≤ 255 := fun c hc => by have := qtext_plain z0 HB0.out c hc; omega
  obtain ⟨k, hk, k0, k1⟩ := qtake_cut z0 cut HB0.out (by omega) (by omega)
  have p := fun W (hB : Below w.heap.size w W) => ptak_any ((qtext z0).take cut) W (hT.out.below hB (Nat.le_refl _)) (getD_bd (fun c hc => BX c (List.mem_of_mem_take hc))) (by simp only [List.length_take]; omega)
  rw [hk] at p
  have hex : (strOfNums (qtext z0)).extract 0 cut = strOfNums ((qtext z0).take cut) := by rw [str_cut]; simp
  generalize strOfNums ((qtext z0).take cut) = SC at p hex
  clear hk BX
  generalize qtext z0 = X at q hsx hXl h2 hex
  generalize strOfNums X = S at q hsx hex
  simp only [List.length_nil, List.map_nil] at p
  have Q : Hid _ := q
  have P : Hid _ := p
  clear q p
  go_enter Tryd.func8, Tryd.ntmps8
  go_wp2_with fail
  refine (qawake_any _ hT).mono ?_
  rintro e w1 ⟨rfl, hbb1⟩
  go_wp2_with fail
  refine Calls.mono (Q.out _ hbb1) ?_
  rintro e w2 ⟨rfl, hb2⟩
  have HB2 : Hid (Below w.heap.size w w2) := hbb1.trans (hb2.mono hbb1.size)
  clear hb2
  go_wp2_with fail
  refine Calls.mono (P.out _ HB2.out) ?_
  rintro e w3 ⟨v3, rfl, hown3, hb3⟩
  have HB3 : Hid (Below w.heap.size w w3) := HB2.out.trans (hb3.mono HB2.out.size)
  obtain ⟨a3, c3, rfl⟩ := own_slice hown3
  clear hb3 hown3
  go_wp2
  go_ret
  exact ⟨rfl, HB3.out⟩

theorem contract (H : Type) (enc : TypeId × Value → H) (W : World) (base : Nat) (args : Array Value) (ds gs : List (DataW H)) (before : List MemPlace)
    (hval0 : ∀ (j : Nat) t v, Tryd.f8.params[j]? = some t → args[j]? = some v → Value.okWide Tryd.prog W .any base t v)
    (hW : DataW.Whole enc Tryd.prog Tryd.f8.params.toList Rows.quoteCutsSpec.vars false W args.toList ds gs before) (hL : laidMetH Tryd.prog Rows.quoteCutsRow.laid W) (hk : Rows.uptoSmall H (ds ++ gs) = true) :
    Calls Tryd.prog 8 args W fun e W' => ∃ v, e = .returned v ∧ Rows.quoteCutsSpec.post enc Tryd.prog Tryd.f8 false true false false W args v W' := by
  have hval : ∀ (j : Nat) t v, Tryd.f8.params[j]? = some t → args[j]? = some v → Value.okWide Tryd.prog W .any base t v := hval0
  have hW' := hW
  obtain ⟨p, q, hA0, hV, rfl, hfz, hnd⟩ := hW
  have hA : DataW.TrodAll enc Tryd.prog W 0 (fun _ => true) true Tryd.f8.params.toList args.toList ds p := hA0
  rw [Tryd.params8] at hA hval
  obtain ⟨v0, vs0, d0, ds0, p0, q0, hargs, rfl, rfl, h0, r0⟩ := trodAll_cons hA
  obtain ⟨v1, vs1, d1, ds1, p1, q1, rfl, rfl, rfl, h1, r1⟩ := trodAll_cons r0
  obtain ⟨rfl, rfl, rfl⟩ := trodAll_nil r1
  obtain rfl : args = #[v0, v1] := by cases args; simp_all
  obtain ⟨rfl, rfl⟩ := trodVars_none hV
  obtain ⟨a0, l0, c0, rfl⟩ := okWide_slice Tryd.underlying22 (hval 0 22 v0 rfl rfl)
  have k0 := h0
  have lt0 : ∀ x ∈ p0, x.block < W.heap.size := by obtain ⟨m, hm⟩ := k0; exact DataW.trod_lt m _ _ _ hm
  obtain ⟨z0, w0, u0⟩ : ∃ zs, Bs W a0 l0 c0 zs ∧ l0 ≤ Rows.uptoBulk d0 := by
    obtain ⟨fuel, hf⟩ := h0
    exact bs_open_upto (by simpa [Value.cells] using hf)
  obtain ⟨x1, rfl, rfl, rfl, w1⟩ := open_int Tryd.underlying3 (hval 1 3 v1 rfl rfl) h1
  clear hA0 hval0
  have hbulk : Rows.uptoBulkAll ([d0, .lit (.int .i64 x1)] ++ []) ≤ 1048576 := of_decide_eq_true hk
  simp only [List.append_nil, Rows.uptoBulkAll] at hbulk
  refine (walk a0 l0 c0 _ x1  W (table hL) w0 (bounds_i64 w1) ((by omega))).mono fun e W' ⟨he, bel⟩ => ?_
  subst he
  exact ⟨_, rfl, _, _, _, [], _, [], hW', trodAll_mk1 (shut_bool Tryd.underlying4 _), (trodAll_cons_mk (Below.trod laidOut (by kernel_rfl) (of_decide_eq_true (by kernel_rfl)) k0 bel lt0) (trodAll_cons_mk (shut_int Tryd.underlying3 w1) trodAll_mk0)), rfl, bel.frame _, fun h => by cases h⟩

theorem laid_met (os : Os) : laidMet Tryd.prog Rows.quoteCutsRow.laid ((laidWorld os).forCall (fun _ _ => 0) ⟨#[], #[.slice none 0 0, .int .i64 0], []⟩).memory :=
  laidMet_of_run' 8 (by kernel_rfl) (by kernel_rfl)

theorem reads (os : Os) {H : Type} (enc : TypeId × Value → H) : ∃ places, DataW.whole enc Tryd.prog ((laidWorld os).forCall (fun _ _ => 0) ⟨#[], #[.slice none 0 0, .int .i64 0], []⟩).memory Tryd.f8.params.toList Rows.quoteCutsSpec.vars false (#[.slice none 0 0, .int .i64 0] : Array Value).toList 8 = some ([.nil, .lit (.int .i64 0)], [], places) :=
  ⟨[], by kernel_rfl⟩

set_option maxRecDepth 100000 in
theorem lifted (os : Os) (started : os.Started) (H : Type) (enc : TypeId × Value → H) (F : Stop.Interp) :
    ReturnsInHanded {} Tryd.checked os 8 .any ((Rows.OpenSpec.upto Rows.quoteCutsSpec).preRow enc Tryd.prog Tryd.f8 Rows.quoteCutsUptoRow.domain false Rows.quoteCutsUptoRow.laid) (((Rows.OpenSpec.upto Rows.quoteCutsSpec).at F).post enc Tryd.prog Tryd.f8 false true false false) := by
  obtain ⟨places, hx⟩ := reads os enc
  refine returnsInHanded_of_row (C := Tryd.checked) (s := Rows.OpenSpec.upto Rows.quoteCutsSpec) own started (by kernel_rfl) Tryd.func8
    (witness_row_at (enc := enc) (C := Tryd.checked) false (laidWorld os) #[.slice none 0 0, .int .i64 0] rfl (by kernel_rfl) (by kernel_rfl) (by kernel_rfl)
      (OpenSpec.preRow_of_cond 8 hx (by kernel_rfl) (fun k hk => by cases hk; kernel_rfl) (by kernel_rfl) (laid_met os))) ?_
  intro W base args ds gs before hval hW _ hcond _ hL _ _
  exact contract H enc W base args ds gs before hval hW hL (hcond _ rfl)

theorem said : Rows.QuoteCutsUptoSaid :=
  OpenClaim.holds_of_cond 8 Tryd.f8 rfl rfl rfl rfl rfl rfl rfl ⟨rfl, rfl, rfl, rfl, rfl⟩ rfl rfl rfl rfl rfl (by kernel_rfl) Tryd.func8 (by kernel_rfl)
    (of_decide_eq_true (by kernel_rfl)) (by unfold Func.isWrapper; first | (rw [if_pos (by decide +kernel)]; kernel_rfl) | (rw [if_neg (by decide +kernel)]; exact ⟨rfl, rfl⟩))
    (fun os started H enc _ F => by rw [OpenClaim.pre_eq_preRow]; exact lifted os started H enc F)

/-- No parameter wants a stand-in; the program's own looks are off: what the card asks. -/
theorem plain (f : FuncId) (fn : Func) (hf : Tryd.pinned.checked.prog.funcNamed "glossary/glossarylaw04.QuoteCuts" = some f) (hfn : Tryd.pinned.checked.prog.funcs[f]? = some fn) :
    false = Tryd.pinned.checked.prog.looks [] ∧ ∀ (j : Nat) t, fn.params[j]? = some t → Tryd.pinned.checked.prog.wantsStandIn t = false := by
  obtain rfl : f = 8 := Option.some.inj ((show Tryd.prog.funcNamed "glossary/glossarylaw04.QuoteCuts" = some 8 by kernel_rfl).symm.trans hf) |>.symm
  obtain rfl : fn = Tryd.f8 := (Option.some.inj (Tryd.func8.symm.trans hfn)).symm
  refine ⟨by kernel_rfl, fun j t ht => ?_⟩
  rw [Tryd.params8] at ht
  have hm := Array.mem_of_getElem? ht
  simp only [List.mem_toArray, List.mem_cons, List.not_mem_nil, or_false] at hm
  rcases hm with rfl | rfl
  · exact (show Tryd.prog.wantsStandIn 22 = false by kernel_rfl)
  · exact (show Tryd.prog.wantsStandIn 3 = false by kernel_rfl)

end Go.Proofs.YtilcaihfoelapaaDoor.quoteCuts
namespace Go.Proofs.YtilcaihfoelapaaDoor
theorem quoteCutsupto_holds : Rows.QuoteCutsUptoCardSaid :=
  Claim7.holds_tied_plain_at .later [] _ _ _ _ quoteCuts.said (fun _ h => by cases h) (by kernel_rfl) (fun _ h => by cases h) quoteCutsUpto_row_tie rfl ⟨rfl, rfl⟩ (by kernel_rfl) rfl quoteCuts.plain (by kernel_rfl)
#print axioms quoteCutsupto_holds
end Go.Proofs.YtilcaihfoelapaaDoor
