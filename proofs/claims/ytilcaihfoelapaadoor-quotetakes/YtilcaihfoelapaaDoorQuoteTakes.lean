/- QuoteTakes, proved for every text: Take answers as the document asks; no condition. -/
import Derived.Test.YtilcaihfoelapaaDoorCards
import Derived.Test.YtilcaihfoelapaaDoorTie
import Derived.Test.YtilcaihfoelapaaDoorQAwake
import Derived.Deep.RegionWith
import Derived.ProofKit
import Derived.OpenShut
import Derived.ShutString
import Derived.ChangeOld
import Derived.Below
import Derived.Deep.DeepHandedRow
import Derived.Lib.LaidTab
import Derived.Stop.LaidErr
namespace Go.Proofs.YtilcaihfoelapaaDoor.quoteTakes
open Go.ChangeShapes Go.WideShapes Go.ChangeAt Go.RowKit
open Go.ChangeMaps (open_string shut_string)
set_option linter.unusedVariables false

theorem own : ownKnob Tryd.prog.godebug = none := by kernel_rfl
theorem laidOut : laidOutB Tryd.prog = true := by kernel_rfl

theorem gHd : Tryd.prog.globalNamed "glossary/utf.heads" = some 0 := by kernel_rfl
theorem gHdT : (Tryd.prog.globals[0]?).map (·.type) = some 66 := by kernel_rfl

/-- WHAT THE ROW's LIST GIVES: the table's cells hold its numbers. -/
theorem table {W : World} (h : laidMetH Tryd.prog Rows.quoteTakesRow.laid W) : QTab W := by
  have h2 : Lib.TabIs Tryd.prog W "glossary/utf.heads" .u8 [0, 0, 192, 224, 240] := Lib.tabIs_of_head (rest := []) gHd gHdT Tryd.underlying66 Tryd.underlying5 (by kernel_rfl) (by kernel_rfl) h
  exact fun i hi => h2.cell gHd i hi

/-- A WORLD FOR THE WITNESS: the settled one, the table holding what its initialiser lays. -/
def layCells (xs : Array Value) : Obj → Obj
  | .cells _ t frozen => .cells xs t frozen
  | o => o
noncomputable def laidWorld (os : Os) : World :=
  { World.holding Tryd.prog os ⟨#[], #[], []⟩ with heap := (World.holding Tryd.prog os ⟨#[], #[], []⟩).heap.modify 0 (layCells (([0, 0, 192, 224, 240] : List Int).map fun z => Value.int .u8 z).toArray) }

set_option maxHeartbeats 1000000 in
theorem walk (z0 : List Int) (w : World) (hT : Hid (QTab w)) (hz0 : Hid (∀ i, 0 ≤ z0.getD i 0 ∧ z0.getD i 0 ≤ 255)) :
    Calls Tryd.prog 4 #[.string (strOfNums z0)] w fun e w' => e = .returned (.bool true) ∧ Below w.heap.size w w' := by
  by_cases hbig : 500 < z0.length
  · have hbig' : (500 : Int) < (z0.length : Int) := by omega
    have hsz := strOfNums_size z0
    generalize strOfNums z0 = S at hsz
    go_enter Tryd.func4, Tryd.ntmps4
    go_wp2_with fail
    refine (qawake_any _ hT).mono ?_
    rintro e w1 ⟨rfl, hbb1⟩
    go_wp2
    go_ret
    exact ⟨rfl, hbb1⟩
  · have hbig' : ¬ (500 : Int) < (z0.length : Int) := by omega
    have q := fun W (hB : Below w.heap.size w W) => ptak_any z0 W (hT.out.below hB (Nat.le_refl _)) hz0 (by omega)
    have q' := fun W => rtak_any z0 W hz0 (by omega)
    have hsz := strOfNums_size z0
    have BD : Hid (∀ c ∈ (qtake z0).1, 0 ≤ c ∧ c ≤ 255) := qtake_bd z0 (mem_bd hz0.out)
    generalize qtake z0 = p at q q' BD
    generalize strOfNums z0 = S at q q' hsz
    obtain ⟨l, n, m⟩ := p
    simp only at q q' BD
    have Q : Hid _ := q
    have Q' : Hid _ := q'
    clear q q'
    go_enter Tryd.func4, Tryd.ntmps4
    go_wp2_with fail
    refine (qawake_any _ hT).mono ?_
    rintro e w1 ⟨rfl, hbb1⟩
    go_wp2_with fail
    refine Calls.mono (Q.out _ hbb1) ?_
    rintro e w2 ⟨v2, rfl, hown2, hb2⟩
    obtain ⟨a2, c2, rfl⟩ := own_slice hown2
    have HB2 : Hid (Below w.heap.size w w2) := hbb1.trans (hb2.mono hbb1.size)
    have B2 : Hid (Bs w2 a2 l.length c2 l) := Bs.of_owns hown2 BD.out
    clear hb2 hown2
    go_wp2_with fail
    refine Calls.mono (Q'.out _) ?_
    rintro e w3 ⟨v3, rfl, hown3, hb3⟩
    obtain ⟨a3, c3, rfl⟩ := own_slice hown3
    have HB3 : Hid (Below w.heap.size w w3) := HB2.out.trans (hb3.mono HB2.out.size)
    have x2 := Bs.conv (B2.out.below hb3 (Nat.le_refl _))
    have x3 := Bs.conv (Bs.of_owns hown3 BD.out)
    generalize strOfNums l = L at x2 x3
    clear hb3 hown3
    go_wp2
    go_ret
    exact ⟨by simp, HB3.out⟩

theorem contract (H : Type) (enc : TypeId × Value → H) (W : World) (base : Nat) (args : Array Value) (ds gs : List (DataW H)) (before : List MemPlace)
    (hval0 : ∀ (j : Nat) t v, Tryd.f4.params[j]? = some t → args[j]? = some v → Value.okWide Tryd.prog W .any base t v)
    (hW : DataW.Whole enc Tryd.prog Tryd.f4.params.toList Rows.quoteTakesSpec.vars false W args.toList ds gs before) (hL : laidMetH Tryd.prog Rows.quoteTakesRow.laid W) :
    Calls Tryd.prog 4 args W fun e W' => ∃ v, e = .returned v ∧ Rows.quoteTakesSpec.post enc Tryd.prog Tryd.f4 false true false false W args v W' := by
  have hval : ∀ (j : Nat) t v, Tryd.f4.params[j]? = some t → args[j]? = some v → Value.okWide Tryd.prog W .any base t v := hval0
  have hW' := hW
  obtain ⟨p, q, hA0, hV, rfl, hfz, hnd⟩ := hW
  have hA : DataW.TrodAll enc Tryd.prog W 0 (fun _ => true) true Tryd.f4.params.toList args.toList ds p := hA0
  rw [Tryd.params4] at hA hval
  obtain ⟨v0, vs0, d0, ds0, p0, q0, hargs, rfl, rfl, h0, r0⟩ := trodAll_cons hA
  obtain ⟨rfl, rfl, rfl⟩ := trodAll_nil r0
  obtain rfl : args = #[v0] := by cases args; simp_all
  obtain ⟨rfl, rfl⟩ := trodVars_none hV
  obtain ⟨s0, rfl, rfl, rfl, w0⟩ := open_string Tryd.underlying9 (hval 0 9 v0 rfl rfl) h0
  obtain ⟨z0, rfl, hz0⟩ := str_nums s0
  clear hA0 hval0
  refine (walk z0 W (table hL) hz0).mono fun e W' ⟨he, bel⟩ => ?_
  subst he
  exact ⟨_, rfl, _, _, _, [], _, [], hW', trodAll_mk1 (shut_bool Tryd.underlying4 _), (trodAll_cons_mk (shut_string Tryd.underlying9 w0) trodAll_mk0), rfl, bel.frame _, fun h => by cases h⟩

theorem laid_met (os : Os) : laidMet Tryd.prog Rows.quoteTakesRow.laid ((laidWorld os).forCall (fun _ _ => 0) ⟨#[], #[.string ByteArray.empty], []⟩).memory :=
  laidMet_of_run' 8 (by kernel_rfl) (by kernel_rfl)

theorem reads (os : Os) {H : Type} (enc : TypeId × Value → H) : ∃ places, DataW.whole enc Tryd.prog ((laidWorld os).forCall (fun _ _ => 0) ⟨#[], #[.string ByteArray.empty], []⟩).memory Tryd.f4.params.toList Rows.quoteTakesSpec.vars false (#[.string ByteArray.empty] : Array Value).toList 8 = some ([.lit (.string [])], [], places) :=
  ⟨[], by kernel_rfl⟩

set_option maxRecDepth 100000 in
theorem lifted (os : Os) (started : os.Started) (H : Type) (enc : TypeId × Value → H) (F : Stop.Interp) :
    ReturnsInHanded {} Tryd.checked os 4 .any ((OpenSpec.ofChange Rows.quoteTakesSpec).preRow enc Tryd.prog Tryd.f4 Rows.quoteTakesRow.domain false Rows.quoteTakesRow.laid) (((OpenSpec.ofChange Rows.quoteTakesSpec).at F).post enc Tryd.prog Tryd.f4 false true false false) := by
  obtain ⟨places, hx⟩ := reads os enc
  refine returnsInHanded_of_row (C := Tryd.checked) (s := OpenSpec.ofChange Rows.quoteTakesSpec) own started (by kernel_rfl) Tryd.func4
    (witness_row_at (enc := enc) (C := Tryd.checked) false (laidWorld os) #[.string ByteArray.empty] rfl (by kernel_rfl) (by kernel_rfl) (by kernel_rfl)
      (OpenSpec.preRow_of_cond 8 hx (by kernel_rfl) (fun k hk => by cases hk) (by kernel_rfl) (laid_met os))) ?_
  intro W base args ds gs before hval hW _ _ _ hL _ _
  exact contract H enc W base args ds gs before hval hW hL

theorem said : Rows.QuoteTakesSaid :=
  OpenClaim.holds_of_cond 4 Tryd.f4 rfl rfl rfl rfl rfl rfl rfl ⟨rfl, rfl, rfl, rfl, rfl⟩ rfl rfl rfl rfl rfl (by kernel_rfl) Tryd.func4 (by kernel_rfl)
    (of_decide_eq_true (by kernel_rfl)) (by unfold Func.isWrapper; first | (rw [if_pos (by decide +kernel)]; kernel_rfl) | (rw [if_neg (by decide +kernel)]; exact ⟨rfl, rfl⟩))
    (fun os started H enc _ F => by rw [OpenClaim.pre_eq_preRow]; exact lifted os started H enc F)

/-- No parameter wants a stand-in; the program's own looks are off: what the card asks. -/
theorem plain (f : FuncId) (fn : Func) (hf : Tryd.pinned.checked.prog.funcNamed "glossary/glossarylaw04.QuoteTakes" = some f) (hfn : Tryd.pinned.checked.prog.funcs[f]? = some fn) :
    false = Tryd.pinned.checked.prog.looks [] ∧ ∀ (j : Nat) t, fn.params[j]? = some t → Tryd.pinned.checked.prog.wantsStandIn t = false := by
  obtain rfl : f = 4 := Option.some.inj ((show Tryd.prog.funcNamed "glossary/glossarylaw04.QuoteTakes" = some 4 by kernel_rfl).symm.trans hf) |>.symm
  obtain rfl : fn = Tryd.f4 := (Option.some.inj (Tryd.func4.symm.trans hfn)).symm
  refine ⟨by kernel_rfl, fun j t ht => ?_⟩
  rw [Tryd.params4] at ht
  have hm := Array.mem_of_getElem? ht
  simp only [List.mem_toArray, List.mem_cons, List.not_mem_nil, or_false] at hm
  subst hm
  exact (show Tryd.prog.wantsStandIn 9 = false by kernel_rfl)

end Go.Proofs.YtilcaihfoelapaaDoor.quoteTakes
namespace Go.Proofs.YtilcaihfoelapaaDoor
theorem quoteTakes_holds : Rows.QuoteTakesCardSaid :=
  Claim7.holds_tied_plain_at .later [] _ _ _ _ quoteTakes.said (fun _ h => by cases h) (by kernel_rfl) (fun _ h => by cases h) quoteTakes_row_tie rfl ⟨rfl, rfl⟩ (by kernel_rfl) rfl quoteTakes.plain (by kernel_rfl)
#print axioms quoteTakes_holds
end Go.Proofs.YtilcaihfoelapaaDoor
