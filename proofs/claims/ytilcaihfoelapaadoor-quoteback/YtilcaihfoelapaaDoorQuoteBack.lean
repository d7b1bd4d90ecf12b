/- QuoteBack, proved for all bytes, every text behind and every number: what Text answers is taken again by Take, what Digits answers is the number again; no condition. -/
import Derived.Test.YtilcaihfoelapaaDoorCards
import Derived.Test.YtilcaihfoelapaaDoorTie
import Derived.Test.YtilcaihfoelapaaDoorQAwake
import Derived.Test.YtilcaihfoelapaaDoorQPg
import Derived.Deep.RegionWith
import Derived.ProofKit
import Derived.OpenShut
import Derived.ShutString
import Derived.ChangeOld
import Derived.Below
import Derived.Deep.DeepHandedRow
import Derived.Lib.LaidTab
import Derived.Stop.LaidErr
namespace Go.Proofs.YtilcaihfoelapaaDoor.quoteBack
open Go.ChangeShapes Go.WideShapes Go.ChangeAt Go.RowKit
open Go.ChangeMaps (open_string shut_string)
set_option linter.unusedVariables false

theorem own : ownKnob Tryd.prog.godebug = none := by kernel_rfl
theorem laidOut : laidOutB Tryd.prog = true := by kernel_rfl

theorem gHd : Tryd.prog.globalNamed "glossary/utf.heads" = some 0 := by kernel_rfl
theorem gHdT : (Tryd.prog.globals[0]?).map (·.type) = some 66 := by kernel_rfl
theorem gPw : Tryd.prog.globalNamed "internal/strconv.uint64pow10" = some 1 := by kernel_rfl
theorem gPwT : (Tryd.prog.globals[1]?).map (·.type) = some 69 := by kernel_rfl

/-- WHAT THE ROW's LIST GIVES: the tables that are read hold their numbers. -/
theorem table {W : World} (h : laidMetH Tryd.prog Rows.quoteBackRow.laid W) : QPTab W := by
  have h0 : laidMet Tryd.prog [("glossary/utf.heads", Rows.laid_glossary_utf_heads), ("math/bits.deBruijn32tab", Rows.laid_math_bits_deBruijn32tab), ("math/bits.deBruijn64tab", Rows.laid_math_bits_deBruijn64tab), ("internal/strconv.uint64pow10", Rows.laid_internal_strconv_uint64pow10)] W := h
  have h2 : Lib.TabIs Tryd.prog W "glossary/utf.heads" .u8 hds := Lib.tabIs_of_head (rest := [("math/bits.deBruijn32tab", Rows.laid_math_bits_deBruijn32tab), ("math/bits.deBruijn64tab", Rows.laid_math_bits_deBruijn64tab), ("internal/strconv.uint64pow10", Rows.laid_internal_strconv_uint64pow10)]) gHd gHdT Tryd.underlying66 Tryd.underlying5 (by kernel_rfl) (by kernel_rfl) h0
  have h3 : Lib.TabIs Tryd.prog W "internal/strconv.uint64pow10" .u64 Lib.pow10Tab := Lib.tabIs_of_head (rest := []) gPw gPwT Tryd.underlying69 Tryd.underlying32 (by kernel_rfl) (by kernel_rfl) h0.tail.tail.tail
  exact ⟨fun i hi => h2.cell gHd i hi, h3⟩

/-- A WORLD FOR THE WITNESS: the settled one, the tables holding what their initialisers lay. -/
def layCells (xs : Array Value) : Obj → Obj
  | .cells _ t frozen => .cells xs t frozen
  | o => o
def db32 : List Int := [0, 1, 28, 2, 29, 14, 24, 3, 30, 22, 20, 15, 25, 17, 4, 8, 31, 27, 13, 23, 21, 19, 16, 7, 26, 12, 18, 6, 11, 5, 10, 9]
def db64 : List Int := [0, 1, 56, 2, 57, 49, 28, 3, 61, 58, 42, 50, 38, 29, 17, 4, 62, 47, 59, 36, 45, 43, 51, 22, 53, 39, 33, 30, 24, 18, 12, 5, 63, 55, 48, 27, 60, 41, 37, 16, 46, 35, 44, 21, 52, 32, 23, 11, 54, 26, 40, 15, 34, 20, 31, 10, 25, 14, 19, 9, 13, 8, 7, 6]
def pw10 : List Int := [1, 10, 100, 1000, 10000, 100000, 1000000, 10000000, 100000000, 1000000000, 10000000000, 100000000000, 1000000000000, 10000000000000, 100000000000000, 1000000000000000, 10000000000000000, 100000000000000000, 1000000000000000000, 10000000000000000000]
noncomputable def laidWorld (os : Os) : World :=
  { World.holding Tryd.prog os ⟨#[], #[], []⟩ with heap := ((((World.holding Tryd.prog os ⟨#[], #[], []⟩).heap.modify 0 (layCells (hds.map fun z => Value.int .u8 z).toArray)).modify 3 (layCells (db32.map fun z => Value.int .u8 z).toArray)).modify 4 (layCells (db64.map fun z => Value.int .u8 z).toArray)).modify 1 (layCells (pw10.map fun z => Value.int .u64 z).toArray) }

set_option maxHeartbeats 1000000 in
theorem walk (a0 : Option Addr) (l0 c0 : Nat) (z0 : List Int) (z1 : List Int) (x2 : Int) (w : World) (hT : Hid (QPTab w)) (hb0 : Hid (Bs w a0 l0 c0 z0)) (hz1 : Hid (∀ i, 0 ≤ z1.getD i 0 ∧ z1.getD i 0 ≤ 255)) (b2 : 0 ≤ x2 ∧ x2 ≤ 18446744073709551615) :
    Calls Tryd.prog 6 #[.slice a0 l0 c0, .string (strOfNums z1), .int .u64 x2] w fun e w' => e = .returned (.bool true) ∧ Below w.heap.size w w' := by
  have hP : Hid (PTab w) := hT.out.2
  replace hT : Hid (QTab w) := hT.out.1
  have hll := hb0.out.2.1
  have hsz := strOfNums_size z1
  by_cases hbig : 500 < l0
  · have hbig' : (500 : Int) < (l0 : Int) := by omega
    generalize strOfNums z1 = S at hsz
    go_enter Tryd.func6, Tryd.ntmps6
    go_wp2_with fail
    refine (qawake_any _ hT).mono ?_
    rintro e w1 ⟨rfl, hbb1⟩
    go_wp2
    go_ret
    exact ⟨rfl, hbb1⟩
  have hbig' : ¬ (500 : Int) < (l0 : Int) := by omega
  by_cases hbg : 100 < z1.length
  · have hbg' : (100 : Int) < (z1.length : Int) := by omega
    generalize strOfNums z1 = S at hsz
    go_enter Tryd.func6, Tryd.ntmps6
    go_wp2_with fail
    refine (qawake_any _ hT).mono ?_
    rintro e w1 ⟨rfl, hbb1⟩
    go_wp2
    go_ret
    exact ⟨rfl, hbb1⟩
  have hbg' : ¬ (100 : Int) < (z1.length : Int) := by omega
  have q := fun W (hB : Below w.heap.size w W) => ptext_bs (w := W) (a := a0) (len := l0) (cap := c0) (zs := z0) (hb0.out.below hB (Nat.le_refl _)) (by omega)
  have hXl : (qtext z0).length ≤ 2002 := by rw [qtext_len]; have := flat_len z0; have := hb0.out.1; omega
  have HB0 : Hid (∀ c ∈ z0, 0 ≤ c ∧ c ≤ 255) := hb0.out.mem
  have BX : ∀ c ∈ qtext z0, 0 ≤ c ∧ c ≤ 255 := fun c hc => by have := qtext_plain z0 HB0.out c hc; omega
  have p := fun W (hB : Below w.heap.size w W) => ptak_any (qtext z0 ++ z1) W (hT.out.below hB (Nat.le_refl _)) (getD_bd (fun c hc => (List.mem_append.1 hc).elim (BX c) (mem_bd hz1.out c))) (by simp only [List.length_append]; omega)
  rw [qtake_qtext z0 z1 HB0.out] at p
  have r := fun W (hB : Below w.heap.size w W) => pdig_any x2 W (hP.out.below hB (Nat.le_refl _)) b2.1 b2.2
  have hdl := (qdg_bd 20 x2 b2.1).2
  have s := fun W (hB : Below w.heap.size w W) => pnum_any (qdg 20 x2) W (getD_bd (fun c hc => by have := (qdg_bd 20 x2 b2.1).1 c hc; omega)) (by omega)
  rw [qnum_qdg x2 b2.1 b2.2] at s
  have hadd := fun W => run_add W (qtext z0) z1 (by omega)
  have hsx := strOfNums_size (qtext z0)
  generalize qtext z0 = X at q p hXl hadd hsx
  generalize strOfNums (X ++ z1) = SXM at p hadd
  generalize strOfNums X = SX at q hadd hsx
  generalize strOfNums z1 = S at hsz hadd
  generalize strOfNums (qdg 20 x2) = SD at r s
  simp only at p s
  have Q : Hid _ := q
  have P : Hid _ := p
  have R : Hid _ := r
  have SS : Hid _ := s
  clear q p r s hdl BX
  go_enter Tryd.func6, Tryd.ntmps6
  go_wp2_with fail
  refine (qawake_any _ hT).mono ?_
  rintro e w1 ⟨rfl, hbb1⟩
  go_wp2_with fail
  refine Calls.mono (Q.out _ hbb1) ?_
  rintro e w2 ⟨rfl, hb2⟩
  have HB2 : Hid (Below w.heap.size w w2) := hbb1.trans (hb2.mono hbb1.size)
  clear hb2
  go_wp2_with fail
  refine Calls.mono (P.out _ HB2.out) ?_
  rintro e w3 ⟨v3, rfl, hown3, hb3⟩
  have HB3 : Hid (Below w.heap.size w w3) := HB2.out.trans (hb3.mono HB2.out.size)
  obtain ⟨a3, c3, rfl⟩ := own_slice hown3
  have B3 : Hid (Bs w3 a3 z0.length c3 z0) := Bs.of_owns hown3 HB0.out
  clear hb3 hown3
  go_wp2_with fail
  refine Calls.mono (R.out _ HB3.out) ?_
  rintro e w4 ⟨rfl, hb4⟩
  have HB4 : Hid (Below w.heap.size w w4) := HB3.out.trans (hb4.mono HB3.out.size)
  have B4 : Hid (Bs w4 a3 z0.length c3 z0) := B3.out.below hb4 (Nat.le_refl _)
  clear hb4 B3
  go_wp2_with fail
  refine Calls.mono (SS.out _ HB4.out) ?_
  rintro e w5 ⟨rfl, hb5⟩
  have HB5 : Hid (Below w.heap.size w w5) := HB4.out.trans (hb5.mono HB4.out.size)
  have x1 := Bs.conv (B4.out.below hb5 (Nat.le_refl _))
  have x0 := Bs.conv (hb0.out.below HB5.out (Nat.le_refl _))
  generalize strOfNums z0 = L at x0 x1
  clear hb5
  go_wp2
  go_ret
  exact ⟨by simp, HB5.out⟩

theorem contract (H : Type) (enc : TypeId × Value → H) (W : World) (base : Nat) (args : Array Value) (ds gs : List (DataW H)) (before : List MemPlace)
    (hval0 : ∀ (j : Nat) t v, Tryd.f6.params[j]? = some t → args[j]? = some v → Value.okWide Tryd.prog W .any base t v)
    (hW : DataW.Whole enc Tryd.prog Tryd.f6.params.toList Rows.quoteBackSpec.vars false W args.toList ds gs before) (hL : laidMetH Tryd.prog Rows.quoteBackRow.laid W) :
    Calls Tryd.prog 6 args W fun e W' => ∃ v, e = .returned v ∧ Rows.quoteBackSpec.post enc Tryd.prog Tryd.f6 false true false false W args v W' := by
  have hval : ∀ (j : Nat) t v, Tryd.f6.params[j]? = some t → args[j]? = some v → Value.okWide Tryd.prog W .any base t v := hval0
  have hW' := hW
  obtain ⟨p, q, hA0, hV, rfl, hfz, hnd⟩ := hW
  have hA : DataW.TrodAll enc Tryd.prog W 0 (fun _ => true) true Tryd.f6.params.toList args.toList ds p := hA0
  rw [Tryd.params6] at hA hval
  obtain ⟨v0, vs0, d0, ds0, p0, q0, hargs, rfl, rfl, h0, r0⟩ := trodAll_cons hA
  obtain ⟨v1, vs1, d1, ds1, p1, q1, rfl, rfl, rfl, h1, r1⟩ := trodAll_cons r0
  obtain ⟨v2, vs2, d2, ds2, p2, q2, rfl, rfl, rfl, h2, r2⟩ := trodAll_cons r1
  obtain ⟨rfl, rfl, rfl⟩ := trodAll_nil r2
  obtain rfl : args = #[v0, v1, v2] := by cases args; simp_all
  obtain ⟨rfl, rfl⟩ := trodVars_none hV
  obtain ⟨a0, l0, c0, rfl⟩ := okWide_slice Tryd.underlying22 (hval 0 22 v0 rfl rfl)
  have k0 := h0
  have lt0 : ∀ x ∈ p0, x.block < W.heap.size := by obtain ⟨m, hm⟩ := k0; exact DataW.trod_lt m _ _ _ hm
  obtain ⟨z0, w0⟩ : ∃ zs, Bs W a0 l0 c0 zs := by
    obtain ⟨fuel, hf⟩ := h0
    exact bs_open (by simpa [Value.cells] using hf)
  obtain ⟨s1, rfl, rfl, rfl, w1⟩ := open_string Tryd.underlying9 (hval 1 9 v1 rfl rfl) h1
  obtain ⟨z1, rfl, hz1⟩ := str_nums s1
  obtain ⟨x2, rfl, rfl, rfl, w2⟩ := open_int Tryd.underlying32 (hval 2 32 v2 rfl rfl) h2
  clear hA0 hval0
  refine (walk a0 l0 c0 _ z1 x2 W (table hL) w0 hz1 (bounds_u64 w2)).mono fun e W' ⟨he, bel⟩ => ?_
  subst he
  exact ⟨_, rfl, _, _, _, [], _, [], hW', trodAll_mk1 (shut_bool Tryd.underlying4 _), (trodAll_cons_mk (Below.trod laidOut (by kernel_rfl) (of_decide_eq_true (by kernel_rfl)) k0 bel lt0) (trodAll_cons_mk (shut_string Tryd.underlying9 w1) (trodAll_cons_mk (shut_int Tryd.underlying32 w2) trodAll_mk0))), rfl, bel.frame _, fun h => by cases h⟩

theorem laid_met (os : Os) : laidMet Tryd.prog Rows.quoteBackRow.laid ((laidWorld os).forCall (fun _ _ => 0) ⟨#[], #[.slice none 0 0, .string ByteArray.empty, .int .u64 0], []⟩).memory :=
  laidMet_of_run' 8 (by kernel_rfl) (by kernel_rfl)

theorem reads (os : Os) {H : Type} (enc : TypeId × Value → H) : ∃ places, DataW.whole enc Tryd.prog ((laidWorld os).forCall (fun _ _ => 0) ⟨#[], #[.slice none 0 0, .string ByteArray.empty, .int .u64 0], []⟩).memory Tryd.f6.params.toList Rows.quoteBackSpec.vars false (#[.slice none 0 0, .string ByteArray.empty, .int .u64 0] : Array Value).toList 8 = some ([.nil, .lit (.string []), .lit (.int .u64 0)], [], places) :=
  ⟨[], by kernel_rfl⟩

set_option maxRecDepth 100000 in
theorem lifted (os : Os) (started : os.Started) (H : Type) (enc : TypeId × Value → H) (F : Stop.Interp) :
    ReturnsInHanded {} Tryd.checked os 6 .any ((OpenSpec.ofChange Rows.quoteBackSpec).preRow enc Tryd.prog Tryd.f6 Rows.quoteBackRow.domain false Rows.quoteBackRow.laid) (((OpenSpec.ofChange Rows.quoteBackSpec).at F).post enc Tryd.prog Tryd.f6 false true false false) := by
  obtain ⟨places, hx⟩ := reads os enc
  refine returnsInHanded_of_row (C := Tryd.checked) (s := OpenSpec.ofChange Rows.quoteBackSpec) own started (by kernel_rfl) Tryd.func6
    (witness_row_at (enc := enc) (C := Tryd.checked) false (laidWorld os) #[.slice none 0 0, .string ByteArray.empty, .int .u64 0] rfl (by kernel_rfl) (by kernel_rfl) (by kernel_rfl)
      (OpenSpec.preRow_of_cond 8 hx (by kernel_rfl) (fun k hk => by cases hk) (by kernel_rfl) (laid_met os))) ?_
  intro W base args ds gs before hval hW _ _ _ hL _ _
  exact contract H enc W base args ds gs before hval hW hL

theorem said : Rows.QuoteBackSaid :=
  OpenClaim.holds_of_cond 6 Tryd.f6 rfl rfl rfl rfl rfl rfl rfl ⟨rfl, rfl, rfl, rfl, rfl⟩ rfl rfl rfl rfl rfl (by kernel_rfl) Tryd.func6 (by kernel_rfl)
    (of_decide_eq_true (by kernel_rfl)) (by unfold Func.isWrapper; first | (rw [if_pos (by decide +kernel)]; kernel_rfl) | (rw [if_neg (by decide +kernel)]; exact ⟨rfl, rfl⟩))
    (fun os started H enc _ F => by rw [OpenClaim.pre_eq_preRow]; exact lifted os started H enc F)

/-- No parameter wants a stand-in; the program's own looks are off: what the card asks. -/
theorem plain (f : FuncId) (fn : Func) (hf : Tryd.pinned.checked.prog.funcNamed "glossary/glossarylaw04.QuoteBack" = some f) (hfn : Tryd.pinned.checked.prog.funcs[f]? = some fn) :
    false = Tryd.pinned.checked.prog.looks [] ∧ ∀ (j : Nat) t, fn.params[j]? = some t → Tryd.pinned.checked.prog.wantsStandIn t = false := by
  obtain rfl : f = 6 := Option.some.inj ((show Tryd.prog.funcNamed "glossary/glossarylaw04.QuoteBack" = some 6 by kernel_rfl).symm.trans hf) |>.symm
  obtain rfl : fn = Tryd.f6 := (Option.some.inj (Tryd.func6.symm.trans hfn)).symm
  refine ⟨by kernel_rfl, fun j t ht => ?_⟩
  rw [Tryd.params6] at ht
  have hm := Array.mem_of_getElem? ht
  simp only [List.mem_toArray, List.mem_cons, List.not_mem_nil, or_false] at hm
  rcases hm with rfl | rfl | rfl
  · exact (show Tryd.prog.wantsStandIn 22 = false by kernel_rfl)
  · exact (show Tryd.prog.wantsStandIn 9 = false by kernel_rfl)
  · exact (show Tryd.prog.wantsStandIn 32 = false by kernel_rfl)

end Go.Proofs.YtilcaihfoelapaaDoor.quoteBack
namespace Go.Proofs.YtilcaihfoelapaaDoor
theorem quoteBack_holds : Rows.QuoteBackCardSaid :=
  Claim7.holds_tied_plain_at .later [] _ _ _ _ quoteBack.said (fun _ h => by cases h) (by kernel_rfl) (fun _ h => by cases h) quoteBack_row_tie rfl ⟨rfl, rfl⟩ (by kernel_rfl) rfl quoteBack.plain (by kernel_rfl)
#print axioms quoteBack_holds
end Go.Proofs.YtilcaihfoelapaaDoor
