/- QuoteJoined, proved for all bytes: two texts of bytes are quoted as one; no condition. -/
import Derived.Test.YtilcaihfoelapabDoorCards
import Derived.Test.YtilcaihfoelapabDoorTie
import Derived.Test.YtilcaihfoelapabDoorQAwake
import Derived.Deep.RegionWith
import Derived.Deep.RegionHeld3
import Derived.WalkSmall
import Derived.ProofKit
import Derived.OpenShut
import Derived.ShutString
import Derived.ChangeOld
import Derived.Below
import Derived.Deep.DeepHandedRow
import Derived.Lib.LaidTab
import Derived.Stop.LaidErr
namespace Go.Proofs.YtilcaihfoelapabDoor.quoteJoined
open Go.ChangeShapes Go.WideShapes Go.ChangeAt Go.RowKit
open Go.ChangeMaps (open_string shut_string)
set_option linter.unusedVariables false

theorem own : ownKnob Tryd.prog.godebug = none := by kernel_rfl
theorem laidOut : laidOutB Tryd.prog = true := by kernel_rfl

theorem gHd : Tryd.prog.globalNamed "glossary/utf.heads" = some 0 := by kernel_rfl
theorem gHdT : (Tryd.prog.globals[0]?).map (·.type) = some 48 := by kernel_rfl

/-- WHAT THE ROW's LIST GIVES: the table's cells hold its numbers. -/
theorem table {W : World} (h : laidMetH Tryd.prog Rows.quoteJoinedRow.laid W) : QTab W := by
  have h2 : Lib.TabIs Tryd.prog W "glossary/utf.heads" .u8 [0, 0, 192, 224, 240] := Lib.tabIs_of_head (rest := []) gHd gHdT Tryd.underlying48 Tryd.underlying5 (by kernel_rfl) (by kernel_rfl) h
  exact fun i hi => h2.cell gHd i hi

/-- A WORLD FOR THE WITNESS: the settled one, the table holding what its initialiser lays. -/
def layCells (xs : Array Value) : Obj → Obj
  | .cells _ t frozen => .cells xs t frozen
  | o => o
noncomputable def laidWorld (os : Os) : World :=
  { World.holding Tryd.prog os ⟨#[], #[], []⟩ with heap := (World.holding Tryd.prog os ⟨#[], #[], []⟩).heap.modify 0 (layCells (([0, 0, 192, 224, 240] : List Int).map fun z => Value.int .u8 z).toArray) }

/-- The append under a guard that says yes. -/
theorem step_append_bsg {w : World} {ops : Array Oper} {o : Oper} {f : Act} {K : Act → World → Prop} {Q : Exit → Act → World → Prop} {E : Prop} (hw : Region.wanted o (yielded ops f.tmps) = true) (s x : Operand)
    (ho : o.op = .call { callee := .builtin .append, args := #[s, x], argTypes := #[22, 22] }) (base : Nat) (v : Value) (n : Nat) (xs : List Value) (a : Option Addr) (len cap : Nat) (zs : List Int)
    (hs : f.eval s = v) (hx : f.eval x = .slice a len cap) (hown : w.ownsRow base 5 1 v n xs) (hbs : Bs w a len cap zs) (hn : n + len ≤ 140737488355328) (hbase : base ≤ w.heap.size)
    (h : ∀ v' w', w'.ownsRow base 5 1 v' (n + len) (xs ++ zs.map (Value.int .u8)) → w.grownBy w' v.ownBlock → K (f.put o.dst v') w') :
    if Region.wanted o (yielded ops f.tmps) = true then Oper.wp Tryd.prog o f w K Q else E := by
  rw [if_pos hw]
  exact wp_append_bs s x ho base v n xs a len cap zs hs hx hown hbs hn hbase h

set_option maxHeartbeats 2000000 in
theorem walk (a0 : Option Addr) (l0 c0 : Nat) (z0 : List Int) (a1 : Option Addr) (l1 c1 : Nat) (z1 : List Int) (w : World) (hT : Hid (QTab w)) (hb0 : Hid (Bs w a0 l0 c0 z0)) (hb1 : Hid (Bs w a1 l1 c1 z1)) :
    Calls Tryd.prog 3 #[.slice a0 l0 c0, .slice a1 l1 c1] w fun e w' => e = .returned (.bool true) ∧ Below w.heap.size w w' := by
  have hll := hb0.out.2.1
  have hll1 := hb1.out.2.1
  by_cases hbig : 300 < l0
  · have hbig' : (300 : Int) < (l0 : Int) := by omega
    go_enter Tryd.func3, Tryd.ntmps3
    go_wp2_with fail
    refine (qawake_any _ hT).mono ?_
    rintro e w1 ⟨rfl, hbb1⟩
    go_wp2
    go_ret
    exact ⟨rfl, hbb1⟩
  have hbig' : ¬ (300 : Int) < (l0 : Int) := by omega
  by_cases hbg : 300 < l1
  · have hbg' : (300 : Int) < (l1 : Int) := by omega
    go_enter Tryd.func3, Tryd.ntmps3
    go_wp2_with fail
    refine (qawake_any _ hT).mono ?_
    rintro e w1 ⟨rfl, hbb1⟩
    go_wp2
    go_ret
    exact ⟨rfl, hbb1⟩
  have hbg' : ¬ (300 : Int) < (l1 : Int) := by omega
  have q := fun W (hB : Below w.heap.size w W) => ptext_bs (w := W) (a := a0) (len := l0) (cap := c0) (zs := z0) (hb0.out.below hB (Nat.le_refl _)) (by omega)
  have p := fun W (hB : Below w.heap.size w W) => ptext_bs (w := W) (a := a1) (len := l1) (cap := c1) (zs := z1) (hb1.out.below hB (Nat.le_refl _)) (by omega)
  have hXl : (qtext z0).length ≤ 2002 := by rw [qtext_len]; have := flat_len z0; have := hb0.out.1; omega
  have hYl : (qtext z1).length ≤ 2002 := by rw [qtext_len]; have := flat_len z1; have := hb1.out.1; omega
  have hX2 : 2 ≤ (qtext z0).length := by rw [qtext_len]; omega
  have hY2 : 2 ≤ (qtext z1).length := by rw [qtext_len]; omega
  have HJ : Hid (qtext (z0 ++ z1) = (qtext z0).take ((qtext z0).length - 1) ++ (qtext z1).drop 1) := qtext_append z0 z1
  have hsx := strOfNums_size (qtext z0)
  have hsy := strOfNums_size (qtext z1)
  have hex : (strOfNums (qtext z0)).extract 0 ((qtext z0).length - 1) = strOfNums ((qtext z0).take ((qtext z0).length - 1)) := by rw [str_cut]; simp
  have hey : (strOfNums (qtext z1)).extract 1 (qtext z1).length = strOfNums ((qtext z1).drop 1) := by rw [str_cut, List.take_of_length_le (by simp)]
  have hadd := fun W => run_add W ((qtext z0).take ((qtext z0).length - 1)) ((qtext z1).drop 1) (by simp only [List.length_take, List.length_drop]; omega)
  rw [← HJ.out] at hadd
  generalize qtext z0 = X at q hXl hX2 HJ hsx hex hadd
  generalize qtext z1 = Y at p hYl hY2 HJ hsy hey hadd
  generalize strOfNums (X.take (X.length - 1)) = SX1 at hex hadd
  generalize strOfNums (Y.drop 1) = SY1 at hey hadd
  generalize strOfNums X = SX at q hsx hex
  generalize strOfNums Y = SY at p hsy hey
  clear HJ
  have hsl : ∀ W, (Instr.slice 9 (.string SX) none (some (.int .i64 ((X.length : Int) - 1))) none).run Tryd.prog W = .ok (.string SX1) W := fun W => by
    rw [run_slice_string_h W 9 SX Tryd.underlying9 .i64 ((X.length : Int) - 1) (by omega) (by rw [hsx]; omega), show ((X.length : Int) - 1).toNat = X.length - 1 by omega, hex]
  have Q : Hid _ := q
  have P : Hid _ := p
  clear q p
  go_enter Tryd.func3, Tryd.ntmps3
  go_wp2_with fail
  refine (qawake_any _ hT).mono ?_
  rintro e w1 ⟨rfl, hbb1⟩
  go_wp2_with fail
  refine Calls.mono (Q.out _ hbb1) ?_
  rintro e w2 ⟨rfl, hb2⟩
  have HB2 : Hid (Below w.heap.size w w2) := hbb1.trans (hb2.mono hbb1.size)
  clear hb2
  go_wp2_with fail
  refine Calls.mono (P.out _ HB2.out) ?_
  rintro e w3 ⟨rfl, hb3⟩
  have HB3 : Hid (Below w.heap.size w w3) := HB2.out.trans (hb3.mono HB2.out.size)
  have SZ3 := HB3.out.size
  have BX3 : Hid (Bs w3 a0 l0 c0 z0) := hb0.out.below HB3.out (Nat.le_refl _)
  have BY3 : Hid (Bs w3 a1 l1 c1 z1) := hb1.out.below HB3.out (Nat.le_refl _)
  clear hb3
  have hx2 : (1 : Int) < (X.length : Int) := by omega
  have hy2 : (1 : Int) < (Y.length : Int) := by omega
  have hz0 : (0 : Int) ≤ (X.length : Int) := by omega
  have hs7 : X.length - 1 ≤ X.length := by omega
  have hxm : ((X.length : Int) - 1).toNat = X.length - 1 := by omega
  have hs1 : (0 : Int) ≤ (X.length : Int) - 1 := by omega
  have hs2 : (X.length : Int) - 1 ≤ (X.length : Int) := by omega
  have hs3 : (1 : Int) ≤ (Y.length : Int) := by omega
  have hs4 : IntKind.i64.wrap ((X.length : Int) - 1) = (X.length : Int) - 1 := by rw [IntKind.wrap_i64]; omega
  have hs5 : ¬ (X.length : Int) < (X.length : Int) - 1 := by omega
  have hs6 : ¬ (Y.length : Int) < 1 := by omega
  have hj6 : l0 + l1 ≤ 2000000 := by omega
  go_wp2_with fail
  go_region_held3 (fun _ => True) (trivial) (first
    | (go_at_call 5; refine Calls.mono (ptext_bs B5.out hj6) ?_; rintro e w6 ⟨rfl, hb6⟩; have HB6 : Hid (Below w.heap.size w w6) := HB5.out.trans (hb6.mono HB5.out.size))
    | (refine step_append_bsg (by rfl) (.const (.slice none 0 0)) (.tmp 30) (by rfl) w3.heap.size _ _ _ _ _ _ z0 (by rfl) (by rfl) (World.ownsRow_nil _ _ _ _) (BX3.out.below (B := w3.heap.size) (below_drewN (Below.refl _ _) 1) (Nat.le_refl _)) (by omega) (by simp) ?_; intro v4 w4 hown4 hgrow4; rw [Nat.zero_add, List.nil_append] at hown4; have hB4 : Below w3.heap.size w3 w4 := (below_drewN (Below.refl _ _) 1).grown hgrow4 (by simp) (fun k hk => by cases hk))
    | (refine step_append_bsg (by rfl) (.tmp 31) (.tmp 32) (by rfl) w3.heap.size _ _ _ _ _ _ z1 (by rfl) (by rfl) hown4 (BY3.out.below hB4 (Nat.le_refl _)) (by omega) hB4.size ?_; intro v5 w5 hown5 hgrow5; rw [← List.map_append] at hown5; have hB5 : Below w3.heap.size w3 w5 := hB4.grown hgrow5 hB4.size (fun k hk => (hown4.lt k hk).1); have HB5 : Hid (Below w.heap.size w w5) := HB3.out.trans (hB5.mono HB3.out.size); obtain ⟨a5, c5, rfl⟩ := own_slice hown5; have B5 : Hid (Bs w5 a5 (l0 + l1) c5 (z0 ++ z1)) := Bs.of_owns hown5 (fun c hc => (List.mem_append.1 hc).elim (BX3.out.mem c) (BY3.out.mem c))))
  all_goals
    go_wp2
    go_ret
    exact ⟨by simp, HB6.out⟩

theorem contract (H : Type) (enc : TypeId × Value → H) (W : World) (base : Nat) (args : Array Value) (ds gs : List (DataW H)) (before : List MemPlace)
    (hval0 : ∀ (j : Nat) t v, Tryd.f3.params[j]? = some t → args[j]? = some v → Value.okWide Tryd.prog W .any base t v)
    (hW : DataW.Whole enc Tryd.prog Tryd.f3.params.toList Rows.quoteJoinedSpec.vars false W args.toList ds gs before) (hL : laidMetH Tryd.prog Rows.quoteJoinedRow.laid W) :
    Calls Tryd.prog 3 args W fun e W' => ∃ v, e = .returned v ∧ Rows.quoteJoinedSpec.post enc Tryd.prog Tryd.f3 false true false false W args v W' := by
  have hval : ∀ (j : Nat) t v, Tryd.f3.params[j]? = some t → args[j]? = some v → Value.okWide Tryd.prog W .any base t v := hval0
  have hW' := hW
  obtain ⟨p, q, hA0, hV, rfl, hfz, hnd⟩ := hW
  have hA : DataW.TrodAll enc Tryd.prog W 0 (fun _ => true) true Tryd.f3.params.toList args.toList ds p := hA0
  rw [Tryd.params3] at hA hval
  obtain ⟨v0, vs0, d0, ds0, p0, q0, hargs, rfl, rfl, h0, r0⟩ := trodAll_cons hA
  obtain ⟨v1, vs1, d1, ds1, p1, q1, rfl, rfl, rfl, h1, r1⟩ := trodAll_cons r0
  obtain ⟨rfl, rfl, rfl⟩ := trodAll_nil r1
  obtain rfl : args = #[v0, v1] := by cases args; simp_all
  obtain ⟨rfl, rfl⟩ := trodVars_none hV
  obtain ⟨a0, l0, c0, rfl⟩ := okWide_slice Tryd.underlying22 (hval 0 22 v0 rfl rfl)
  have k0 := h0
  have lt0 : ∀ x ∈ p0, x.block < W.heap.size := by obtain ⟨m, hm⟩ := k0; exact DataW.trod_lt m _ _ _ hm
  obtain ⟨z0, w0⟩ : ∃ zs, Bs W a0 l0 c0 zs := by
    obtain ⟨fuel, hf⟩ := h0
    exact bs_open (by simpa [Value.cells] using hf)
  obtain ⟨a1, l1, c1, rfl⟩ := okWide_slice Tryd.underlying22 (hval 1 22 v1 rfl rfl)
  have k1 := h1
  have lt1 : ∀ x ∈ p1, x.block < W.heap.size := by obtain ⟨m, hm⟩ := k1; exact DataW.trod_lt m _ _ _ hm
  obtain ⟨z1, w1⟩ : ∃ zs, Bs W a1 l1 c1 zs := by
    obtain ⟨fuel, hf⟩ := h1
    exact bs_open (by simpa [Value.cells] using hf)
  clear hA0 hval0
  refine (walk a0 l0 c0 _ a1 l1 c1 _ W (table hL) w0 w1).mono fun e W' ⟨he, bel⟩ => ?_
  subst he
  exact ⟨_, rfl, _, _, _, [], _, [], hW', trodAll_mk1 (shut_bool Tryd.underlying4 _), (trodAll_cons_mk (Below.trod laidOut (by kernel_rfl) (of_decide_eq_true (by kernel_rfl)) k0 bel lt0) (trodAll_cons_mk (Below.trod laidOut (by kernel_rfl) (of_decide_eq_true (by kernel_rfl)) k1 bel lt1) trodAll_mk0)), rfl, bel.frame _, fun h => by cases h⟩

theorem laid_met (os : Os) : laidMet Tryd.prog Rows.quoteJoinedRow.laid ((laidWorld os).forCall (fun _ _ => 0) ⟨#[], #[.slice none 0 0, .slice none 0 0], []⟩).memory :=
  laidMet_of_run' 8 (by kernel_rfl) (by kernel_rfl)

theorem reads (os : Os) {H : Type} (enc : TypeId × Value → H) : ∃ places, DataW.whole enc Tryd.prog ((laidWorld os).forCall (fun _ _ => 0) ⟨#[], #[.slice none 0 0, .slice none 0 0], []⟩).memory Tryd.f3.params.toList Rows.quoteJoinedSpec.vars false (#[.slice none 0 0, .slice none 0 0] : Array Value).toList 8 = some ([.nil, .nil], [], places) :=
  ⟨[], by kernel_rfl⟩

set_option maxRecDepth 100000 in
theorem lifted (os : Os) (started : os.Started) (H : Type) (enc : TypeId × Value → H) (F : Stop.Interp) :
    ReturnsInHanded {} Tryd.checked os 3 .any ((OpenSpec.ofChange Rows.quoteJoinedSpec).preRow enc Tryd.prog Tryd.f3 Rows.quoteJoinedRow.domain false Rows.quoteJoinedRow.laid) (((OpenSpec.ofChange Rows.quoteJoinedSpec).at F).post enc Tryd.prog Tryd.f3 false true false false) := by
  obtain ⟨places, hx⟩ := reads os enc
  refine returnsInHanded_of_row (C := Tryd.checked) (s := OpenSpec.ofChange Rows.quoteJoinedSpec) own started (by kernel_rfl) Tryd.func3
    (witness_row_at (enc := enc) (C := Tryd.checked) false (laidWorld os) #[.slice none 0 0, .slice none 0 0] rfl (by kernel_rfl) (by kernel_rfl) (by kernel_rfl)
      (OpenSpec.preRow_of_cond 8 hx (by kernel_rfl) (fun k hk => by cases hk) (by kernel_rfl) (laid_met os))) ?_
  intro W base args ds gs before hval hW _ _ _ hL _ _
  exact contract H enc W base args ds gs before hval hW hL

theorem said : Rows.QuoteJoinedSaid :=
  OpenClaim.holds_of_cond 3 Tryd.f3 rfl rfl rfl rfl rfl rfl rfl ⟨rfl, rfl, rfl, rfl, rfl⟩ rfl rfl rfl rfl rfl (by kernel_rfl) Tryd.func3 (by kernel_rfl)
    (of_decide_eq_true (by kernel_rfl)) (by unfold Func.isWrapper; first | (rw [if_pos (by decide +kernel)]; kernel_rfl) | (rw [if_neg (by decide +kernel)]; exact ⟨rfl, rfl⟩))
    (fun os started H enc _ F => by rw [OpenClaim.pre_eq_preRow]; exact lifted os started H enc F)

/-- No parameter wants a stand-in; the program's own looks are off: what the card asks. -/
theorem plain (f : FuncId) (fn : Func) (hf : Tryd.pinned.checked.prog.funcNamed "glossary/glossarylaw04.QuoteJoined" = some f) (hfn : Tryd.pinned.checked.prog.funcs[f]? = some fn) :
    false = Tryd.pinned.checked.prog.looks [] ∧ ∀ (j : Nat) t, fn.params[j]? = some t → Tryd.pinned.checked.prog.wantsStandIn t = false := by
  obtain rfl : f = 3 := Option.some.inj ((show Tryd.prog.funcNamed "glossary/glossarylaw04.QuoteJoined" = some 3 by kernel_rfl).symm.trans hf) |>.symm
  obtain rfl : fn = Tryd.f3 := (Option.some.inj (Tryd.func3.symm.trans hfn)).symm
  refine ⟨by kernel_rfl, fun j t ht => ?_⟩
  rw [Tryd.params3] at ht
  have hm := Array.mem_of_getElem? ht
  simp only [List.mem_toArray, List.mem_cons, List.not_mem_nil, or_false] at hm
  rcases hm with rfl | rfl
  · exact (show Tryd.prog.wantsStandIn 22 = false by kernel_rfl)
  · exact (show Tryd.prog.wantsStandIn 22 = false by kernel_rfl)

end Go.Proofs.YtilcaihfoelapabDoor.quoteJoined
namespace Go.Proofs.YtilcaihfoelapabDoor
theorem quoteJoined_holds : Rows.QuoteJoinedCardSaid :=
  Claim7.holds_tied_plain_at .later [] _ _ _ _ quoteJoined.said (fun _ h => by cases h) (by kernel_rfl) (fun _ h => by cases h) quoteJoined_row_tie rfl ⟨rfl, rfl⟩ (by kernel_rfl) rfl quoteJoined.plain (by kernel_rfl)
#print axioms quoteJoined_holds
end Go.Proofs.YtilcaihfoelapabDoor
