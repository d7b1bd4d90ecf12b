/- LexBack, proved for every text: comments ahead of a name are its own; no condition. -/
import Derived.Test.YtjkcmcefmciinaaDoorCards
import Derived.Test.YtjkcmcefmciinaaDoorTie
import Derived.Test.YtjkcmcefmciinaaDoorLAwake
import Derived.Deep.RegionWith
import Derived.Test.YtjkcmcefmciinaaDoorLBack
import Derived.ProofKit
import Derived.OpenShut
import Derived.ShutString
import Derived.ChangeOld
import Derived.Below
import Derived.Deep.DeepHandedRow
import Derived.Lib.LaidTab
import Derived.Stop.LaidErr
import Derived.Shelf.Vars
namespace Go.Proofs.YtjkcmcefmciinaaDoor.lexBack
open Go.ChangeShapes Go.WideShapes Go.ChangeAt Go.RowKit
open Go.ChangeMaps (open_string shut_string)
set_option linter.unusedVariables false

theorem own : ownKnob Tryd.prog.godebug = none := by kernel_rfl
theorem laidOut : laidOutB Tryd.prog = true := by kernel_rfl

theorem gHd : Tryd.prog.globalNamed "glossary/utf.heads" = some 1 := by kernel_rfl
theorem gHdT : (Tryd.prog.globals[1]?).map (·.type) = some 90 := by kernel_rfl

/-- WHAT THE ROW's LIST AND THE WORLD's SHAPE GIVE: the table's cells hold its numbers; internal/bytealg.MaxLen holds some number. -/
theorem table {W : World} (h : laidMetH Tryd.prog Rows.lexBackRow.laid W) (hs : W.ShapedOpen Tryd.prog) : LTab W := by
  refine ⟨?_, cell_of_shapedOpen_int (zero := #[.int .i64 0]) (t := 3) hs (of_decide_eq_true (by kernel_rfl)) (by kernel_rfl) rfl (by kernel_rfl) (by kernel_rfl) Tryd.underlying3⟩
  have h2 : Lib.TabIs Tryd.prog W "glossary/utf.heads" .u8 [0, 0, 192, 224, 240] := Lib.tabIs_of_head (rest := []) gHd gHdT Tryd.underlying90 Tryd.underlying5 (by kernel_rfl) (by kernel_rfl) h
  exact fun i hi => h2.cell gHd i hi

/-- A WORLD FOR THE WITNESS: the settled one, the table holding what its initialiser lays. -/
def layCells (xs : Array Value) : Obj → Obj
  | .cells _ t frozen => .cells xs t frozen
  | o => o
noncomputable def laidWorld (os : Os) : World :=
  { World.holding Tryd.prog os ⟨#[], #[], []⟩ with heap := (World.holding Tryd.prog os ⟨#[], #[], []⟩).heap.modify 1 (layCells (([0, 0, 192, 224, 240] : List Int).map fun z => Value.int .u8 z).toArray) }

theorem last_of (l : List Int) (h : l ≠ []) : l.getLast? = some (l.getD (l.length - 1) 0) := by
  rw [List.getLast?_eq_getElem?, List.getD]
  have hl : 0 < l.length := List.length_pos_iff.2 h
  rw [List.getElem?_eq_getElem (by omega)]
  rfl

theorem ldcs_len : ∀ (t l : List Int), (ldcs l t).length ≤ l.length + 3 * t.length + 3
  | [], [] => by simp [ldcs]
  | [], c :: l => by simp [ldcs]
  | c :: r, l => by
    rw [ldcs]
    split
    · have := ldcs_len r []
      simp only [List.length_append, List.length_cons, List.length_nil] at this ⊢
      omega
    · have := ldcs_len r (l ++ [c])
      simp only [List.length_append, List.length_cons, List.length_nil] at this ⊢
      omega

theorem ldcs_bd : ∀ (t l : List Int), (∀ c ∈ t, 0 ≤ c ∧ c ≤ 255) → (∀ c ∈ l, 0 ≤ c ∧ c ≤ 255) → ∀ c ∈ ldcs l t, 0 ≤ c ∧ c ≤ 255
  | [], [], _, _ => by simp [ldcs]
  | [], x :: l, _, h2 => by
    intro c hc
    rw [ldcs] at hc
    rcases List.mem_append.1 hc with hc | hc
    · rcases List.mem_append.1 hc with hc | hc
      · simp only [List.mem_cons, List.not_mem_nil, or_false] at hc; omega
      · exact h2 c hc
    · simp only [List.mem_cons, List.not_mem_nil, or_false] at hc; omega
    · simp
  | y :: r, l, h1, h2 => by
    rw [ldcs]
    split
    · intro c hc
      rcases List.mem_append.1 hc with hc | hc
      · simp only [List.mem_append, List.mem_cons, List.not_mem_nil, or_false] at hc
        rcases hc with ((rfl | rfl) | hc) | rfl
        all_goals first | omega | exact h2 c hc
      · exact ldcs_bd r [] (fun c hc => h1 c (by simp [hc])) (by simp) c hc
    · exact ldcs_bd r (l ++ [y]) (fun c hc => h1 c (by simp [hc])) (fun c hc => (List.mem_append.1 hc).elim (h2 c) (fun hc => by simp at hc; subst hc; exact h1 c (by simp)))

set_option maxRecDepth 100000 in
set_option maxHeartbeats 1000000 in
theorem walk (z0 : List Int) (w : World) (hT : Hid (LTab w)) (hz0 : Hid (∀ i, 0 ≤ z0.getD i 0 ∧ z0.getD i 0 ≤ 255)) :
    Calls Tryd.prog 6 #[.string (strOfNums z0)] w fun e w' => e = .returned (.bool true) ∧ Below w.heap.size w w' := by
  have hsz := strOfNums_size z0
  by_cases hbig : 500 < z0.length
  · have hbig' : (500 : Int) < (z0.length : Int) := by omega
    generalize strOfNums z0 = S at hsz
    go_enter Tryd.func6, Tryd.ntmps6
    go_wp2_with fail
    refine (lawake_any _ hT).mono ?_
    rintro e w1 ⟨rfl, hbb1⟩
    go_wp2
    go_ret
    exact ⟨rfl, hbb1⟩
  have hbig' : ¬ (500 : Int) < (z0.length : Int) := by omega
  by_cases hnil : z0 = []
  · have hne : ((strOfNums z0).toList == []) = true := by rw [hnil, str_list]; rfl
    have hz : z0.length = 0 := by rw [hnil]; rfl
    have hbk := lscan_back z0 (.inl hnil) (by have := ldcs_len z0 []; simp only [ldocs, List.length_append, List.length_nil, lname, List.length_cons] at this ⊢; omega)
    have hdl : (ldocs z0).length ≤ 2000 := by have := ldcs_len z0 []; simp only [ldocs, List.length_nil] at this ⊢; omega
    have hdb : ∀ c ∈ ldocs z0 ++ lname, 0 ≤ c ∧ c ≤ 255 := fun c hc => (List.mem_append.1 hc).elim (ldcs_bd z0 [] (mem_bd hz0.out) (by simp) c) (fun hc => by simp only [lname, List.mem_cons, List.not_mem_nil, or_false] at hc; omega)
    have q := fun W (hB : Below w.heap.size w W) => pdocs_any z0 W (hT.out.below hB (Nat.le_refl _)) hz0 (by omega)
    have p := fun W (hB : Below w.heap.size w W) => pscan_any (ldocs z0 ++ lname) W (hT.out.below hB (Nat.le_refl _)) (getD_bd hdb) (by simp only [List.length_append, lname, List.length_cons, List.length_nil]; omega)
    rw [hbk] at p
    have hadd : ∀ W, (Op.stringOp .add (strOfNums (ldocs z0)) { data := #[110, 97, 109, 101] }).run Tryd.prog W = .ok (.string (strOfNums (ldocs z0 ++ lname))) W := fun W => run_add W (ldocs z0) lname (by simp only [lname, List.length_cons, List.length_nil]; omega)
    clear hbk hdb
    generalize strOfNums (ldocs z0 ++ lname) = SN at p hadd
    generalize (ldocs z0 ++ lname).length = N at p
    generalize (ldocs z0).length = M at p hdl
    generalize strOfNums (ldocs z0) = SD at q hadd
    have Q : Hid _ := q
    have P : Hid _ := p
    clear q p
    clear hnil
    go_enter Tryd.func6, Tryd.ntmps6
    go_wp2_with fail
    refine (lawake_any _ hT).mono ?_
    rintro e w1 ⟨rfl, hbb1⟩
    go_wp2_with fail
    refine Calls.mono (Q.out _ hbb1) ?_
    rintro e w2 ⟨rfl, hb2⟩
    have HB2 : Hid (Below w.heap.size w w2) := hbb1.trans (hb2.mono hbb1.size)
    clear hb2
    go_wp2_with fail
    refine Calls.mono (P.out _ HB2.out) ?_
    rintro e w3 ⟨v3, rfl, hto, hb3⟩
    have HB3 : Hid (Below w.heap.size w w3) := HB2.out.trans (hb3.mono HB2.out.size)
    obtain ⟨g, c, rfl⟩ := own_pos hto.1 (by simp)
    have c1 := hto.1.cellAt 1 (by simp)
    have c4 := hto.1.cellAt 4 (by simp)
    have c9 := hto.1.cellAt 9 (by simp)
    change w3.cell? ⟨g, 1, none⟩ = some (.string { data := #[110, 97, 109, 101] }) at c1
    change w3.cell? ⟨g, 4, none⟩ = some (.string (strOfNums z0)) at c4
    change w3.cell? ⟨g, 9, none⟩ = some (.string { data := #[] }) at c9
    simp only [List.length_cons, List.length_nil]
    clear hto hb3
    go_wp2
    go_ret
    exact ⟨by simp, HB3.out⟩
  · have hp : 0 < z0.length := List.length_pos_iff.2 hnil
    have hne : ((strOfNums z0).toList == []) = false := by cases z0 with | nil => exact absurd rfl hnil | cons a b => exact str_ne a b
    obtain ⟨L, hL⟩ : ∃ L, z0.length = L + 1 := ⟨z0.length - 1, by omega⟩
    have hbig2 : ¬ (500 : Int) < (L : Int) + 1 := by omega
    rw [hL] at hsz
    have hat := str_at z0 hz0.out L (by rw [hsz]; omega)
    have hla := last_of z0 hnil
    rw [show z0.length - 1 = L by omega] at hla
    clear hbig'
    by_cases h10 : z0.getD L 0 = 10
    · rw [h10] at hat hla
      have hbk := lscan_back z0 (.inr hla) (by have := ldcs_len z0 []; simp only [ldocs, List.length_append, List.length_nil, lname, List.length_cons] at this ⊢; omega)
      have hdl : (ldocs z0).length ≤ 2000 := by have := ldcs_len z0 []; simp only [ldocs, List.length_nil] at this ⊢; omega
      have hdb : ∀ c ∈ ldocs z0 ++ lname, 0 ≤ c ∧ c ≤ 255 := fun c hc => (List.mem_append.1 hc).elim (ldcs_bd z0 [] (mem_bd hz0.out) (by simp) c) (fun hc => by simp only [lname, List.mem_cons, List.not_mem_nil, or_false] at hc; omega)
      have q := fun W (hB : Below w.heap.size w W) => pdocs_any z0 W (hT.out.below hB (Nat.le_refl _)) hz0 (by omega)
      have p := fun W (hB : Below w.heap.size w W) => pscan_any (ldocs z0 ++ lname) W (hT.out.below hB (Nat.le_refl _)) (getD_bd hdb) (by simp only [List.length_append, lname, List.length_cons, List.length_nil]; omega)
      rw [hbk] at p
      have hadd : ∀ W, (Op.stringOp .add (strOfNums (ldocs z0)) { data := #[110, 97, 109, 101] }).run Tryd.prog W = .ok (.string (strOfNums (ldocs z0 ++ lname))) W := fun W => run_add W (ldocs z0) lname (by simp only [lname, List.length_cons, List.length_nil]; omega)
      clear hbk hdb
      generalize strOfNums (ldocs z0 ++ lname) = SN at p hadd
      generalize (ldocs z0 ++ lname).length = N at p
      generalize (ldocs z0).length = M at p hdl
      generalize strOfNums (ldocs z0) = SD at q hadd
      have Q : Hid _ := q
      have P : Hid _ := p
      clear q p
      clear hla h10
      go_enter Tryd.func6, Tryd.ntmps6
      go_wp2_with fail
      refine (lawake_any _ hT).mono ?_
      rintro e w1 ⟨rfl, hbb1⟩
      go_wp2_with fail
      refine Calls.mono (Q.out _ hbb1) ?_
      rintro e w2 ⟨rfl, hb2⟩
      have HB2 : Hid (Below w.heap.size w w2) := hbb1.trans (hb2.mono hbb1.size)
      clear hb2
      go_wp2_with fail
      refine Calls.mono (P.out _ HB2.out) ?_
      rintro e w3 ⟨v3, rfl, hto, hb3⟩
      have HB3 : Hid (Below w.heap.size w w3) := HB2.out.trans (hb3.mono HB2.out.size)
      obtain ⟨g, c, rfl⟩ := own_pos hto.1 (by simp)
      have c1 := hto.1.cellAt 1 (by simp)
      have c4 := hto.1.cellAt 4 (by simp)
      have c9 := hto.1.cellAt 9 (by simp)
      change w3.cell? ⟨g, 1, none⟩ = some (.string { data := #[110, 97, 109, 101] }) at c1
      change w3.cell? ⟨g, 4, none⟩ = some (.string (strOfNums z0)) at c4
      change w3.cell? ⟨g, 9, none⟩ = some (.string { data := #[] }) at c9
      simp only [List.length_cons, List.length_nil]
      clear hto hb3
      go_wp2
      go_ret
      exact ⟨by simp, HB3.out⟩
    · generalize z0.getD L 0 = c at hat h10
      have e10 : (c != 10) = true := by simpa using h10
      generalize strOfNums z0 = S at hsz hat hne
      go_enter Tryd.func6, Tryd.ntmps6
      go_wp2_with fail
      refine (lawake_any _ hT).mono ?_
      rintro e w1 ⟨rfl, hbb1⟩
      go_wp2
      go_ret
      exact ⟨rfl, hbb1⟩

theorem contract (H : Type) (enc : TypeId × Value → H) (W : World) (base : Nat) (args : Array Value) (ds gs : List (DataW H)) (before : List MemPlace)
    (hval0 : ∀ (j : Nat) t v, Tryd.f6.params[j]? = some t → args[j]? = some v → Value.okWide Tryd.prog W .any base t v)
    (hW : DataW.Whole enc Tryd.prog Tryd.f6.params.toList Rows.lexBackSpec.vars false W args.toList ds gs before) (hL : laidMetH Tryd.prog Rows.lexBackRow.laid W) (hsh : W.ShapedOpen Tryd.prog) :
    Calls Tryd.prog 6 args W fun e W' => ∃ v, e = .returned v ∧ Rows.lexBackSpec.post enc Tryd.prog Tryd.f6 false true false false W args v W' := by
  have hval : ∀ (j : Nat) t v, Tryd.f6.params[j]? = some t → args[j]? = some v → Value.okWide Tryd.prog W .any base t v := hval0
  have hW' := hW
  obtain ⟨p, q, hA0, hV, rfl, hfz, hnd⟩ := hW
  have hA : DataW.TrodAll enc Tryd.prog W 0 (fun _ => true) true Tryd.f6.params.toList args.toList ds p := hA0
  rw [Tryd.params6] at hA hval
  obtain ⟨v0, vs0, d0, ds0, p0, q0, hargs, rfl, rfl, h0, r0⟩ := trodAll_cons hA
  obtain ⟨rfl, rfl, rfl⟩ := trodAll_nil r0
  obtain rfl : args = #[v0] := by cases args; simp_all
  obtain ⟨rfl, rfl⟩ := trodVars_none hV
  obtain ⟨s0, rfl, rfl, rfl, w0⟩ := open_string Tryd.underlying9 (hval 0 9 v0 rfl rfl) h0
  obtain ⟨z0, rfl, hz0⟩ := str_nums s0
  clear hA0 hval0
  refine (walk z0 W (table hL hsh) hz0).mono fun e W' ⟨he, bel⟩ => ?_
  subst he
  exact ⟨_, rfl, _, _, _, [], _, [], hW', trodAll_mk1 (shut_bool Tryd.underlying4 _), (trodAll_cons_mk (shut_string Tryd.underlying9 w0) trodAll_mk0), rfl, bel.frame _, fun h => by cases h⟩

theorem laid_met (os : Os) : laidMet Tryd.prog Rows.lexBackRow.laid ((laidWorld os).forCall (fun _ _ => 0) ⟨#[], #[.string ByteArray.empty], []⟩).memory :=
  laidMet_of_run' 8 (by kernel_rfl) (by kernel_rfl)

theorem reads (os : Os) {H : Type} (enc : TypeId × Value → H) : ∃ places, DataW.whole enc Tryd.prog ((laidWorld os).forCall (fun _ _ => 0) ⟨#[], #[.string ByteArray.empty], []⟩).memory Tryd.f6.params.toList Rows.lexBackSpec.vars false (#[.string ByteArray.empty] : Array Value).toList 8 = some ([.lit (.string [])], [], places) :=
  ⟨[], by kernel_rfl⟩

set_option maxRecDepth 100000 in
theorem lifted (os : Os) (started : os.Started) (H : Type) (enc : TypeId × Value → H) (F : Stop.Interp) :
    ReturnsInHanded {} Tryd.checked os 6 .any ((OpenSpec.ofChange Rows.lexBackSpec).preRow enc Tryd.prog Tryd.f6 Rows.lexBackRow.domain false Rows.lexBackRow.laid) (((OpenSpec.ofChange Rows.lexBackSpec).at F).post enc Tryd.prog Tryd.f6 false true false false) := by
  obtain ⟨places, hx⟩ := reads os enc
  refine returnsInHanded_of_row (C := Tryd.checked) (s := OpenSpec.ofChange Rows.lexBackSpec) own started (by kernel_rfl) Tryd.func6
    (witness_row_at (enc := enc) (C := Tryd.checked) false (laidWorld os) #[.string ByteArray.empty] rfl (by kernel_rfl) (by kernel_rfl) (by kernel_rfl)
      (OpenSpec.preRow_of_cond 8 hx (by kernel_rfl) (fun k hk => by cases hk) (by kernel_rfl) (laid_met os))) ?_
  intro W base args ds gs before hval hW _ _ _ hL hsh _
  exact contract H enc W base args ds gs before hval hW hL hsh

theorem said : Rows.LexBackSaid :=
  OpenClaim.holds_of_cond 6 Tryd.f6 rfl rfl rfl rfl rfl rfl rfl ⟨rfl, rfl, rfl, rfl, rfl⟩ rfl rfl rfl rfl rfl (by kernel_rfl) Tryd.func6 (by kernel_rfl)
    (of_decide_eq_true (by kernel_rfl)) (by unfold Func.isWrapper; first | (rw [if_pos (by decide +kernel)]; kernel_rfl) | (rw [if_neg (by decide +kernel)]; exact ⟨rfl, rfl⟩))
    (fun os started H enc _ F => by rw [OpenClaim.pre_eq_preRow]; exact lifted os started H enc F)

/-- No parameter wants a stand-in; the program's own looks are off: what the card asks. -/
theorem plain (f : FuncId) (fn : Func) (hf : Tryd.pinned.checked.prog.funcNamed "glossary/glossarylaw05.LexBack" = some f) (hfn : Tryd.pinned.checked.prog.funcs[f]? = some fn) :
    false = Tryd.pinned.checked.prog.looks [] ∧ ∀ (j : Nat) t, fn.params[j]? = some t → Tryd.pinned.checked.prog.wantsStandIn t = false := by
  obtain rfl : f = 6 := Option.some.inj ((show Tryd.prog.funcNamed "glossary/glossarylaw05.LexBack" = some 6 by kernel_rfl).symm.trans hf) |>.symm
  obtain rfl : fn = Tryd.f6 := (Option.some.inj (Tryd.func6.symm.trans hfn)).symm
  refine ⟨by kernel_rfl, fun j t ht => ?_⟩
  rw [Tryd.params6] at ht
  have hm := Array.mem_of_getElem? ht
  simp only [List.mem_toArray, List.mem_cons, List.not_mem_nil, or_false] at hm
  subst hm
  exact (show Tryd.prog.wantsStandIn 9 = false by kernel_rfl)

end Go.Proofs.YtjkcmcefmciinaaDoor.lexBack
namespace Go.Proofs.YtjkcmcefmciinaaDoor
theorem lexBack_holds : Rows.LexBackCardSaid :=
  Claim7.holds_tied_plain_at .later [] _ _ _ _ lexBack.said (fun _ h => by cases h) (by kernel_rfl) (fun _ h => by cases h) lexBack_row_tie rfl ⟨rfl, rfl⟩ (by kernel_rfl) rfl lexBack.plain (by kernel_rfl)
#print axioms lexBack_holds
end Go.Proofs.YtjkcmcefmciinaaDoor
