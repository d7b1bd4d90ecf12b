/- Put together by a program out of these texts of mine: CkT, CkM, VCop, VFile, VPut. -/
import Derived.Deep.DeepCutAuto
import Derived.Test.YtcnjjhdmnagkgaaGreatDoorBunC1
import Derived.Test.YtcnjjhdmnagkgaaGreatDoorBunC5
import Derived.Test.YtcnjjhdmnagkgaaGreatDoorBunC7
import Derived.Test.YtcnjjhdmnagkgaaGreatDoorBunC10

namespace Go.Proofs.YtcnjjhdmnagkgaaGreatDoor
open Go.RowKit
set_option linter.unusedVariables false
set_option linter.unusedSimpArgs false

section
variable {P : Program} {ops : Array Oper} {md : Region.Mode} {C : World → Prop}

def waitedF (md : Region.Mode) (ops : Array Oper) (z f : Nat) : Bool :=
  decide (z < ops.size) && (List.range ops.size).all (fun i => match ops[i]? with
    | some o => o.after.all (fun e => !Region.binds md e || decide (e.on < i))
    | none => false) && (List.range z).all (fun k => decide (k < f) || (List.range (z + 1)).any (fun i => match ops[i]? with
    | some o => o.after.any (fun e => Region.binds md e && decide (e.on = k))
    | none => false)) && (List.range ops.size).all (fun i => decide (i ≤ z) || match ops[i]? with
    | some o => o.after.any (fun e => Region.binds md e && decide (z ≤ e.on))
    | none => false)

theorem all_listedF {z f : Nat} (hw : waitedF md ops z f = true) {listed : Array Bool} (hf : ∀ k, k < f → listed.getD k true = true) (h : Dc md ops listed) (hz : z ∈ Region.ready md ops listed) : ∀ k, k < z → listed.getD k true = true := by
  simp only [waitedF, Bool.and_eq_true, decide_eq_true_eq] at hw
  obtain ⟨⟨⟨hsz, hlt⟩, hall⟩, _⟩ := hw
  have key : ∀ d k, k + d = z → d ≠ 0 → listed.getD k true = true := by
    intro d
    induction d using Nat.strongRecOn with
    | _ d ih =>
      intro k hk hd
      by_cases hkf : k < f
      · exact hf k hkf
      have h1 := List.all_eq_true.1 hall k (List.mem_range.2 (by omega))
      rw [decide_eq_false hkf, Bool.false_or] at h1
      obtain ⟨i, hi, h2⟩ := List.any_eq_true.1 h1
      have hi' := List.mem_range.1 hi
      cases ho : ops[i]? with
      | none => rw [ho] at h2; cases h2
      | some o =>
        rw [ho] at h2
        obtain ⟨j, hj, h3⟩ := Array.any_eq_true.1 h2
        rw [Bool.and_eq_true] at h3
        have hon : o.after[j].on = k := of_decide_eq_true h3.2
        have hki : k < i := by
          have h4 := List.all_eq_true.1 hlt i (List.mem_range.2 (by omega))
          rw [ho] at h4
          have h5 := Array.all_eq_true_iff_forall_mem.1 h4 o.after[j] (Array.getElem_mem hj)
          rw [h3.1] at h5
          rw [← hon]
          simpa using h5
        by_cases hiz : i = z
        · subst hiz
          obtain ⟨oz, hoz, _, h5⟩ := ready_true hz
          rw [hoz] at ho
          cases ho
          rw [← hon]
          exact h5 _ (Array.getElem_mem hj) h3.1
        · have h5 := ih (z - i) (by omega) i (by omega) (by omega)
          rw [← hon]
          exact h i o ho h5 _ (Array.getElem_mem hj) h3.1
  intro k hk
  exact key (z - k) k (by omega) (by omega)

theorem first_readyF {z f : Nat} (hw : waitedF md ops z f = true) {listed : Array Bool} (hs : listed.size = ops.size) (hz : listed.getD z true = false) : ∃ k, k ≤ z ∧ k ∈ Region.ready md ops listed ∧ ∀ j, j < k → listed.getD j true = true := by
  simp only [waitedF, Bool.and_eq_true, decide_eq_true_eq] at hw
  obtain ⟨⟨⟨hsz, hlt⟩, _⟩, _⟩ := hw
  have key : ∀ i, i ≤ z → listed.getD i true = false → ∃ k, k ≤ z ∧ k ∈ Region.ready md ops listed ∧ ∀ j, j < k → listed.getD j true = true := by
    intro i
    induction i using Nat.strongRecOn with
    | _ i ih =>
      intro hi hu
      by_cases hall : ∀ j, j < i → listed.getD j true = true
      · have hio : i < ops.size := by omega
        refine ⟨i, hi, mem_ready.2 ⟨hu, ops[i], Array.getElem?_eq_getElem hio, fun e he hb => ?_⟩, hall⟩
        have h4 := List.all_eq_true.1 hlt i (List.mem_range.2 hio)
        rw [Array.getElem?_eq_getElem hio] at h4
        have h5 := Array.all_eq_true_iff_forall_mem.1 h4 e he
        rw [hb] at h5
        have h6 : e.on < i := by simpa using h5
        have := hall e.on h6
        have hl : e.on < listed.size := by omega
        simp [hl] at this ⊢
        exact this
      · obtain ⟨j, hj⟩ := Classical.not_forall.1 hall
        obtain ⟨h1, h2⟩ := Classical.not_imp.1 hj
        exact ih j h1 (by omega) (by simpa using h2)
  exact key z (Nat.le_refl _) hz

theorem wpAny_of_F {z f : Nat} (hw : waitedF md ops z f = true) {E : Act → Prop} {Q : Exit → Act → World → Prop} (hE : ∀ a w, C w → E a → wpAny P md ops Q (ops.size - z) (preL ops.size z) a w) :
    ∀ (fuel : Nat) (listed : Array Bool) (a : Act) (w : World), C w → listed.size = ops.size → (∀ k, k < f → listed.getD k true = true) → (∀ k, z ≤ k → k < ops.size → listed.getD k true = false) → Dc md ops listed → wpAnyZ P md ops C z E fuel listed a → wpAny P md ops Q (fuel + (ops.size - z)) listed a w
  | 0, listed, a, w, hC, hs, hff, hz, hd, h => by
    have hzs : z < ops.size := by simp only [waitedF, Bool.and_eq_true, decide_eq_true_eq] at hw; exact hw.1.1.1
    obtain ⟨k, hkz, hk, hall⟩ := first_readyF hw hs (hz z (Nat.le_refl _) hzs)
    obtain rfl := h.1 k hk
    have e : listed = preL ops.size k := by
      apply Array.ext_getElem?
      intro i
      have e0 : (preL ops.size k)[i]? = (List.replicate k true ++ List.replicate (ops.size - k) false)[i]? := by unfold preL; simp
      rw [e0]
      by_cases hi : i < ops.size
      · have hl : i < listed.size := by omega
        by_cases hik : i < k
        · have := hall i hik
          rw [Array.getD_eq_getD_getElem?, Array.getElem?_eq_getElem hl] at this
          rw [List.getElem?_append_left (by simpa using hik), List.getElem?_replicate, if_pos hik, Array.getElem?_eq_getElem hl]
          simpa using this
        · have := hz i (by omega) hi
          rw [Array.getD_eq_getD_getElem?, Array.getElem?_eq_getElem hl] at this
          rw [List.getElem?_append_right (by simpa using hik), List.length_replicate, List.getElem?_replicate, if_pos (by omega), Array.getElem?_eq_getElem hl]
          simpa using this
      · rw [Array.getElem?_eq_none (by omega), List.getElem?_eq_none (by simp; omega)]
    rw [Nat.zero_add, e]
    exact hE a w hC h.2
  | fuel + 1, listed, a, w, hC, hs, hff, hz, hd, h => by
    have hzs : z < ops.size := by simp only [waitedF, Bool.and_eq_true, decide_eq_true_eq] at hw; exact hw.1.1.1
    rw [Nat.add_right_comm]
    refine ⟨fun h0 => ?_, fun i hi => ?_⟩
    · obtain ⟨k, _, hk, _⟩ := first_readyF hw hs (hz z (Nat.le_refl _) hzs)
      rw [h0] at hk
      cases hk
    · have hio : i < ops.size := by obtain ⟨o, ho, _⟩ := ready_true hi; exact (Array.getElem?_eq_some_iff.1 ho).1
      rcases Nat.lt_trichotomy i z with hiz | hiz | hiz
      · exact wpOp_of_qOp hC (fun a' w' hC' h' => wpAny_of_F hw hE fuel _ a' w' hC' (by simpa using hs) (fun k hk => getD_set_t _ _ _ (hff k hk)) (fun k hk hk2 => by rw [getD_set_ne true (by omega)]; exact hz k hk hk2) (hd.set hi hs) h') (h.2 i hi (by omega))
      · subst hiz
        obtain ⟨k, hk, hk2⟩ := h.1
        have := all_listedF hw hff hd hi k hk
        rw [this] at hk2
        cases hk2
      · exfalso
        have hw4 : (List.range ops.size).all (fun i => decide (i ≤ z) || match ops[i]? with
            | some o => o.after.any (fun e => Region.binds md e && decide (z ≤ e.on))
            | none => false) = true := by simp only [waitedF, Bool.and_eq_true] at hw; exact hw.2
        have h4 := List.all_eq_true.1 hw4 i (List.mem_range.2 hio)
        obtain ⟨o, ho, _, h5⟩ := ready_true hi
        rw [ho] at h4
        have h6 : o.after.any (fun e => Region.binds md e && decide (z ≤ e.on)) = true := by
          rw [Bool.or_eq_true] at h4
          rcases h4 with h4 | h4
          · simp at h4; omega
          · exact h4
        obtain ⟨j, hj, h7⟩ := Array.any_eq_true.1 h6
        rw [Bool.and_eq_true] at h7
        have h8 := h5 _ (Array.getElem_mem hj) h7.1
        have hon : o.after[j].on < i := by
          simp only [waitedF, Bool.and_eq_true] at hw
          have h9 := List.all_eq_true.1 hw.1.1.2 i (List.mem_range.2 hio)
          rw [ho] at h9
          have h10 := Array.all_eq_true_iff_forall_mem.1 h9 o.after[j] (Array.getElem_mem hj)
          rw [h7.1] at h10
          simpa using h10
        have h11 := hz _ (of_decide_eq_true h7.2) (by omega)
        rw [h11] at h8
        cases h8

theorem preL_lo (n z k : Nat) (h : k < z) : (preL n z).getD k true = true := by
  unfold preL
  rw [Array.getD_eq_getD_getElem?, List.getElem?_toArray, List.getElem?_append_left (by simpa using h), List.getElem?_replicate, if_pos h]
  rfl

theorem preL_hi (n z k : Nat) (h : z ≤ k) (hn : k < n) : (preL n z).getD k true = false := by
  unfold preL
  rw [Array.getD_eq_getD_getElem?, List.getElem?_toArray, List.getElem?_append_right (by simpa using h), List.length_replicate, List.getElem?_replicate, if_pos (by omega)]
  rfl

theorem wpAny_thenF {Q : Exit → Act → World → Prop} {a : Act} {w : World} {ls : List Oper} (W0 : World) (z f r q : Nat) (hfz : f ≤ z) (hr : ls.length - z = r) (hq : ls.length - f = q) (h0 : ∃ x : Ext W0, w = x.val)
    (hs : Region.noSelect ls.toArray = true) (hl : lexZ .any ls.toArray z (z - f) f (preL ls.length f) = true) (hw : waitedF .any ls.toArray z f = true) (hd : Dc .any ls.toArray (preL ls.length f))
    (h : wpQuiet P ls.toArray (fun w' => ∃ x : Ext W0, w' = x.val) (fun a' => ∀ w', (∃ x : Ext W0, w' = x.val) → wpAny P .any ls.toArray Q r (preL ls.length z) a' w') ((ls.take z).drop f) a) : wpAny P .any ls.toArray Q q (preL ls.length f) a w := by
  subst hr
  subst hq
  have hzs : z < ls.length := by simp only [waitedF, Bool.and_eq_true, decide_eq_true_eq] at hw; simpa using hw.1.1.1
  have htk : ((ls.take z).drop f).length = z - f := by rw [List.length_drop, List.length_take]; omega
  have h1 := wpAnyZ_lex (C := fun w' => ∃ x : Ext W0, w' = x.val) (md := .any) (z := z) hs ((ls.take z).drop f) f (preL ls.length f) a (fun j hj => by rw [htk] at hj; rw [List.getElem?_drop, List.getElem?_take, if_pos (by omega)]; simp) (by rw [htk]; exact hl) h
  rw [htk] at h1
  have h2 := wpAny_of_F (C := fun w' => ∃ x : Ext W0, w' = x.val) hw (Q := Q) (E := fun a' => ∀ w', (∃ x : Ext W0, w' = x.val) → wpAny P .any ls.toArray Q (ls.length - z) (preL ls.length z) a' w') (fun a w hc he => by simpa using he w hc) (z - f) (preL ls.length f) a w h0 (by unfold preL; simp; omega) (fun k hk => preL_lo _ _ _ hk) (fun k hk hk2 => preL_hi _ _ _ (by omega) (by simpa using hk2)) hd h1
  have e : z - f + (ls.toArray.size - z) = ls.length - f := by simp; omega
  rw [e] at h2
  exact h2

theorem wpAnyG_of_any {Q : Exit → Act → World → Prop} {z : Nat} : ∀ (fuel : Nat) (listed : Array Bool) (a : Act) (w : World), wpAny P md ops Q fuel listed a w → wpAnyG P md ops Q (fun _ => True) z fuel listed a w
  | 0, _, _, _, h => h
  | fuel + 1, _, _, _, h => ⟨h.1, fun i hi => wpOp_mono (fun a' w' h' => ⟨.inr trivial, wpAnyG_of_any fuel _ a' w' h'⟩) (h.2 i hi)⟩

theorem wp_region_anyD {id : Nat} {Q : Exit → Act → World → Prop} {a : Act} {w : World} (hm : P.follows .mixedOrders = true)
    (h : wpAny P .any ops Q ops.size (Array.replicate ops.size false) a w.drew) : (Code.region id ops true).wp P Q a w := wp_region_any hm h

theorem dc_first {o0 : Oper} (h0 : ops[0]? = some o0) (ha : o0.after = #[]) (hn : 0 < ops.size) : Dc md ops (preL ops.size 1) := by
  intro i o ho hi e he hb
  rcases Nat.eq_zero_or_pos i with rfl | hp
  · rw [h0] at ho
    cases ho
    rw [ha] at he
    simp at he
  · have hl := (Array.getElem?_eq_some_iff.1 ho).1
    have := preL_hi ops.size 1 i hp hl
    rw [Array.getD_eq_getD_getElem?] at this hi
    have hsz : i < (preL ops.size 1).size := by unfold preL; simp; omega
    rw [Array.getElem?_eq_getElem hsz] at this hi
    simp at this hi
    rw [this] at hi
    cases hi

theorem wpAny_takeT {Q : Exit → Act → World → Prop} (z : Nat) {i : Nat} {oi : Oper} {v : Value} {fuel : Nat} {listed : Array Bool} {a : Act} {w : World} (hi : ops[i]? = some oi)
    (hs : Region.noSelect ops = true) (hf : Region.free md ops listed i = true) (hr : (Region.ready md ops listed).contains i = true) (hz : lastWaits md ops z i = true)
    (hQ : ∀ c a w, Q (.panic c) (a.put oi.dst v) w → Q (.panic c) a w) (hy : YieldsIf P ops (fun _ => True) oi v a)
    {d : Tmp} (hd : oi.dst = some d) (h : wpAny P md ops Q fuel (listed.setIfInBounds i true) { tmps := a.tmps.setIfInBounds d v, defers := a.defers } w) : wpAny P md ops Q (fuel + 1) listed a w :=
  wpAny_of_G (z := z) _ _ _ _ (wpAnyG_take hi hs hf hr hz hQ hy trivial (wpAnyG_of_any _ _ _ _ (by rw [hd]; exact h)))

end

end Go.Proofs.YtcnjjhdmnagkgaaGreatDoor

namespace Go.Proofs.YtcnjjhdmnagkgaaGreatDoor
open Go.RowKit
open Go.ChangeMaps (setBlock heap_setBlock_same heap_setBlock_other modify_eq_set)
set_option linter.unusedVariables false
set_option linter.unusedSimpArgs false

theorem keyInt {kt : TypeId} (hK : Tryz.prog.underlying kt = some (.int .i64)) {k : Int} (h : (Lit.int .i64 k).wf = true) : keyOf Tryz.prog kt (.int .i64 k) = some (.int .i64 k) := by
  simp [keyOf, hK, mapKey, h]

def Mi (w : World) (b n : Nat) (g : Int → Option Value) : Prop :=
  ∃ es clock, w.heap[b]? = some (.map es clock) ∧ MapKept.Stamped es clock ∧ (∀ e ∈ es.toList, ∃ k : Int, e.key = .int .i64 k ∧ (Lit.int .i64 k).wf = true) ∧ es.size = n ∧ ∀ k v, g k = some v ↔ ∃ e ∈ es.toList, e.key = .int .i64 k ∧ e.val = v

theorem Mi.lt {w : World} {b n : Nat} {g : Int → Option Value} (h : Mi w b n g) : b < w.heap.size := by
  obtain ⟨es, clock, hb, _⟩ := h
  exact (Array.getElem?_eq_some_iff.1 hb).1

theorem Mi.made (w : World) : Mi (w.alloc (.map #[] 0)) w.heap.size 0 (fun _ => none) :=
  ⟨#[], 0, heap_alloc_new w _, MapKept.stamped_empty 0, by simp, rfl, by simp⟩

theorem Mi.kept {w w' : World} {b n : Nat} {g : Int → Option Value} {row : Option Nat} (h : Mi w b n g) (hg : w.grownBy w' row) (hne : some b ≠ row) : Mi w' b n g := by
  have hlt := h.lt
  obtain ⟨es, clock, hb, r⟩ := h
  exact ⟨es, clock, (hg.block b hlt hne).trans hb, r⟩

theorem Mi.below {w w' : World} {b n : Nat} {g : Int → Option Value} (h : Mi w b n g) {m : Nat} (hb : Below m w w') (hm : b < m) : Mi w' b n g := by
  obtain ⟨es, clock, h1, r⟩ := h
  exact ⟨es, clock, (hb.block b hm).trans h1, r⟩

theorem Mi.congr {w : World} {b n : Nat} {g g' : Int → Option Value} (h : Mi w b n g) (e : ∀ k, g k = g' k) : Mi w b n g' := by
  obtain rfl : g = g' := funext e
  exact h

theorem Mi.look {w : World} {b n : Nat} {g : Int → Option Value} (h : Mi w b n g) {t kt e : TypeId} (hK : Tryz.prog.underlying kt = some (.int .i64)) (ht : Tryz.prog.underlying t = some (.map kt e)) {z : Value} (hz : (zeroValue e).run Tryz.prog w = .ok z w) (k : Int) (hk : (Lit.int .i64 k).wf = true) (c : Bool) :
    (Instr.lookup t (.map (some b)) (.int .i64 k) c).run Tryz.prog w = .ok (mlook z (g k) c) w := by
  obtain ⟨es, clock, hb, hst, hkeys, hn, hg⟩ := h
  have hkey := keyInt hK hk
  rcases (Maps.int_keyed (P := Tryz.prog) hK).find w hkey es.toList (fun e he => by obtain ⟨x, hx, hxs⟩ := hkeys e he; rw [hx]; exact ⟨_, keyInt hK hxs⟩) with ⟨h1, h2⟩ | ⟨j, e0, h1, h2, h3⟩
  · have hgn : g k = none := by
      cases hq : g k with
      | none => rfl
      | some v => obtain ⟨e, he, hek, _⟩ := (hg k v).1 hq; exact absurd hek (h2 e he)
    rw [hgn]
    cases c <;> simp [Instr.lookup, run_underlying ht, MapKept.run_getObj_map hb, (Maps.int_keyed (P := Tryz.prog) hK).check w _ hkey, h1, hz, Result.andThen, mlook]
  · have hgs : g k = some e0.val := (hg k _).2 ⟨e0, List.mem_of_getElem? h2, h3, rfl⟩
    rw [hgs]
    cases c <;> simp [Instr.lookup, run_underlying ht, MapKept.run_getObj_map hb, (Maps.int_keyed (P := Tryz.prog) hK).check w _ hkey, h1, Result.andThen, mlook]

theorem Mi.put {w : World} {b n : Nat} {g : Int → Option Value} (h : Mi w b n g) {t kt e : TypeId} (hK : Tryz.prog.underlying kt = some (.int .i64)) (ht : Tryz.prog.underlying t = some (.map kt e)) (k : Int) (hk : (Lit.int .i64 k).wf = true) (v : Value) :
    ∃ w', (Instr.mapUpdate t (.map (some b)) (.int .i64 k) v).run Tryz.prog w = .ok () w' ∧ Mi w' b (match g k with | none => n + 1 | some _ => n) (fun x => if x = k then some v else g x) ∧ w.grownBy w' (some b) := by
  obtain ⟨es, clock, hb, hst, hkeys, hn, hg⟩ := h
  have hkey := keyInt hK hk
  have grown : ∀ o : Obj, w.grownBy (setBlock w b o) (some b) := fun o => ⟨rfl, rfl, rfl, by simp [setBlock], fun i _ hi => heap_setBlock_other hb _ (fun e => hi (by rw [e]))⟩
  have sinj : ∀ {x y : Int}, Value.int .i64 x = .int .i64 y → x = y := fun e => by simpa using e
  rcases (Maps.int_keyed (P := Tryz.prog) hK).find w hkey es.toList (fun e he => by obtain ⟨x, hx, hxs⟩ := hkeys e he; rw [hx]; exact ⟨_, keyInt hK hxs⟩) with ⟨h1, h2⟩ | ⟨j, e0, h1, h2, h3⟩
  · have hgn : g k = none := by
      cases hq : g k with
      | none => rfl
      | some v => obtain ⟨e, he, hek, _⟩ := (hg k v).1 hq; exact absurd hek (h2 e he)
    rw [hgn]
    refine ⟨setBlock w b (.map (es.push ⟨.int .i64 k, v, clock⟩) (clock + 1)), ?_, ⟨_, _, heap_setBlock_same hb _, MapKept.stamped_push hst h2, ?_, by simp [hn], ?_⟩, grown _⟩
    · simp [Instr.mapUpdate, run_underlying ht, MapKept.run_getObj_map hb, (Maps.int_keyed (P := Tryz.prog) hK).check w false hkey, h1, MapKept.run_setObj_map _ hb, Result.andThen, setBlock]
    · intro x hx
      simp only [Array.toList_push, List.mem_append, List.mem_singleton] at hx
      rcases hx with hx | rfl
      · exact hkeys x hx
      · exact ⟨k, rfl, hk⟩
    · intro x u
      simp only [Array.toList_push, List.mem_append, List.mem_singleton]
      by_cases hx : x = k
      · subst hx
        rw [if_pos rfl]
        constructor
        · intro hu
          exact ⟨_, .inr rfl, rfl, by simpa using hu⟩
        · rintro ⟨y, hy | rfl, hyk, hyv⟩
          · exact absurd hyk (h2 y hy)
          · simpa using hyv
      · rw [if_neg hx, hg]
        constructor
        · rintro ⟨y, hy, r⟩
          exact ⟨y, .inl hy, r⟩
        · rintro ⟨y, hy | rfl, hyk, hyv⟩
          · exact ⟨y, hy, hyk, hyv⟩
          · exact absurd (sinj hyk).symm hx
  · have hgs : g k = some e0.val := (hg k _).2 ⟨e0, List.mem_of_getElem? h2, h3, rfl⟩
    rw [hgs]
    have hj : es[j]? = some e0 := by simpa using h2
    have hjl : j < es.toList.length := (List.getElem?_eq_some_iff.1 h2).1
    have hlist : (es.modify j (fun e' => { e' with key := .int .i64 k, val := v })).toList = es.toList.set j { e0 with key := .int .i64 k, val := v } := by rw [Array.toList_modify, modify_eq_set _ _ _ _ h2]
    have hkeyf : ∀ e', es[j]? = some e' → ({ e' with key := .int .i64 k, val := v } : MapEntry).key = e'.key := fun e' he' => by rw [hj] at he'; cases he'; exact h3.symm
    have hpw := (MapKept.stamped_iff _ _).1 hst
    have other : ∀ (i : Nat) (e : MapEntry), es.toList[i]? = some e → i ≠ j → e.key ≠ .int .i64 k := by
      intro i e hi hne hek
      have hi' := (List.getElem?_eq_some_iff.1 hi)
      have hj' := (List.getElem?_eq_some_iff.1 h2)
      obtain ⟨hi1, hi2⟩ := hi'
      obtain ⟨hj1, hj2⟩ := hj'
      have pw := List.pairwise_iff_getElem.1 hpw.2.2
      rcases Nat.lt_or_gt_of_ne hne with hlt | hlt
      · exact pw i j hi1 hj1 hlt (by rw [hi2, hj2, hek, h3])
      · exact pw j i hj1 hi1 hlt (by rw [hi2, hj2, hek, h3])
    have who : ∀ x, x ∈ es.toList.set j { e0 with key := .int .i64 k, val := v } ↔ x = { e0 with key := .int .i64 k, val := v } ∨ (x ∈ es.toList ∧ x.key ≠ .int .i64 k) := by
      intro x
      constructor
      · intro hx
        obtain ⟨i, hi, ex⟩ := List.getElem_of_mem hx
        rw [List.getElem_set] at ex
        split at ex
        · exact Or.inl ex.symm
        · rename_i hne
          have hi' : i < es.toList.length := by simpa using hi
          exact Or.inr ⟨ex ▸ List.getElem_mem hi', other i x (by rw [List.getElem?_eq_getElem hi', ex]) (fun e => hne e.symm)⟩
      · rintro (rfl | ⟨hx, hxk⟩)
        · exact List.mem_iff_getElem.2 ⟨j, by simpa using hjl, by simp⟩
        · obtain ⟨i, hi⟩ := List.getElem?_of_mem hx
          have hij : i ≠ j := fun e => by subst e; rw [h2] at hi; cases hi; exact hxk h3
          have hi' := (List.getElem?_eq_some_iff.1 hi)
          obtain ⟨hi1, hi2⟩ := hi'
          exact List.mem_iff_getElem.2 ⟨i, by simpa using hi1, by rw [List.getElem_set_ne (fun e => hij e.symm)]; exact hi2⟩
    refine ⟨setBlock w b (.map (es.modify j (fun e' => { e' with key := .int .i64 k, val := v })) clock), ?_, ⟨_, _, heap_setBlock_same hb _, MapKept.stamped_modify hst _ _ (fun _ _ => rfl) (fun e' _ he' => hkeyf e' he'), ?_, by simp [hn], ?_⟩, grown _⟩
    · simp [Instr.mapUpdate, run_underlying ht, MapKept.run_getObj_map hb, (Maps.int_keyed (P := Tryz.prog) hK).check w false hkey, h1, hj, h3, (Maps.int_keyed (P := Tryz.prog) hK).stays w hkey, MapKept.run_setObj_map _ hb, Result.andThen, setBlock]
    · intro x hx
      have hx := hlist.subst (motive := fun l => x ∈ l) hx
      rcases (who x).1 hx with rfl | ⟨hx, _⟩
      · exact ⟨k, rfl, hk⟩
      · exact hkeys x hx
    · intro x u
      show (if x = k then some v else g x) = some u ↔ ∃ e ∈ (es.modify j (fun e' => { e' with key := .int .i64 k, val := v })).toList, e.key = .int .i64 x ∧ e.val = u
      rw [hlist]
      by_cases hx : x = k
      · subst hx
        rw [if_pos rfl]
        constructor
        · intro hu
          exact ⟨_, (who _).2 (.inl rfl), rfl, by simpa using hu⟩
        · rintro ⟨y, hy, hyk, hyv⟩
          rcases (who y).1 hy with rfl | ⟨_, h⟩
          · simpa using hyv
          · exact absurd hyk h
      · rw [if_neg hx, hg]
        constructor
        · rintro ⟨y, hy, hyk, r⟩
          exact ⟨y, (who y).2 (.inr ⟨hy, fun e => hx (sinj (hyk.symm.trans e))⟩), hyk, r⟩
        · rintro ⟨y, hy, hyk, hyv⟩
          rcases (who y).1 hy with rfl | ⟨hy, _⟩
          · exact absurd (sinj hyk).symm hx
          · exact ⟨y, hy, hyk, hyv⟩

end Go.Proofs.YtcnjjhdmnagkgaaGreatDoor

namespace Go.Proofs.YtcnjjhdmnagkgaaGreatDoor
open Go.RowKit
set_option linter.unusedVariables false
set_option linter.unusedSimpArgs false

set_option maxHeartbeats 1000000 in
theorem peach0_str (a : Option Addr) (c : Nat) (f : Value) (w : World) :
    Calls Tryz.prog 108 #[.slice a 0 c, f] w fun e w' => e = .returned (.slice none 0 0) ∧ w = w' := by
  go_enter Tryz.func108, Tryz.ntmps108
  go_wp2
  go_loopw [5, 10] (fun u v wr => u = .slice none 0 0 ∧ v = .int .i64 0 ∧ w = wr) (fun _ _ _ => 0)
  case atStart => exact ⟨rfl, rfl, rfl⟩
  case round =>
    obtain ⟨rfl, rfl, rfl⟩ := hrel
    go_wp2
    go_ret
    exact ⟨rfl, rfl⟩

set_option maxHeartbeats 1000000 in
theorem peach0_int (a : Option Addr) (c : Nat) (f : Value) (w : World) :
    Calls Tryz.prog 109 #[.slice a 0 c, f] w fun e w' => e = .returned (.slice none 0 0) ∧ w = w' := by
  go_enter Tryz.func109, Tryz.ntmps109
  go_wp2
  go_loopw [5, 10] (fun u v wr => u = .slice none 0 0 ∧ v = .int .i64 0 ∧ w = wr) (fun _ _ _ => 0)
  case atStart => exact ⟨rfl, rfl, rfl⟩
  case round =>
    obtain ⟨rfl, rfl, rfl⟩ := hrel
    go_wp2
    go_ret
    exact ⟨rfl, rfl⟩

set_option maxHeartbeats 1000000 in
theorem peach0_fld (a : Option Addr) (c : Nat) (f : Value) (w : World) :
    Calls Tryz.prog 182 #[.slice a 0 c, f] w fun e w' => e = .returned (.slice none 0 0) ∧ w = w' := by
  go_enter Tryz.func182, Tryz.ntmps182
  go_wp2
  go_loopw [5, 10] (fun u v wr => u = .slice none 0 0 ∧ v = .int .i64 0 ∧ w = wr) (fun _ _ _ => 0)
  case atStart => exact ⟨rfl, rfl, rfl⟩
  case round =>
    obtain ⟨rfl, rfl, rfl⟩ := hrel
    go_wp2
    go_ret
    exact ⟨rfl, rfl⟩

set_option maxHeartbeats 1000000 in
theorem peach0_enm (a : Option Addr) (c : Nat) (f : Value) (w : World) :
    Calls Tryz.prog 178 #[.slice a 0 c, f] w fun e w' => e = .returned (.slice none 0 0) ∧ w = w' := by
  go_enter Tryz.func178, Tryz.ntmps178
  go_wp2
  go_loopw [5, 10] (fun u v wr => u = .slice none 0 0 ∧ v = .int .i64 0 ∧ w = wr) (fun _ _ _ => 0)
  case atStart => exact ⟨rfl, rfl, rfl⟩
  case round =>
    obtain ⟨rfl, rfl, rfl⟩ := hrel
    go_wp2
    go_ret
    exact ⟨rfl, rfl⟩

set_option maxHeartbeats 1000000 in
theorem peach0_srv (a : Option Addr) (c : Nat) (f : Value) (w : World) :
    Calls Tryz.prog 180 #[.slice a 0 c, f] w fun e w' => e = .returned (.slice none 0 0) ∧ w = w' := by
  go_enter Tryz.func180, Tryz.ntmps180
  go_wp2
  go_loopw [5, 10] (fun u v wr => u = .slice none 0 0 ∧ v = .int .i64 0 ∧ w = wr) (fun _ _ _ => 0)
  case atStart => exact ⟨rfl, rfl, rfl⟩
  case round =>
    obtain ⟨rfl, rfl, rfl⟩ := hrel
    go_wp2
    go_ret
    exact ⟨rfl, rfl⟩

set_option maxRecDepth 10000 in
theorem ptexts0 (a : Option Addr) (c : Nat) (w : World) :
    Calls Tryz.prog 71 #[.slice a 0 c] w fun e w' => e = .returned (.slice none 0 0) ∧ w = w' := by
  go_enter Tryz.func71, Tryz.ntmps71
  go_wp2_with fail
  refine Calls.mono (peach0_str a c _ w) ?_
  rintro e w1 ⟨rfl, rfl⟩
  go_wp2
  go_ret
  exact ⟨rfl, rfl⟩

set_option maxRecDepth 10000 in
theorem pplaces0 (a : Option Addr) (c : Nat) (w : World) :
    Calls Tryz.prog 72 #[.slice a 0 c] w fun e w' => e = .returned (.slice none 0 0) ∧ w = w' := by
  go_enter Tryz.func72, Tryz.ntmps72
  go_wp2_with fail
  refine Calls.mono (peach0_int a c _ w) ?_
  rintro e w1 ⟨rfl, rfl⟩
  go_wp2
  go_ret
  exact ⟨rfl, rfl⟩

theorem pbclone0 (w : World) :
    Calls Tryz.prog 184 #[.slice none 0 0] w fun e w' => e = .returned (.slice none 0 0) ∧ w = w' := by
  have hrun : ∀ w, (binOp .eql 32 (.slice none 0 0) (.slice none 0 0)).run Tryz.prog w = .ok (.bool true) w := fun w => by kernel_rfl
  go_enter Tryz.func184, Tryz.ntmps184
  go_wp2
  go_ret
  exact ⟨rfl, rfl⟩

theorem punknown0 (lv : Value) (w : World) :
    Calls Tryz.prog 185 #[.agg #[lv, .bool false], .slice none 0 0] w fun e w' => e = .returned (.slice none 0 0) ∧ Below w.heap.size w w' := by
  have HB : Hid (Below w.heap.size w (w.alloc (.cells #[lv, .bool false] 221))) := (Below.refl _ _).alloc (Nat.le_refl _) _
  go_enter Tryz.func185, Tryz.ntmps185
  go_wp2_with fail
  refine Calls.mono (pbclone0 _) ?_
  rintro e w1 ⟨rfl, rfl⟩
  go_wp2
  go_ret
  exact ⟨rfl, HB.out⟩

theorem pmsgs0 (v : Value) (w : World) :
    Calls Tryz.prog 177 #[.agg #[.int .i64 0, .bool false], v] w fun e w' => e = .returned (.slice none 0 0) ∧ Below w.heap.size w w' := by
  have HB : Hid (Below w.heap.size w (w.alloc (.cells #[.int .i64 0, .bool false] 221))) := (Below.refl _ _).alloc (Nat.le_refl _) _
  go_enter Tryz.func177, Tryz.ntmps177
  go_wp2
  go_ret
  exact ⟨rfl, HB.out⟩

theorem file_ret {fn : Func} {R : Ending → World → Prop} {a : Act} {w : World} {p : Tmp} (h : fn.results = #[.cell p 46]) (gb : Nat) (cs : Array Value) (hs : cs.size = 11) (hp : a.tmps.getD p undef = .pointer (some ⟨gb, 0, none⟩)) (hg : Ob w gb cs 46) (hd : a.defers = []) (hR : R (.returned (.agg cs)) w) : bodyPost Tryz.prog fn R .ret a w := by
  refine bodyPost_ret (v := .agg cs) ?_ hd hR
  have hp' : a.tmps[p]?.getD undef = .pointer (some ⟨gb, 0, none⟩) := by simpa using hp
  have hsz : (Tryz.prog.info? 46).map (·.size) = some 11 := by kernel_rfl
  have hl := run_loadVar_row (P := Tryz.prog) w gb 46 46 cs (0, 0) _ hg.eq Tryz.underlying46 rfl (hsz.trans (by rw [hs]))
  simp [results, h, hp', asAddr, hl]

theorem set11 {w : World} {b : Nat} {T : TypeId} {y0 y1 y2 y3 y4 y5 y6 y7 y8 y9 y10 : Value} (h : Ob w b #[y0, y1, y2, y3, y4, y5, y6, y7, y8, y9, y10] T) (x0 x1 x2 x3 x4 x5 x6 x7 x8 x9 x10 : Value) :
    Ob (((((((((((w.setCell ⟨b, 0, none⟩ x0).setCell ⟨b, 1, none⟩ x1).setCell ⟨b, 2, none⟩ x2).setCell ⟨b, 3, none⟩ x3).setCell ⟨b, 4, none⟩ x4).setCell ⟨b, 5, none⟩ x5).setCell ⟨b, 6, none⟩ x6).setCell ⟨b, 7, none⟩ x7).setCell ⟨b, 8, none⟩ x8).setCell ⟨b, 9, none⟩ x9).setCell ⟨b, 10, none⟩ x10) b #[x0, x1, x2, x3, x4, x5, x6, x7, x8, x9, x10] T := by
  have := ((((((((((h.set 0 x0).set 1 x1).set 2 x2).set 3 x3).set 4 x4).set 5 x5).set 6 x6).set 7 x7).set 8 x8).set 9 x9).set 10 x10
  simpa using this

theorem below11 {n : Nat} {W w : World} (b : Nat) (hb : n ≤ b) (h : Below n W w) (x0 x1 x2 x3 x4 x5 x6 x7 x8 x9 x10 : Value) :
    Below n W (((((((((((w.setCell ⟨b, 0, none⟩ x0).setCell ⟨b, 1, none⟩ x1).setCell ⟨b, 2, none⟩ x2).setCell ⟨b, 3, none⟩ x3).setCell ⟨b, 4, none⟩ x4).setCell ⟨b, 5, none⟩ x5).setCell ⟨b, 6, none⟩ x6).setCell ⟨b, 7, none⟩ x7).setCell ⟨b, 8, none⟩ x8).setCell ⟨b, 9, none⟩ x9).setCell ⟨b, 10, none⟩ x10) :=
  (((((((((((h.setCell (p := ⟨b, 0, none⟩) hb _).setCell (p := ⟨b, 1, none⟩) hb _).setCell (p := ⟨b, 2, none⟩) hb _).setCell (p := ⟨b, 3, none⟩) hb _).setCell (p := ⟨b, 4, none⟩) hb _).setCell (p := ⟨b, 5, none⟩) hb _).setCell (p := ⟨b, 6, none⟩) hb _).setCell (p := ⟨b, 7, none⟩) hb _).setCell (p := ⟨b, 8, none⟩) hb _).setCell (p := ⟨b, 9, none⟩) hb _).setCell (p := ⟨b, 10, none⟩) hb _)

set_option maxRecDepth 100000 in
set_option maxHeartbeats 4000000 in
theorem pwfile0 (N K Y : ByteArray) (hN : N.size ≤ 1000000) (hK : K.size ≤ 1000000) (hY : Y.size ≤ 1000000) (vm : Value) (hvm : ∃ a n c, vm = .slice a n c) (W : World) :
    Calls Tryz.prog 144 #[.agg #[.int .i64 0, .bool false], .agg #[.string N, .string K, .slice none 0 0, .slice none 0 0, vm, .slice none 0 0, .slice none 0 0, .slice none 0 0, .string Y, .slice none 0 0, .slice none 0 0]] W fun e W' => e = .returned (.agg #[.string N, .string K, .slice none 0 0, .slice none 0 0, .slice none 0 0, .slice none 0 0, .slice none 0 0, .slice none 0 0, .string Y, .slice none 0 0, .slice none 0 0]) ∧ Below W.heap.size W W' := by
  obtain ⟨ma, mn, mc, rfl⟩ := hvm
  obtain ⟨w3, hw3⟩ : ∃ w3, w3 = ((W.alloc (.cells #[.int .i64 0, .bool false] 221)).alloc (.cells #[.string N, .string K, .slice none 0 0, .slice none 0 0, .slice ma mn mc, .slice none 0 0, .slice none 0 0, .slice none 0 0, .string Y, .slice none 0 0, .slice none 0 0] 46)).alloc (.cells #[.string ⟨#[]⟩, .string ⟨#[]⟩, .slice none 0 0, .slice none 0 0, .slice none 0 0, .slice none 0 0, .slice none 0 0, .slice none 0 0, .string ⟨#[]⟩, .slice none 0 0, .slice none 0 0] 46) := ⟨_, rfl⟩
  have o0 : Ob w3 W.heap.size #[.int .i64 0, .bool false] 221 := by rw [hw3]; exact ((Ob.new W _ _).alloc _).alloc _
  have o1 : Ob w3 (W.heap.size + 1) #[.string N, .string K, .slice none 0 0, .slice none 0 0, .slice ma mn mc, .slice none 0 0, .slice none 0 0, .slice none 0 0, .string Y, .slice none 0 0, .slice none 0 0] 46 := by
    rw [hw3]
    have := (Ob.new (W.alloc (.cells #[.int .i64 0, .bool false] 221)) #[.string N, .string K, .slice none 0 0, .slice none 0 0, .slice ma mn mc, .slice none 0 0, .slice none 0 0, .slice none 0 0, .string Y, .slice none 0 0, .slice none 0 0] 46).alloc (.cells #[.string ⟨#[]⟩, .string ⟨#[]⟩, .slice none 0 0, .slice none 0 0, .slice none 0 0, .slice none 0 0, .slice none 0 0, .slice none 0 0, .string ⟨#[]⟩, .slice none 0 0, .slice none 0 0] 46)
    simpa using this
  have o2 : Ob w3 (W.heap.size + 1 + 1) #[.string ⟨#[]⟩, .string ⟨#[]⟩, .slice none 0 0, .slice none 0 0, .slice none 0 0, .slice none 0 0, .slice none 0 0, .slice none 0 0, .string ⟨#[]⟩, .slice none 0 0, .slice none 0 0] 46 := by
    rw [hw3]
    have := Ob.new ((W.alloc (.cells #[.int .i64 0, .bool false] 221)).alloc (.cells #[.string N, .string K, .slice none 0 0, .slice none 0 0, .slice ma mn mc, .slice none 0 0, .slice none 0 0, .slice none 0 0, .string Y, .slice none 0 0, .slice none 0 0] 46)) #[.string ⟨#[]⟩, .string ⟨#[]⟩, .slice none 0 0, .slice none 0 0, .slice none 0 0, .slice none 0 0, .slice none 0 0, .slice none 0 0, .string ⟨#[]⟩, .slice none 0 0, .slice none 0 0] 46
    simpa using this
  have hb3 : Below W.heap.size W w3 := by rw [hw3]; exact (((Below.refl _ W).alloc (Nat.le_refl _) _).alloc (by simp) _).alloc (by simp; omega) _
  have QN : Hid _ := fun V => pnclone_any N V hN
  have QK : Hid _ := fun V => pnclone_any K V hK
  have QY : Hid _ := fun V => pnclone_any Y V hY
  have a0 := fun x : Ext w3 => x.cell (p := ⟨W.heap.size, 0, none⟩) o0.lt (o0.cell 0 rfl)
  have a1 := fun x : Ext w3 => x.cell (p := ⟨W.heap.size, 1, none⟩) o0.lt (o0.cell 1 rfl)
  have b0 := fun x : Ext w3 => x.cell (p := ⟨W.heap.size + 1, 0, none⟩) o1.lt (o1.cell 0 rfl)
  have b1 := fun x : Ext w3 => x.cell (p := ⟨W.heap.size + 1, 1, none⟩) o1.lt (o1.cell 1 rfl)
  have b2 := fun x : Ext w3 => x.cell (p := ⟨W.heap.size + 1, 2, none⟩) o1.lt (o1.cell 2 rfl)
  have b3 := fun x : Ext w3 => x.cell (p := ⟨W.heap.size + 1, 3, none⟩) o1.lt (o1.cell 3 rfl)
  have b4 := fun x : Ext w3 => x.cell (p := ⟨W.heap.size + 1, 4, none⟩) o1.lt (o1.cell 4 rfl)
  have b5 := fun x : Ext w3 => x.cell (p := ⟨W.heap.size + 1, 5, none⟩) o1.lt (o1.cell 5 rfl)
  have b6 := fun x : Ext w3 => x.cell (p := ⟨W.heap.size + 1, 6, none⟩) o1.lt (o1.cell 6 rfl)
  have b7 := fun x : Ext w3 => x.cell (p := ⟨W.heap.size + 1, 7, none⟩) o1.lt (o1.cell 7 rfl)
  have b8 := fun x : Ext w3 => x.cell (p := ⟨W.heap.size + 1, 8, none⟩) o1.lt (o1.cell 8 rfl)
  have b9 := fun x : Ext w3 => x.cell (p := ⟨W.heap.size + 1, 9, none⟩) o1.lt (o1.cell 9 rfl)
  have b10 := fun x : Ext w3 => x.cell (p := ⟨W.heap.size + 1, 10, none⟩) o1.lt (o1.cell 10 rfl)
  have O2 : Hid _ := o2
  have HB3 : Hid _ := hb3
  have HW3 : Hid _ := hw3
  clear o0 o1 o2 hb3 hw3 hN hK hY
  go_enter Tryz.func144, Tryz.ntmps144
  go_upto_region 1 with fail
  rw [← HW3.out]
  clear HW3
  refine wp_region_elast w3 (Below.refl _ _) rfl (by kernel_rfl) (by kernel_rfl) (by kernel_rfl) (by kernel_rfl) ?_
  simp only [List.dropLast]
  repeat (go_big_quiet_step (first
    | (go_at_call 16; first | exact Ext.call (fun V hV => QN.out V) _ | exact Ext.call (fun V hV => QK.out V) _ | exact Ext.call (fun V hV => QY.out V) _)
    | (go_at_call 71; exact Ext.call_same (fun V => ptexts0 _ _ V) _)
    | (go_at_call 72; exact Ext.call_same (fun V => pplaces0 _ _ V) _)
    | (go_at_call 177; exact Ext.call (fun V hV => pmsgs0 _ V) _)
    | (go_at_call 178; exact Ext.call_same (fun V => peach0_enm _ _ _ V) _)
    | (go_at_call 180; exact Ext.call_same (fun V => peach0_srv _ _ _ V) _)
    | (go_at_call 182; exact Ext.call_same (fun V => peach0_fld _ _ _ V) _)
    | (go_at_call 184; exact Ext.call_same (fun V => pbclone0 V) _)
    | (go_at_call 185; exact Ext.call (fun V hV => punknown0 _ V) _)))
  refine wpQuiet_nil ?_
  rintro w5 ⟨⟨_, hb5⟩, rfl⟩ Q' hQ'
  have HQ : Hid _ := hQ'
  have o5 := O2.out.below hb5 O2.out.lt
  obtain ⟨⟨c0, c1, c2, c3, c4, c5, c6, c7, c8, c9, c10⟩, ⟨d0, d1, d2, d3, d4, d5, d6, d7, d8, d9, d10⟩, dl⟩ := ob11 o5
  have O5 : Hid _ := o5
  have HB5 : Hid (Below W.heap.size W w5) := HB3.out.trans (hb5.mono HB3.out.size)
  clear hQ' o5 hb5 a0 a1 b0 b1 b2 b3 b4 b5 b6 b7 b8 b9 b10 HB3 O2 QN QK QY
  go_wp2
  refine HQ.out _ _ ?_
  clear HQ
  go_wp2
  refine file_ret (p := 4) ?_ (W.heap.size + 1 + 1) #[.string N, .string K, .slice none 0 0, .slice none 0 0, .slice none 0 0, .slice none 0 0, .slice none 0 0, .slice none 0 0, .string Y, .slice none 0 0, .slice none 0 0] rfl ?_ (set11 O5.out _ _ _ _ _ _ _ _ _ _ _) ?_ ?_
  · rfl
  · rfl
  · rfl
  · exact ⟨rfl, below11 _ (by omega) HB5.out _ _ _ _ _ _ _ _ _ _ _⟩

theorem grown_ofV {w w' : World} {row : Option Nat} (hb : Below w.heap.size w w') : w.grownBy w' row := ⟨hb.os, hb.tape, hb.output, hb.size, fun k hk _ => hb.block k hk⟩

theorem grown_transV {w w1 w2 : World} {row : Option Nat} (h1 : w.grownBy w1 row) (h2 : w1.grownBy w2 row) : w.grownBy w2 row := World.grownBy.trans h1 h2

structure Po (w : World) (bp bs be : Nat) (vf : Value) (n : Nat) (g : ByteArray → Option Value) : Prop where
  blk : Ob w bp #[vf, .map (some bs), .map (some be)] 143
  sym : Mg w bs n g
  ext : Mg w be 0 (fun _ => none)
  ne : bp ≠ bs ∧ be ≠ bs ∧ bp ≠ be
  sl : ∃ a n c, vf = .slice a n c

theorem Po.below {w w' : World} {bp bs be : Nat} {vf : Value} {n : Nat} {g : ByteArray → Option Value} (h : Po w bp bs be vf n g) {B : Nat} (hb : Below B w w') (hB : w.heap.size ≤ B) : Po w' bp bs be vf n g :=
  ⟨h.blk.below hb (Nat.lt_of_lt_of_le h.blk.lt hB), h.sym.below hb (Nat.lt_of_lt_of_le h.sym.lt hB), h.ext.below hb (Nat.lt_of_lt_of_le h.ext.lt hB), h.ne, h.sl⟩

theorem Po.put {w w' : World} {bp bs be : Nat} {vf : Value} {n n' : Nat} {g g' : ByteArray → Option Value} (h : Po w bp bs be vf n g) (hg : w.grownBy w' (some bs)) (hm : Mg w' bs n' g') : Po w' bp bs be vf n' g' :=
  ⟨h.blk.grown hg (fun e => h.ne.1 (Option.some.inj e)), hm, h.ext.kept hg (fun e => h.ne.2.1 (Option.some.inj e)), h.ne, h.sl⟩

theorem zeroSym (w : World) : (zeroValue 232).run Tryz.prog w = .ok (.agg #[.int .i64 0, .string ⟨#[]⟩, .pointer none, .pointer none, .pointer none]) w := by kernel_rfl

theorem symMap : Tryz.prog.underlying 140 = some (.map 9 232) := by kernel_rfl

def gput (g : ByteArray → Option Value) (k : ByteArray) (v : Value) : ByteArray → Option Value := fun x => if x = k then some v else g x

set_option maxRecDepth 100000 in
set_option maxHeartbeats 4000000 in
theorem pput0 (H : ByteArray) (sc nm : List Int) (hsb : Hid (byts sc)) (hnb : Hid (byts nm)) (hsl : sc.length ≤ 10000) (hnl : nm.length ≤ 10000) (kd : Int) (p1 p2 p3 : Option Addr) (W : World) {bp bs be : Nat} {vf : Value} {n : Nat} {g : ByteArray → Option Value} (hP : Hid (Po W bp bs be vf n g)) (hg : g (strOfNums (njoin sc nm)) = none) :
    Calls Tryz.prog 147 #[.agg #[.pointer (some ⟨bp, 0, none⟩), .string H], .string (strOfNums sc), .string (strOfNums nm), .agg #[.int .i64 kd, .string ⟨#[]⟩, .pointer p1, .pointer p2, .pointer p3]] W fun e W' => e = .returned (.string (strOfNums (njoin sc nm))) ∧ W.grownBy W' (some bs) ∧ Mg W' bs (n + 1) (gput g (strOfNums (njoin sc nm)) (.agg #[.int .i64 kd, .string H, .pointer p1, .pointer p2, .pointer p3])) := by
  obtain ⟨w3, hw3⟩ : ∃ w3, w3 = (W.alloc (.cells #[.pointer (some ⟨bp, 0, none⟩), .string H] 224)).alloc (.cells #[.int .i64 kd, .string ⟨#[]⟩, .pointer p1, .pointer p2, .pointer p3] 232) := ⟨_, rfl⟩
  have o0 : Ob w3 W.heap.size #[.pointer (some ⟨bp, 0, none⟩), .string H] 224 := by rw [hw3]; exact (Ob.new W _ _).alloc _
  have o1 : Ob w3 (W.heap.size + 1) #[.int .i64 kd, .string ⟨#[]⟩, .pointer p1, .pointer p2, .pointer p3] 232 := by
    rw [hw3]
    have := Ob.new (W.alloc (.cells #[.pointer (some ⟨bp, 0, none⟩), .string H] 224)) #[.int .i64 kd, .string ⟨#[]⟩, .pointer p1, .pointer p2, .pointer p3] 232
    simpa using this
  have hb3 : Below W.heap.size W w3 := by rw [hw3]; exact ((Below.refl _ W).alloc (Nat.le_refl _) _).alloc (by simp) _
  have hP3 := hP.out.below hb3 (Nat.le_refl _)
  have hbl := hP.out.blk.lt
  have hsl2 := hP.out.sym.lt
  have QJ : Hid _ := pjoin_any sc nm w3 (show Hid (NTab w3) from trivial) hsb hnb hsl hnl
  have hks : (strOfNums (njoin sc nm)).size ≤ maxLen := by rw [strOfNums_size]; unfold njoin maxLen; split <;> simp <;> omega
  generalize strOfNums (njoin sc nm) = F at *
  generalize strOfNums sc = S at *
  generalize strOfNums nm = M at *
  have O0 : Hid _ := o0
  have O1 : Hid _ := o1
  have P3 : Hid _ := hP3
  have HB3 : Hid _ := hb3
  have HW3 : Hid _ := hw3
  have HG : Hid _ := hg
  have HKS : Hid _ := hks
  clear o0 o1 hb3 hw3 hP3 hg hks
  go_enter Tryz.func147, Tryz.ntmps147
  go_upto_region 1 with fail
  rw [← HW3.out]
  clear HW3
  go_wp2_with fail
  refine Calls.mono QJ.out ?_
  rintro e w4 ⟨rfl, hb4⟩
  have o0 := O0.out.below hb4 O0.out.lt
  have o1 := O1.out.below hb4 O1.out.lt
  have hP4 := P3.out.below hb4 (Nat.le_refl _)
  have HB4 : Hid (Below W.heap.size W w4) := HB3.out.trans (hb4.mono HB3.out.size)
  have hlk := hP4.sym.look symMap (zeroSym w4) F HKS.out true
  rw [HG.out] at hlk
  simp only [mlook] at hlk
  obtain ⟨w6, hw6⟩ : ∃ w6, w6 = (w4.setCell ⟨W.heap.size + 1, 1, none⟩ (.string H)).alloc (.cells #[.int .i64 0, .string ⟨#[]⟩, .pointer none, .pointer none, .pointer none] 232) := ⟨_, rfl⟩
  have hl4 : W.heap.size + 1 < w4.heap.size := o1.lt
  have hb6 : Below (W.heap.size + 1) w4 w6 := by rw [hw6]; exact ((Below.refl _ w4).setCell (p := ⟨W.heap.size + 1, 1, none⟩) (Nat.le_refl _) _).alloc (by simp; omega) _
  have q0 : Ob w6 W.heap.size #[.pointer (some ⟨bp, 0, none⟩), .string H] 224 := o0.below hb6 (by omega)
  have q1 : Ob w6 (W.heap.size + 1) #[.int .i64 kd, .string H, .pointer p1, .pointer p2, .pointer p3] 232 := by rw [hw6]; have := (o1.set 1 (.string H)).alloc (.cells #[.int .i64 0, .string ⟨#[]⟩, .pointer none, .pointer none, .pointer none] 232); simpa using this
  have q2 : Ob w6 bp #[vf, .map (some bs), .map (some be)] 143 := hP4.blk.below hb6 (by omega)
  have q3 : Mg w6 bs n g := hP4.sym.below hb6 (by omega)
  have HB6 : Hid (Below W.heap.size W w6) := HB4.out.trans (hb6.mono (by omega))
  have a0 := fun x : Ext w6 => x.cell (p := ⟨W.heap.size, 0, none⟩) q0.lt (q0.cell 0 rfl)
  have a1 := fun x : Ext w6 => x.cell (p := ⟨W.heap.size, 1, none⟩) q0.lt (q0.cell 1 rfl)
  have b0 := fun x : Ext w6 => x.cell (p := ⟨W.heap.size + 1, 0, none⟩) q1.lt (q1.cell 0 rfl)
  have b1 := fun x : Ext w6 => x.cell (p := ⟨W.heap.size + 1, 1, none⟩) q1.lt (q1.cell 1 rfl)
  have b2 := fun x : Ext w6 => x.cell (p := ⟨W.heap.size + 1, 2, none⟩) q1.lt (q1.cell 2 rfl)
  have b3 := fun x : Ext w6 => x.cell (p := ⟨W.heap.size + 1, 3, none⟩) q1.lt (q1.cell 3 rfl)
  have b4 := fun x : Ext w6 => x.cell (p := ⟨W.heap.size + 1, 4, none⟩) q1.lt (q1.cell 4 rfl)
  have c0 := fun x : Ext w6 => x.cell (p := ⟨bp, 0, none⟩) q2.lt (q2.cell 0 rfl)
  have c1 := fun x : Ext w6 => x.cell (p := ⟨bp, 1, none⟩) q2.lt (q2.cell 1 rfl)
  have c2 := fun x : Ext w6 => x.cell (p := ⟨bp, 2, none⟩) q2.lt (q2.cell 2 rfl)
  obtain ⟨⟨x0, x1⟩, _, xl⟩ := ob2 o0
  obtain ⟨⟨y0, y1, y2, y3, y4⟩, ⟨u0, u1, u2, u3, u4⟩, yl⟩ := ob5 o1
  have z1 : w4.cell? ⟨bp, 1, none⟩ = some (.map (some bs)) := hP4.blk.cell 1 rfl
  have zl := hP4.blk.lt
  have Q3 : Hid (Mg w6 bs n g) := q3
  have HW6 : Hid _ := hw6
  clear o0 o1 hP4 hb4 hb6 q0 q1 q2 q3 hw6 O0 O1 P3 HB3 HB4 QJ hP
  go_upto_region 6 with fail
  rw [← HW6.out]
  clear HW6 x0 x1 xl y0 y1 y2 y3 y4 u0 u1 u2 u3 u4 yl z1 zl hlk
  refine wp_region_elast w6 (Below.refl _ _) rfl (by kernel_rfl) (by kernel_rfl) (by kernel_rfl) (by kernel_rfl) ?_
  simp only [List.dropLast]
  repeat (go_big_quiet_step (fail))
  refine wpQuiet_nil ?_
  rintro w7 ⟨⟨_, hb7⟩, rfl⟩ Q' hQ'
  have HQ : Hid _ := hQ'
  obtain ⟨w8, hup, hm8, hg8⟩ := (Q3.out.below hb7 Q3.out.lt).put symMap F HKS.out (.agg #[.int .i64 kd, .string H, .pointer p1, .pointer p2, .pointer p3])
  rw [HG.out] at hm8
  have HM8 : Hid (Mg w8 bs (n + 1) (gput g F (.agg #[.int .i64 kd, .string H, .pointer p1, .pointer p2, .pointer p3]))) := hm8
  have HG8 : Hid (W.grownBy w8 (some bs)) := grown_transV (grown_ofV (HB6.out.trans (hb7.mono HB6.out.size))) hg8
  clear hQ' hm8 hg8 hb7 a0 a1 b0 b1 b2 b3 b4 c0 c1 c2 HB6 Q3
  go_wp2
  refine HQ.out _ _ ?_
  clear HQ
  go_wp2
  go_ret
  exact ⟨rfl, HG8.out, HM8.out⟩

end Go.Proofs.YtcnjjhdmnagkgaaGreatDoor
