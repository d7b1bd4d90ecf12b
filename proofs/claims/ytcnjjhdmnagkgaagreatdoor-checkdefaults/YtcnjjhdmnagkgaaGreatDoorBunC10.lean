/- Put together by a program out of these texts of mine: Ext, VLast, VThen, XHeld. -/
import Derived.Deep.QuietTactic
import Derived.BigQuiet
import Derived.OrdersHeld
import Derived.Test.YtcnjjhdmnagkgaaGreatDoorBunC1

namespace Go.Proofs.YtcnjjhdmnagkgaaGreatDoor
open Go.RowKit

structure Ext (W0 : World) where
  val : World
  ok : Below W0.heap.size W0 val

instance (W0 : World) : Nonempty (Ext W0) := ⟨⟨W0, Below.refl _ _⟩⟩

theorem wp_region_ext {P : Program} {id : Nat} {Q : Exit → Act → World → Prop} {a : Act} {w : World} {l : List Oper} (W0 : World) (h0 : Below W0.heap.size W0 w) (hm : P.follows .mixedOrders = true) (hB : Region.lexB .any l.toArray = true)
    (h : wpQuiet P l.toArray (fun w' => ∃ x : Ext W0, w' = x.val) (fun a' => ∀ w', (∃ x : Ext W0, w' = x.val) → Q .normal a' w') l a) : (Code.region id l.toArray true).wp P Q a w :=
  wp_region_quiet (C := fun w' => ∃ x : Ext W0, w' = x.val) hm hB ⟨⟨_, h0.drew⟩, rfl⟩ (by simpa using h)

theorem Ext.call {P : Program} {W0 : World} {f : FuncId} {args : Array Value} {v : Value} (q : ∀ V, Below W0.heap.size W0 V → Calls P f args V fun e W' => e = .returned v ∧ Below V.heap.size V W') (x : Ext W0) :
    Calls P f args x.val fun e w'' => e = .returned v ∧ ∃ y : Ext W0, w'' = y.val :=
  (q x.val x.ok).mono fun _ w'' ⟨he, hb⟩ => ⟨he, ⟨w'', x.ok.trans (hb.mono x.ok.size)⟩, rfl⟩

theorem Ext.call_same {P : Program} {W0 : World} {f : FuncId} {args : Array Value} {v : Value} (q : ∀ V, Calls P f args V fun e W' => e = .returned v ∧ V = W') (x : Ext W0) :
    Calls P f args x.val fun e w'' => e = .returned v ∧ ∃ y : Ext W0, w'' = y.val :=
  (q x.val).mono fun _ _ ⟨he, hb⟩ => ⟨he, x, hb.symm⟩

theorem Ext.cell {W0 : World} (x : Ext W0) {p : Addr} (hp : p.block < W0.heap.size) {v : Value} (h : W0.cell? p = some v) : x.val.cell? p = some v := (x.ok.cell hp).trans h

end Go.Proofs.YtcnjjhdmnagkgaaGreatDoor

namespace Go.Proofs.YtcnjjhdmnagkgaaGreatDoor
open Go.RowKit
set_option linter.unusedVariables false
set_option linter.unusedSimpArgs false

section
variable {P : Program} {ops : Array Oper} {md : Region.Mode} {C : World → Prop}

def wpAnyZ (P : Program) (md : Region.Mode) (ops : Array Oper) (C : World → Prop) (z : Nat) (E : Act → Prop) : Nat → Array Bool → Act → Prop
  | 0, listed, a => (∀ j ∈ Region.ready md ops listed, j = z) ∧ E a
  | fuel + 1, listed, a => (∃ k, k < z ∧ listed.getD k true = false) ∧ ∀ i ∈ Region.ready md ops listed, i ≠ z → qOp P ops C i (wpAnyZ P md ops C z E fuel (listed.setIfInBounds i true)) a

theorem wpAnyZ_first {E : Act → Prop} {z i : Nat} {oi : Oper} {v : Value} (hi : ops[i]? = some oi) (hiz : i < z) (hsel : ∀ (j : Nat) (o : Oper) cs b, ops[j]? = some o → o.op ≠ .select cs b) :
    ∀ (fuel : Nat) (listed : Array Bool) (a : Act),
      (∀ j oj, ops[j]? = some oj → j ≠ i → listed.getD j true = false → (∀ e ∈ oj.after, Region.binds md e = true → e.on ≠ i) → oi.apart ops oj = true) →
      i ∈ Region.ready md ops listed → YieldsIn P ops C oi v a →
      wpAnyZ P md ops C z E fuel (listed.setIfInBounds i true) (a.put oi.dst v) → wpAnyZ P md ops C z E (fuel + 1) listed a := by
  intro fuel
  induction fuel with
  | zero =>
    intro listed a _ hr hy H
    refine ⟨⟨i, hiz, (mem_ready.1 hr).1⟩, fun j hj hjz => ?_⟩
    by_cases hji : j = i
    · subst hji; exact hy.qOp hi H
    · exact absurd (H.1 j (ready_mono hj hji)) hjz
  | succ fuel ih =>
    intro listed a hfree hr hy H
    refine ⟨⟨i, hiz, (mem_ready.1 hr).1⟩, fun j hj hjz => ?_⟩
    by_cases hji : j = i
    · subst hji; exact hy.qOp hi H
    · have h1 := H.2 j (ready_mono hj hji) hjz
      obtain ⟨hjun, oj, hoj, hall⟩ := mem_ready.1 hj
      have hnot : ∀ e ∈ oj.after, Region.binds md e = true → e.on ≠ i := fun e he hb heq => by
        have h1 := hall e he hb
        have h0 := (mem_ready.1 hr).1
        rw [heq] at h1
        rcases Nat.lt_or_ge i listed.size with h' | h'
        · simp [h'] at h0 h1; rw [h0] at h1; cases h1
        · simp [Array.getElem?_eq_none h'] at h1
      have h2 := qOp_put hoj (hfree j oj hoj hji hjun hnot) (fun cs b => hsel i oi cs b hi) (fun cs b => hsel j oj cs b hoj) hy h1
      have hfree' : ∀ k ok, ops[k]? = some ok → k ≠ i → (listed.setIfInBounds j true).getD k true = false →
          (∀ e ∈ ok.after, Region.binds md e = true → e.on ≠ i) → oi.apart ops ok = true := fun k ok hk hki hun hno => by
        refine hfree k ok hk hki ?_ hno
        by_cases hjk : j = k
        · subst hjk; exact hjun
        · rw [getD_set_ne true hjk] at hun; exact hun
      refine qOp_mono (fun a' h3 => ih (listed.setIfInBounds j true) a' hfree' (ready_mono hr (Ne.symm hji)) h3.1 ?_) h2
      rw [Array.setIfInBounds_comm _ _ hji]
      exact h3.2

def lexZ (md : Region.Mode) (ops : Array Oper) (z : Nat) : Nat → Nat → Array Bool → Bool
  | 0, _, listed => (Region.ready md ops listed).all (fun j => decide (j = z))
  | fuel + 1, k, listed => (Region.ready md ops listed).contains k && Region.free md ops listed k && decide (k < z) && lexZ md ops z fuel (k + 1) (listed.setIfInBounds k true)

theorem wpAnyZ_lex {E : Act → Prop} {z : Nat} (hs : Region.noSelect ops = true) : ∀ (l : List Oper) (k : Nat) (listed : Array Bool) (a : Act), (∀ j, j < l.length → l[j]? = ops[k + j]?) →
    lexZ md ops z l.length k listed = true → wpQuiet P ops C E l a → wpAnyZ P md ops C z E l.length listed a
  | [], _, _, _, _, hB, h => ⟨fun j hj => by simpa using List.all_eq_true.1 hB j hj, h⟩
  | o :: l, k, listed, a, hl, hB, h => by
    have h0 : ops[k]? = some o := by simpa using (hl 0 (by simp)).symm
    simp only [List.length_cons, lexZ, Bool.and_eq_true] at hB
    obtain ⟨⟨⟨hr, hf⟩, hk⟩, hB'⟩ := hB
    have hst : qOp P ops C k (wpQuiet P ops C E l) a := by unfold qOp; simp only [h0]; exact h
    obtain ⟨v, hy, hK⟩ := yieldsIn_of_qOp h0 hst
    exact wpAnyZ_first h0 (of_decide_eq_true hk) (Region.noSelect_spec hs) l.length listed a (Region.free_spec h0 hf) (by simpa using hr) hy
      (wpAnyZ_lex hs l (k + 1) _ _ (fun j hj => by have := hl (j + 1) (by simp; omega); simpa [Nat.add_assoc, Nat.add_comm 1 j] using this) hB' hK)

def waited (md : Region.Mode) (ops : Array Oper) (z : Nat) : Bool :=
  decide (ops.size = z + 1) && (List.range ops.size).all (fun i => match ops[i]? with
    | some o => o.after.all (fun e => !Region.binds md e || decide (e.on < i))
    | none => false) && (List.range z).all (fun k => (List.range ops.size).any (fun i => match ops[i]? with
    | some o => o.after.any (fun e => Region.binds md e && decide (e.on = k))
    | none => false))

def Dc (md : Region.Mode) (ops : Array Oper) (listed : Array Bool) : Prop :=
  ∀ (i : Nat) (o : Oper), ops[i]? = some o → listed.getD i true = true → ∀ e ∈ o.after, Region.binds md e = true → listed.getD e.on true = true

theorem getD_set_t (l : Array Bool) (i k : Nat) (h : l.getD k true = true) : (l.setIfInBounds i true).getD k true = true := by
  by_cases hk : i = k
  · subst hk
    by_cases hi : i < l.size
    · simp [hi]
    · simp [Array.getD_eq_getD_getElem?, hi]
  · rw [getD_set_ne true hk]; exact h

theorem ready_true {i : Nat} {listed : Array Bool} (hi : i ∈ Region.ready md ops listed) : ∃ o, ops[i]? = some o ∧ listed.getD i true = false ∧ ∀ e ∈ o.after, Region.binds md e = true → listed.getD e.on true = true := by
  obtain ⟨h1, o, ho, h2⟩ := mem_ready.1 hi
  refine ⟨o, ho, h1, fun e he hb => ?_⟩
  have := h2 e he hb
  rw [Array.getD_eq_getD_getElem?] at this ⊢
  cases hq : listed[e.on]? with
  | none => simp
  | some b => rw [hq] at this; simpa using this

theorem Dc.set {i : Nat} {listed : Array Bool} (h : Dc md ops listed) (hi : i ∈ Region.ready md ops listed) (hs : listed.size = ops.size) : Dc md ops (listed.setIfInBounds i true) := by
  intro k o ho hk e he hb
  obtain ⟨oi, hoi, _, h2⟩ := ready_true hi
  refine getD_set_t _ _ _ ?_
  by_cases hki : i = k
  · subst hki
    rw [hoi] at ho
    cases ho
    exact h2 e he hb
  · rw [getD_set_ne true hki] at hk
    exact h k o ho hk e he hb

theorem all_listed {z : Nat} (hw : waited md ops z = true) {listed : Array Bool} (h : Dc md ops listed) (hz : z ∈ Region.ready md ops listed) : ∀ k, k < z → listed.getD k true = true := by
  simp only [waited, Bool.and_eq_true, decide_eq_true_eq] at hw
  obtain ⟨⟨hsz, hlt⟩, hall⟩ := hw
  have key : ∀ d k, k + d = z → d ≠ 0 → listed.getD k true = true := by
    intro d
    induction d using Nat.strongRecOn with
    | _ d ih =>
      intro k hk hd
      have h1 := List.all_eq_true.1 hall k (List.mem_range.2 (by omega))
      obtain ⟨i, hi, h2⟩ := List.any_eq_true.1 h1
      have hi' := List.mem_range.1 hi
      cases ho : ops[i]? with
      | none => rw [ho] at h2; cases h2
      | some o =>
        rw [ho] at h2
        obtain ⟨j, hj, h3⟩ := Array.any_eq_true.1 h2
        rw [Bool.and_eq_true] at h3
        have hon : o.after[j].on = k := of_decide_eq_true h3.2
        have hki : k < i := by
          have h4 := List.all_eq_true.1 hlt i hi
          rw [ho] at h4
          have h5 := Array.all_eq_true_iff_forall_mem.1 h4 o.after[j] (Array.getElem_mem hj)
          rw [h3.1] at h5
          rw [← hon]
          simpa using h5
        by_cases hiz : i = z
        · subst hiz
          obtain ⟨oz, hoz, _, h5⟩ := ready_true hz
          rw [hoz] at ho
          cases ho
          rw [← hon]
          exact h5 _ (Array.getElem_mem hj) h3.1
        · have h5 := ih (z - i) (by omega) i (by omega) (by omega)
          rw [← hon]
          exact h i o ho h5 _ (Array.getElem_mem hj) h3.1
  intro k hk
  exact key (z - k) k (by omega) (by omega)

theorem some_ready {z : Nat} (hw : waited md ops z = true) {listed : Array Bool} (hs : listed.size = ops.size) (hz : listed.getD z true = false) : ∃ k, k ∈ Region.ready md ops listed := by
  simp only [waited, Bool.and_eq_true, decide_eq_true_eq] at hw
  obtain ⟨⟨hsz, hlt⟩, _⟩ := hw
  have key : ∀ i, i ≤ z → listed.getD i true = false → ∃ k, k ∈ Region.ready md ops listed := by
    intro i
    induction i using Nat.strongRecOn with
    | _ i ih =>
      intro hi hu
      by_cases hall : ∀ j, j < i → listed.getD j true = true
      · have hio : i < ops.size := by omega
        refine ⟨i, mem_ready.2 ⟨hu, ops[i], Array.getElem?_eq_getElem hio, fun e he hb => ?_⟩⟩
        have h4 := List.all_eq_true.1 hlt i (List.mem_range.2 hio)
        rw [Array.getElem?_eq_getElem hio] at h4
        have h5 := Array.all_eq_true_iff_forall_mem.1 h4 e he
        rw [hb] at h5
        have h6 : e.on < i := by simpa using h5
        have := hall e.on h6
        have hl : e.on < listed.size := by omega
        simp [hl] at this ⊢
        exact this
      · obtain ⟨j, hj⟩ := Classical.not_forall.1 hall
        obtain ⟨h1, h2⟩ := Classical.not_imp.1 hj
        exact ih j h1 (by omega) (by simpa using h2)
  exact key z (Nat.le_refl _) hz

theorem wpAny_of_Z {z : Nat} (hw : waited md ops z = true) {E : Act → Prop} {Q : Exit → Act → World → Prop} (hE : ∀ a w, C w → E a → wpOp P ops Q z (fun a' w' => Q .normal a' w') a w) :
    ∀ (fuel : Nat) (listed : Array Bool) (a : Act) (w : World), C w → listed.size = ops.size → listed.getD z true = false → Dc md ops listed → wpAnyZ P md ops C z E fuel listed a → wpAny P md ops Q (fuel + 1) listed a w
  | 0, listed, a, w, hC, hs, hz, hd, h => by
    refine ⟨fun h0 => ?_, fun i hi => ?_⟩
    · obtain ⟨k, hk⟩ := some_ready hw hs hz
      rw [h0] at hk
      cases hk
    · obtain rfl := h.1 i hi
      refine wpOp_mono (fun a' w' h' => ⟨?_, h'⟩) (hE a w hC h.2)
      refine List.eq_nil_iff_forall_not_mem.2 fun j hj => ?_
      have hall := all_listed hw hd hi
      have hj1 := (mem_ready.1 hj).1
      have hsz : ops.size = i + 1 := by simp only [waited, Bool.and_eq_true, decide_eq_true_eq] at hw; exact hw.1.1
      have hjs : j < i + 1 := by
        obtain ⟨_, o, ho, _⟩ := mem_ready.1 hj
        have := (Array.getElem?_eq_some_iff.1 ho).1
        omega
      by_cases hji : j = i
      · subst hji
        have hl : j < listed.size := by omega
        simp [hl] at hj1
      · have := getD_set_t listed i j (hall j (by omega))
        rw [this] at hj1
        cases hj1
  | fuel + 1, listed, a, w, hC, hs, hz, hd, h => by
    refine ⟨fun h0 => ?_, fun i hi => ?_⟩
    · obtain ⟨k, hk⟩ := some_ready hw hs hz
      rw [h0] at hk
      cases hk
    · by_cases hiz : i = z
      · subst hiz
        obtain ⟨k, hk, hk2⟩ := h.1
        have := all_listed hw hd hi k hk
        rw [this] at hk2
        cases hk2
      · exact wpOp_of_qOp hC (fun a' w' hC' h' => wpAny_of_Z hw hE fuel _ a' w' hC' (by simpa using hs) (by rw [getD_set_ne true hiz]; exact hz) (hd.set hi hs) h') (h.2 i hi hiz)

theorem wp_region_last {id : Nat} {Q : Exit → Act → World → Prop} {a : Act} {w : World} (C : World → Prop) {l : List Oper} {oz : Oper} (hm : P.follows .mixedOrders = true)
    (hs : Region.noSelect (l ++ [oz]).toArray = true) (hl : lexZ .any (l ++ [oz]).toArray l.length l.length 0 (Array.replicate (l ++ [oz]).length false) = true) (hw : waited .any (l ++ [oz]).toArray l.length = true) (hC : C { w with drawn := w.drawn + 1 })
    (h : wpQuiet P (l ++ [oz]).toArray C (fun a' => ∀ w', C w' → wpOp P (l ++ [oz]).toArray Q l.length (fun a'' w'' => Q .normal a'' w'') a' w') l a) : (Code.region id (l ++ [oz]).toArray true).wp P Q a w := by
  refine wp_region_any hm ?_
  have h1 := wpAnyZ_lex (C := C) (md := .any) hs l 0 (Array.replicate (l ++ [oz]).length false) a (fun j hj => by simp [List.getElem?_append_left hj]) hl h
  have h2 := wpAny_of_Z (C := C) hw (Q := Q) (E := fun a' => ∀ w', C w' → wpOp P (l ++ [oz]).toArray Q l.length (fun a'' w'' => Q .normal a'' w'') a' w') (fun a w hc he => he w hc) l.length _ a _ hC (by simp) (by simp) (fun i o ho hi e he hb => by
    have : i < (l ++ [oz]).length := by simpa using (Array.getElem?_eq_some_iff.1 ho).1
    rw [Array.getD_eq_getD_getElem?, Array.getElem?_replicate, if_pos this] at hi
    cases hi) h1
  simpa using h2

end

theorem wpOp_listV {P : Program} {ops : Array Oper} {Q : Exit → Act → World → Prop} {i : Nat} {K : Act → World → Prop} {a : Act} {w : World} {o : Oper} (ho : ops[i]? = some o)
    (h : ∀ Q' : Exit → Act → World → Prop, (∀ a w, K a w → Q' .normal a w) → wpList P ops Q' [o] a w) : wpOp P ops Q i K a w := by
  have h1 := h (fun e a w => match e with | .normal => K a w | e => Q e a w) (fun _ _ h => h)
  unfold wpOp
  simp only [ho]
  simp only [wpList] at h1
  split
  · rename_i hw
    rw [if_pos hw] at h1
    refine h1.imp (fun h2 => ?_) (fun h2 => ⟨h2.1, h2.2⟩)
    unfold Oper.wp at *
    generalize (execOp a.eval o).run P w = r at *
    cases r with
    | ok n w' =>
      cases n <;> simp only [Oper.upon] at h2 ⊢ <;>
        first
          | exact h2
          | exact Calls.mono h2 (fun e w'' he => by cases e <;> exact he)
    | halt x w' => cases x <;> simp only [Oper.upon] at h2 ⊢ <;> exact h2
  · rename_i hw
    rw [if_neg hw] at h1
    exact h1

theorem wp_region_elast0 {P : Program} {id : Nat} {Q : Exit → Act → World → Prop} {a : Act} {w : World} {l ls : List Oper} {oz : Oper} (W0 : World) (h0 : Below W0.heap.size W0 w) (he : ls = l ++ [oz]) (hm : P.follows .mixedOrders = true)
    (hs : Region.noSelect ls.toArray = true) (hl : lexZ .any ls.toArray l.length l.length 0 (Array.replicate ls.length false) = true) (hw : waited .any ls.toArray l.length = true)
    (h : wpQuiet P ls.toArray (fun w' => ∃ x : Ext W0, w' = x.val) (fun a' => ∀ w', (∃ x : Ext W0, w' = x.val) → ∀ Q' : Exit → Act → World → Prop, (∀ a w, Q .normal a w → Q' .normal a w) → wpList P ls.toArray Q' [oz] a' w') l a) : (Code.region id ls.toArray true).wp P Q a w := by
  subst he
  refine wp_region_last (fun w' => ∃ x : Ext W0, w' = x.val) hm hs hl hw ⟨⟨_, h0.drew⟩, rfl⟩ ?_
  have mono : ∀ (l' : List Oper) (a : Act) (Q1 Q2 : Act → Prop), (∀ a, Q1 a → Q2 a) → wpQuiet P (l ++ [oz]).toArray (fun w' => ∃ x : Ext W0, w' = x.val) Q1 l' a → wpQuiet P (l ++ [oz]).toArray (fun w' => ∃ x : Ext W0, w' = x.val) Q2 l' a := by
    intro l'
    induction l' with
    | nil => intro a Q1 Q2 hq h1; exact hq _ h1
    | cons o r ih =>
      intro a Q1 Q2 hq h1
      unfold wpQuiet at h1 ⊢
      split
      · rename_i hw'
        rw [if_pos hw'] at h1
        exact Oper.quiet_mono (fun a h2 => ih a Q1 Q2 hq h2) h1
      · rename_i hw'
        rw [if_neg hw'] at h1
        exact ih _ Q1 Q2 hq h1
  refine mono l a _ _ (fun a' h1 w' hx => ?_) h
  exact wpOp_listV (o := oz) (by simp) (fun Q' hq => h1 w' hx Q' (fun a w hh => hq a w hh))

theorem wp_region_elast {P : Program} {id : Nat} {Q : Exit → Act → World → Prop} {a : Act} {w : World} {ls : List Oper} {oz : Oper} (W0 : World) (h0 : Below W0.heap.size W0 w) (hz : ls.getLast? = some oz) (hm : P.follows .mixedOrders = true)
    (hs : Region.noSelect ls.toArray = true) (hl : lexZ .any ls.toArray ls.dropLast.length ls.dropLast.length 0 (Array.replicate ls.length false) = true) (hw : waited .any ls.toArray ls.dropLast.length = true)
    (h : wpQuiet P ls.toArray (fun w' => ∃ x : Ext W0, w' = x.val) (fun a' => ∀ w', (∃ x : Ext W0, w' = x.val) → ∀ Q' : Exit → Act → World → Prop, (∀ a w, Q .normal a w → Q' .normal a w) → wpList P ls.toArray Q' [oz] a' w') ls.dropLast a) : (Code.region id ls.toArray true).wp P Q a w :=
  wp_region_elast0 W0 h0 (by obtain ⟨l', rfl⟩ := List.getLast?_eq_some_iff.1 hz; simp) hm hs hl hw h

theorem wpOp_listP {P : Program} {ops : Array Oper} {Q : Exit → Act → World → Prop} {i : Nat} {K : Act → World → Prop} {a : Act} {w : World} {o : Oper} (ho : ops[i]? = some o)
    (h : ∀ Q' : Exit → Act → World → Prop, (∀ a w, K a w → Q' .normal a w) → (∀ c a w, Q (.panic c) a w → Q' (.panic c) a w) → wpList P ops Q' [o] a w) : wpOp P ops Q i K a w := by
  have h1 := h (fun e a w => match e with | .normal => K a w | e => Q e a w) (fun _ _ h => h) (fun _ _ _ h => h)
  unfold wpOp
  simp only [ho]
  simp only [wpList] at h1
  split
  · rename_i hw
    rw [if_pos hw] at h1
    refine h1.imp (fun h2 => ?_) (fun h2 => ⟨h2.1, h2.2⟩)
    unfold Oper.wp at *
    generalize (execOp a.eval o).run P w = r at *
    cases r with
    | ok n w' =>
      cases n <;> simp only [Oper.upon] at h2 ⊢ <;>
        first
          | exact h2
          | exact Calls.mono h2 (fun e w'' he => by cases e <;> exact he)
    | halt x w' => cases x <;> simp only [Oper.upon] at h2 ⊢ <;> exact h2
  · rename_i hw
    rw [if_neg hw] at h1
    exact h1

section
variable {P : Program} {ops : Array Oper} {md : Region.Mode} {C : World → Prop}

def waitedT (md : Region.Mode) (ops : Array Oper) (z : Nat) : Bool :=
  decide (z < ops.size) && (List.range ops.size).all (fun i => match ops[i]? with
    | some o => o.after.all (fun e => !Region.binds md e || decide (e.on < i))
    | none => false) && (List.range z).all (fun k => (List.range (z + 1)).any (fun i => match ops[i]? with
    | some o => o.after.any (fun e => Region.binds md e && decide (e.on = k))
    | none => false)) && (List.range ops.size).all (fun i => decide (i ≤ z) || match ops[i]? with
    | some o => o.after.any (fun e => Region.binds md e && decide (z ≤ e.on))
    | none => false)

theorem all_listedT {z : Nat} (hw : waitedT md ops z = true) {listed : Array Bool} (h : Dc md ops listed) (hz : z ∈ Region.ready md ops listed) : ∀ k, k < z → listed.getD k true = true := by
  simp only [waitedT, Bool.and_eq_true, decide_eq_true_eq] at hw
  obtain ⟨⟨⟨hsz, hlt⟩, hall⟩, _⟩ := hw
  have key : ∀ d k, k + d = z → d ≠ 0 → listed.getD k true = true := by
    intro d
    induction d using Nat.strongRecOn with
    | _ d ih =>
      intro k hk hd
      have h1 := List.all_eq_true.1 hall k (List.mem_range.2 (by omega))
      obtain ⟨i, hi, h2⟩ := List.any_eq_true.1 h1
      have hi' := List.mem_range.1 hi
      cases ho : ops[i]? with
      | none => rw [ho] at h2; cases h2
      | some o =>
        rw [ho] at h2
        obtain ⟨j, hj, h3⟩ := Array.any_eq_true.1 h2
        rw [Bool.and_eq_true] at h3
        have hon : o.after[j].on = k := of_decide_eq_true h3.2
        have hki : k < i := by
          have h4 := List.all_eq_true.1 hlt i (List.mem_range.2 (by omega))
          rw [ho] at h4
          have h5 := Array.all_eq_true_iff_forall_mem.1 h4 o.after[j] (Array.getElem_mem hj)
          rw [h3.1] at h5
          rw [← hon]
          simpa using h5
        by_cases hiz : i = z
        · subst hiz
          obtain ⟨oz, hoz, _, h5⟩ := ready_true hz
          rw [hoz] at ho
          cases ho
          rw [← hon]
          exact h5 _ (Array.getElem_mem hj) h3.1
        · have h5 := ih (z - i) (by omega) i (by omega) (by omega)
          rw [← hon]
          exact h i o ho h5 _ (Array.getElem_mem hj) h3.1
  intro k hk
  exact key (z - k) k (by omega) (by omega)

theorem first_ready {z : Nat} (hw : waitedT md ops z = true) {listed : Array Bool} (hs : listed.size = ops.size) (hz : listed.getD z true = false) : ∃ k, k ≤ z ∧ k ∈ Region.ready md ops listed ∧ ∀ j, j < k → listed.getD j true = true := by
  simp only [waitedT, Bool.and_eq_true, decide_eq_true_eq] at hw
  obtain ⟨⟨⟨hsz, hlt⟩, _⟩, _⟩ := hw
  have key : ∀ i, i ≤ z → listed.getD i true = false → ∃ k, k ≤ z ∧ k ∈ Region.ready md ops listed ∧ ∀ j, j < k → listed.getD j true = true := by
    intro i
    induction i using Nat.strongRecOn with
    | _ i ih =>
      intro hi hu
      by_cases hall : ∀ j, j < i → listed.getD j true = true
      · have hio : i < ops.size := by omega
        refine ⟨i, hi, mem_ready.2 ⟨hu, ops[i], Array.getElem?_eq_getElem hio, fun e he hb => ?_⟩, hall⟩
        have h4 := List.all_eq_true.1 hlt i (List.mem_range.2 hio)
        rw [Array.getElem?_eq_getElem hio] at h4
        have h5 := Array.all_eq_true_iff_forall_mem.1 h4 e he
        rw [hb] at h5
        have h6 : e.on < i := by simpa using h5
        have := hall e.on h6
        have hl : e.on < listed.size := by omega
        simp [hl] at this ⊢
        exact this
      · obtain ⟨j, hj⟩ := Classical.not_forall.1 hall
        obtain ⟨h1, h2⟩ := Classical.not_imp.1 hj
        exact ih j h1 (by omega) (by simpa using h2)
  exact key z (Nat.le_refl _) hz

def preL (n z : Nat) : Array Bool := (List.replicate z true ++ List.replicate (n - z) false).toArray

theorem wpAny_of_T {z : Nat} (hw : waitedT md ops z = true) {E : Act → Prop} {Q : Exit → Act → World → Prop} (hE : ∀ a w, C w → E a → wpAny P md ops Q (ops.size - z) (preL ops.size z) a w) :
    ∀ (fuel : Nat) (listed : Array Bool) (a : Act) (w : World), C w → listed.size = ops.size → (∀ k, z ≤ k → k < ops.size → listed.getD k true = false) → Dc md ops listed → wpAnyZ P md ops C z E fuel listed a → wpAny P md ops Q (fuel + (ops.size - z)) listed a w
  | 0, listed, a, w, hC, hs, hz, hd, h => by
    have hzs : z < ops.size := by simp only [waitedT, Bool.and_eq_true, decide_eq_true_eq] at hw; exact hw.1.1.1
    obtain ⟨k, hkz, hk, hall⟩ := first_ready hw hs (hz z (Nat.le_refl _) hzs)
    obtain rfl := h.1 k hk
    have e : listed = preL ops.size k := by
      apply Array.ext_getElem?
      intro i
      have e0 : (preL ops.size k)[i]? = (List.replicate k true ++ List.replicate (ops.size - k) false)[i]? := by unfold preL; simp
      rw [e0]
      by_cases hi : i < ops.size
      · have hl : i < listed.size := by omega
        by_cases hik : i < k
        · have := hall i hik
          rw [Array.getD_eq_getD_getElem?, Array.getElem?_eq_getElem hl] at this
          rw [List.getElem?_append_left (by simpa using hik), List.getElem?_replicate, if_pos hik, Array.getElem?_eq_getElem hl]
          simpa using this
        · have := hz i (by omega) hi
          rw [Array.getD_eq_getD_getElem?, Array.getElem?_eq_getElem hl] at this
          rw [List.getElem?_append_right (by simpa using hik), List.length_replicate, List.getElem?_replicate, if_pos (by omega), Array.getElem?_eq_getElem hl]
          simpa using this
      · rw [Array.getElem?_eq_none (by omega), List.getElem?_eq_none (by simp; omega)]
    rw [Nat.zero_add, e]
    exact hE a w hC h.2
  | fuel + 1, listed, a, w, hC, hs, hz, hd, h => by
    have hzs : z < ops.size := by simp only [waitedT, Bool.and_eq_true, decide_eq_true_eq] at hw; exact hw.1.1.1
    rw [Nat.add_right_comm]
    refine ⟨fun h0 => ?_, fun i hi => ?_⟩
    · obtain ⟨k, _, hk, _⟩ := first_ready hw hs (hz z (Nat.le_refl _) hzs)
      rw [h0] at hk
      cases hk
    · have hio : i < ops.size := by obtain ⟨o, ho, _⟩ := ready_true hi; exact (Array.getElem?_eq_some_iff.1 ho).1
      rcases Nat.lt_trichotomy i z with hiz | hiz | hiz
      · exact wpOp_of_qOp hC (fun a' w' hC' h' => wpAny_of_T hw hE fuel _ a' w' hC' (by simpa using hs) (fun k hk hk2 => by rw [getD_set_ne true (by omega)]; exact hz k hk hk2) (hd.set hi hs) h') (h.2 i hi (by omega))
      · subst hiz
        obtain ⟨k, hk, hk2⟩ := h.1
        have := all_listedT hw hd hi k hk
        rw [this] at hk2
        cases hk2
      · exfalso
        have hw4 : (List.range ops.size).all (fun i => decide (i ≤ z) || match ops[i]? with
            | some o => o.after.any (fun e => Region.binds md e && decide (z ≤ e.on))
            | none => false) = true := by simp only [waitedT, Bool.and_eq_true] at hw; exact hw.2
        have h4 := List.all_eq_true.1 hw4 i (List.mem_range.2 hio)
        obtain ⟨o, ho, _, h5⟩ := ready_true hi
        rw [ho] at h4
        have h6 : o.after.any (fun e => Region.binds md e && decide (z ≤ e.on)) = true := by
          rw [Bool.or_eq_true] at h4
          rcases h4 with h4 | h4
          · simp at h4; omega
          · exact h4
        obtain ⟨j, hj, h7⟩ := Array.any_eq_true.1 h6
        rw [Bool.and_eq_true] at h7
        have h8 := h5 _ (Array.getElem_mem hj) h7.1
        have hon : o.after[j].on < i := by
          simp only [waitedT, Bool.and_eq_true] at hw
          have h9 := List.all_eq_true.1 hw.1.1.2 i (List.mem_range.2 hio)
          rw [ho] at h9
          have h10 := Array.all_eq_true_iff_forall_mem.1 h9 o.after[j] (Array.getElem_mem hj)
          rw [h7.1] at h10
          simpa using h10
        have h11 := hz _ (of_decide_eq_true h7.2) (by omega)
        rw [h11] at h8
        cases h8

theorem wp_region_then {id : Nat} {Q : Exit → Act → World → Prop} {a : Act} {w : World} {ls : List Oper} (W0 : World) (z r : Nat) (hr : ls.length - z = r) (h0 : Below W0.heap.size W0 w) (hm : P.follows .mixedOrders = true)
    (hs : Region.noSelect ls.toArray = true) (hl : lexZ .any ls.toArray z z 0 (Array.replicate ls.length false) = true) (hw : waitedT .any ls.toArray z = true)
    (h : wpQuiet P ls.toArray (fun w' => ∃ x : Ext W0, w' = x.val) (fun a' => ∀ w', (∃ x : Ext W0, w' = x.val) → wpAny P .any ls.toArray Q r (preL ls.length z) a' w') (ls.take z) a) : (Code.region id ls.toArray true).wp P Q a w := by
  subst hr
  refine wp_region_any hm ?_
  have hzs : z < ls.length := by simp only [waitedT, Bool.and_eq_true, decide_eq_true_eq] at hw; simpa using hw.1.1.1
  have htk : (ls.take z).length = z := by rw [List.length_take]; omega
  have h1 := wpAnyZ_lex (C := fun w' => ∃ x : Ext W0, w' = x.val) (md := .any) (z := z) hs (ls.take z) 0 (Array.replicate ls.length false) a (fun j hj => by rw [htk] at hj; simp [List.getElem?_take, hj]) (by rw [htk]; exact hl) h
  rw [htk] at h1
  have h2 := wpAny_of_T (C := fun w' => ∃ x : Ext W0, w' = x.val) hw (Q := Q) (E := fun a' => ∀ w', (∃ x : Ext W0, w' = x.val) → wpAny P .any ls.toArray Q (ls.length - z) (preL ls.length z) a' w') (fun a w hc he => by simpa using he w hc) z _ a w.drew ⟨⟨_, h0.drew⟩, rfl⟩ (by simp) (fun k hk hk2 => by
    have : k < ls.length := by simpa using hk2
    rw [Array.getD_eq_getD_getElem?, Array.getElem?_replicate, if_pos this]
    rfl) (fun i o ho hi e he hb => by
    have : i < ls.length := by simpa using (Array.getElem?_eq_some_iff.1 ho).1
    rw [Array.getD_eq_getD_getElem?, Array.getElem?_replicate, if_pos this] at hi
    cases hi) h1
  have e : z + (ls.toArray.size - z) = ls.toArray.size := by simp; omega
  rw [e] at h2
  simpa using h2

theorem wpAny_force {Q : Exit → Act → World → Prop} {r i : Nat} {listed : Array Bool} {a : Act} {w : World} {o : Oper} (hr : Region.ready md ops listed = [i]) (ho : ops[i]? = some o)
    (h : ∀ Q' : Exit → Act → World → Prop, (∀ a w, wpAny P md ops Q r (listed.setIfInBounds i true) a w → Q' .normal a w) → (∀ c a w, Q (.panic c) a w → Q' (.panic c) a w) → wpList P ops Q' [o] a w) : wpAny P md ops Q (r + 1) listed a w := by
  refine ⟨fun h0 => (by rw [h0] at hr; cases hr), fun j hj => ?_⟩
  rw [hr] at hj
  obtain rfl := List.mem_singleton.1 hj
  exact wpOp_listP ho h

theorem wpAny_end {Q : Exit → Act → World → Prop} {listed : Array Bool} {a : Act} {w : World} (hr : Region.ready md ops listed = []) (h : Q .normal a w) : wpAny P md ops Q 0 listed a w := ⟨hr, h⟩

end

section
variable {P : Program} {md : Region.Mode} {ops : Array Oper} {Q : Exit → Act → World → Prop} {S : World → Prop} {z : Nat}

def wpAnyG (P : Program) (md : Region.Mode) (ops : Array Oper) (Q : Exit → Act → World → Prop) (S : World → Prop) (z : Nat) : Nat → Array Bool → Act → World → Prop
  | 0, listed, a, w => Region.ready md ops listed = [] ∧ Q .normal a w
  | fuel + 1, listed, a, w =>
    (Region.ready md ops listed = [] → Q .normal a w) ∧
    ∀ i ∈ Region.ready md ops listed, wpOp P ops Q i (fun a' w' => (i = z ∨ S w') ∧ wpAnyG P md ops Q S z fuel (listed.setIfInBounds i true) a' w') a w

theorem wpAny_of_G : ∀ (fuel : Nat) (listed : Array Bool) (a : Act) (w : World), wpAnyG P md ops Q S z fuel listed a w → wpAny P md ops Q fuel listed a w
  | 0, _, _, _, h => h
  | fuel + 1, _, _, _, h => ⟨h.1, fun i hi => wpOp_mono (fun a' w' h' => wpAny_of_G fuel _ a' w' h'.2) (h.2 i hi)⟩

theorem wpAnyG_first {i : Nat} {oi oz : Oper} {v : Value} (hi : ops[i]? = some oi) (hz : ops[z]? = some oz) (hiz : i ≠ z) (hzi : ∃ e ∈ oz.after, Region.binds md e = true ∧ e.on = i) (hsel : ∀ (j : Nat) (o : Oper) cs b, ops[j]? = some o → o.op ≠ .select cs b)
    (hQ : ∀ c a w, Q (.panic c) (a.put oi.dst v) w → Q (.panic c) a w) :
    ∀ (fuel : Nat) (listed : Array Bool) (a : Act) (w : World),
      (∀ j oj, ops[j]? = some oj → j ≠ i → listed.getD j true = false → (∀ e ∈ oj.after, Region.binds md e = true → e.on ≠ i) → oi.apart ops oj = true) →
      i ∈ Region.ready md ops listed → YieldsIf P ops S oi v a → S w →
      wpAnyG P md ops Q S z fuel (listed.setIfInBounds i true) (a.put oi.dst v) w → wpAnyG P md ops Q S z (fuel + 1) listed a w := by
  intro fuel
  induction fuel with
  | zero =>
    intro listed a w _ hr hy hS H
    refine ⟨fun h => (by rw [h] at hr; cases hr), fun j hj => ?_⟩
    by_cases hji : j = i
    · subst hji; exact hy.wpOp hi hS ⟨.inr hS, H⟩
    · have := ready_mono hj hji
      rw [H.1] at this
      cases this
  | succ fuel ih =>
    intro listed a w hfree hr hy hS H
    refine ⟨fun h => (by rw [h] at hr; cases hr), fun j hj => ?_⟩
    by_cases hji : j = i
    · subst hji; exact hy.wpOp hi hS ⟨.inr hS, H⟩
    · have h1 := H.2 j (ready_mono hj hji)
      obtain ⟨hjun, oj, hoj, hall⟩ := mem_ready.1 hj
      have hnot : ∀ e ∈ oj.after, Region.binds md e = true → e.on ≠ i := fun e he hb heq => by
        have h1 := hall e he hb
        have h0 := (mem_ready.1 hr).1
        rw [heq] at h1
        rcases Nat.lt_or_ge i listed.size with h' | h'
        · simp [h'] at h0 h1; rw [h0] at h1; cases h1
        · simp [Array.getElem?_eq_none h'] at h1
      have hjz : j ≠ z := fun e => by
        subst e
        rw [hz] at hoj
        cases hoj
        obtain ⟨e, he, hb, ho⟩ := hzi
        exact hnot e he hb ho
      have h2 := wpOp_putIf hoj (hfree j oj hoj hji hjun hnot) (fun cs b => hsel i oi cs b hi) (fun cs b => hsel j oj cs b hoj) hQ hy h1
      have hfree' : ∀ k ok, ops[k]? = some ok → k ≠ i → (listed.setIfInBounds j true).getD k true = false →
          (∀ e ∈ ok.after, Region.binds md e = true → e.on ≠ i) → oi.apart ops ok = true := fun k ok hk hki hun hno => by
        refine hfree k ok hk hki ?_ hno
        by_cases hjk : j = k
        · subst hjk; exact hjun
        · rw [getD_set_ne true hjk] at hun; exact hun
      refine wpOp_mono (fun a' w' h3 => ?_) h2
      have hS' : S w' := h3.2.1.resolve_left hjz
      refine ⟨.inr hS', ih (listed.setIfInBounds j true) a' w' hfree' (ready_mono hr (Ne.symm hji)) h3.1 hS' ?_⟩
      rw [Array.setIfInBounds_comm _ _ hji]
      exact h3.2.2

def lastWaits (md : Region.Mode) (ops : Array Oper) (z i : Nat) : Bool := match ops[z]? with
  | some oz => oz.after.any (fun e => Region.binds md e && decide (e.on = i)) && decide (i ≠ z)
  | none => false

theorem wpAnyG_take {i : Nat} {oi : Oper} {v : Value} {fuel : Nat} {listed : Array Bool} {a : Act} {w : World} (hi : ops[i]? = some oi)
    (hs : Region.noSelect ops = true) (hf : Region.free md ops listed i = true) (hr : (Region.ready md ops listed).contains i = true) (hz : lastWaits md ops z i = true)
    (hQ : ∀ c a w, Q (.panic c) (a.put oi.dst v) w → Q (.panic c) a w) (hy : YieldsIf P ops S oi v a) (hS : S w)
    (h : wpAnyG P md ops Q S z fuel (listed.setIfInBounds i true) (a.put oi.dst v) w) : wpAnyG P md ops Q S z (fuel + 1) listed a w := by
  unfold lastWaits at hz
  cases hoz : ops[z]? with
  | none => rw [hoz] at hz; cases hz
  | some oz =>
    rw [hoz] at hz
    rw [Bool.and_eq_true, Array.any_eq_true] at hz
    obtain ⟨⟨k, hk, heb⟩, hne⟩ := hz
    rw [Bool.and_eq_true] at heb
    exact wpAnyG_first hi hoz (of_decide_eq_true hne) ⟨oz.after[k], Array.getElem_mem hk, heb.1, of_decide_eq_true heb.2⟩ (Region.noSelect_spec hs) hQ fuel listed a w (Region.free_spec hi hf) (by simpa using hr) hy hS h

theorem wpAnyG_all {rs : List Nat} {fuel : Nat} {listed : Array Bool} {a : Act} {w : World} (hr : Region.ready md ops listed = rs) (hne : rs ≠ [])
    (h : ∀ i ∈ rs, wpOp P ops Q i (fun a' w' => (i = z ∨ S w') ∧ wpAnyG P md ops Q S z fuel (listed.setIfInBounds i true) a' w') a w) : wpAnyG P md ops Q S z (fuel + 1) listed a w :=
  ⟨fun h0 => absurd (hr ▸ h0) hne, hr ▸ h⟩

theorem wpAnyG_done {listed : Array Bool} {a : Act} {w : World} (hr : Region.ready md ops listed = []) (h : Q .normal a w) :
    ∀ fuel, wpAnyG P md ops Q S z fuel listed a w
  | 0 => ⟨hr, h⟩
  | _ + 1 => ⟨fun _ => h, by rw [hr]; intro i hi; cases hi⟩

theorem wp_region_heldG {id : Nat} {a : Act} {w : World} (z : Nat) (hm : P.follows .mixedOrders = true) (h : wpAnyG P .any ops Q S z ops.size (Array.replicate ops.size false) a w.drew) : (Code.region id ops true).wp P Q a w :=
  wp_region_any hm (wpAny_of_G _ _ _ _ h)

end

end Go.Proofs.YtcnjjhdmnagkgaaGreatDoor
