/- A region that draws its order: all its operations but the last are quiet in a class of worlds, and the last one waits for all the others. -/
import Derived.Test.YtfkhocmbhnigeaaGreatExt
namespace Go.Proofs.YtfkhocmbhnigeaaGreat
open Go.RowKit
set_option linter.unusedVariables false
set_option linter.unusedSimpArgs false

section
variable {P : Program} {ops : Array Oper} {md : Region.Mode} {C : World → Prop}

/-- Whatever order is picked from here on, up to the last operation z. -/
def wpAnyZ (P : Program) (md : Region.Mode) (ops : Array Oper) (C : World → Prop) (z : Nat) (E : Act → Prop) : Nat → Array Bool → Act → Prop
  | 0, listed, a => (∀ j ∈ Region.ready md ops listed, j = z) ∧ E a
  | fuel + 1, listed, a => (∃ k, k < z ∧ listed.getD k true = false) ∧ ∀ i ∈ Region.ready md ops listed, i ≠ z → qOp P ops C i (wpAnyZ P md ops C z E fuel (listed.setIfInBounds i true)) a

theorem wpAnyZ_first {E : Act → Prop} {z i : Nat} {oi : Oper} {v : Value} (hi : ops[i]? = some oi) (hiz : i < z) (hsel : ∀ (j : Nat) (o : Oper) cs b, ops[j]? = some o → o.op ≠ .select cs b) :
    ∀ (fuel : Nat) (listed : Array Bool) (a : Act),
      (∀ j oj, ops[j]? = some oj → j ≠ i → listed.getD j true = false → (∀ e ∈ oj.after, Region.binds md e = true → e.on ≠ i) → oi.apart ops oj = true) →
      i ∈ Region.ready md ops listed → YieldsIn P ops C oi v a →
      wpAnyZ P md ops C z E fuel (listed.setIfInBounds i true) (a.put oi.dst v) → wpAnyZ P md ops C z E (fuel + 1) listed a := by
  intro fuel
  induction fuel with
  | zero =>
    intro listed a _ hr hy H
    refine ⟨⟨i, hiz, (mem_ready.1 hr).1⟩, fun j hj hjz => ?_⟩
    by_cases hji : j = i
    · subst hji; exact hy.qOp hi H
    · exact absurd (H.1 j (ready_mono hj hji)) hjz
  | succ fuel ih =>
    intro listed a hfree hr hy H
    refine ⟨⟨i, hiz, (mem_ready.1 hr).1⟩, fun j hj hjz => ?_⟩
    by_cases hji : j = i
    · subst hji; exact hy.qOp hi H
    · have h1 := H.2 j (ready_mono hj hji) hjz
      obtain ⟨hjun, oj, hoj, hall⟩ := mem_ready.1 hj
      have hnot : ∀ e ∈ oj.after, Region.binds md e = true → e.on ≠ i := fun e he hb heq => by
        have h1 := hall e he hb
        have h0 := (mem_ready.1 hr).1
        rw [heq] at h1
        rcases Nat.lt_or_ge i listed.size with h' | h'
        · simp [h'] at h0 h1; rw [h0] at h1; cases h1
        · simp [Array.getElem?_eq_none h'] at h1
      have h2 := qOp_put hoj (hfree j oj hoj hji hjun hnot) (fun cs b => hsel i oi cs b hi) (fun cs b => hsel j oj cs b hoj) hy h1
      have hfree' : ∀ k ok, ops[k]? = some ok → k ≠ i → (listed.setIfInBounds j true).getD k true = false →
          (∀ e ∈ ok.after, Region.binds md e = true → e.on ≠ i) → oi.apart ops ok = true := fun k ok hk hki hun hno => by
        refine hfree k ok hk hki ?_ hno
        by_cases hjk : j = k
        · subst hjk; exact hjun
        · rw [getD_set_ne true hjk] at hun; exact hun
      refine qOp_mono (fun a' h3 => ih (listed.setIfInBounds j true) a' hfree' (ready_mono hr (Ne.symm hji)) h3.1 ?_) h2
      rw [Array.setIfInBounds_comm _ _ hji]
      exact h3.2

/-- The lexical order up to z. -/
def lexZ (md : Region.Mode) (ops : Array Oper) (z : Nat) : Nat → Nat → Array Bool → Bool
  | 0, _, listed => (Region.ready md ops listed).all (fun j => decide (j = z))
  | fuel + 1, k, listed => (Region.ready md ops listed).contains k && Region.free md ops listed k && decide (k < z) && lexZ md ops z fuel (k + 1) (listed.setIfInBounds k true)

theorem wpAnyZ_lex {E : Act → Prop} {z : Nat} (hs : Region.noSelect ops = true) : ∀ (l : List Oper) (k : Nat) (listed : Array Bool) (a : Act), (∀ j, j < l.length → l[j]? = ops[k + j]?) →
    lexZ md ops z l.length k listed = true → wpQuiet P ops C E l a → wpAnyZ P md ops C z E l.length listed a
  | [], _, _, _, _, hB, h => ⟨fun j hj => by simpa using List.all_eq_true.1 hB j hj, h⟩
  | o :: l, k, listed, a, hl, hB, h => by
    have h0 : ops[k]? = some o := by simpa using (hl 0 (by simp)).symm
    simp only [List.length_cons, lexZ, Bool.and_eq_true] at hB
    obtain ⟨⟨⟨hr, hf⟩, hk⟩, hB'⟩ := hB
    have hst : qOp P ops C k (wpQuiet P ops C E l) a := by unfold qOp; simp only [h0]; exact h
    obtain ⟨v, hy, hK⟩ := yieldsIn_of_qOp h0 hst
    exact wpAnyZ_first h0 (of_decide_eq_true hk) (Region.noSelect_spec hs) l.length listed a (Region.free_spec h0 hf) (by simpa using hr) hy
      (wpAnyZ_lex hs l (k + 1) _ _ (fun j hj => by have := hl (j + 1) (by simp; omega); simpa [Nat.add_assoc, Nat.add_comm 1 j] using this) hB' hK)

/-- Each operation waits for such ahead of it alone; each but the last is waited for by one behind it. -/
def waited (md : Region.Mode) (ops : Array Oper) (z : Nat) : Bool :=
  decide (ops.size = z + 1) && (List.range ops.size).all (fun i => match ops[i]? with
    | some o => o.after.all (fun e => !Region.binds md e || decide (e.on < i))
    | none => false) && (List.range z).all (fun k => (List.range ops.size).any (fun i => match ops[i]? with
    | some o => o.after.any (fun e => Region.binds md e && decide (e.on = k))
    | none => false))

/-- What is listed stands behind what it waits for. -/
def Dc (md : Region.Mode) (ops : Array Oper) (listed : Array Bool) : Prop :=
  ∀ (i : Nat) (o : Oper), ops[i]? = some o → listed.getD i true = true → ∀ e ∈ o.after, Region.binds md e = true → listed.getD e.on true = true

theorem getD_set_t (l : Array Bool) (i k : Nat) (h : l.getD k true = true) : (l.setIfInBounds i true).getD k true = true := by
  by_cases hk : i = k
  · subst hk
    by_cases hi : i < l.size
    · simp [hi]
    · simp [Array.getD_eq_getD_getElem?, hi]
  · rw [getD_set_ne true hk]; exact h

theorem ready_true {i : Nat} {listed : Array Bool} (hi : i ∈ Region.ready md ops listed) : ∃ o, ops[i]? = some o ∧ listed.getD i true = false ∧ ∀ e ∈ o.after, Region.binds md e = true → listed.getD e.on true = true := by
  obtain ⟨h1, o, ho, h2⟩ := mem_ready.1 hi
  refine ⟨o, ho, h1, fun e he hb => ?_⟩
  have := h2 e he hb
  rw [Array.getD_eq_getD_getElem?] at this ⊢
  cases hq : listed[e.on]? with
  | none => simp
  | some b => rw [hq] at this; simpa using this

theorem Dc.set {i : Nat} {listed : Array Bool} (h : Dc md ops listed) (hi : i ∈ Region.ready md ops listed) (hs : listed.size = ops.size) : Dc md ops (listed.setIfInBounds i true) := by
  intro k o ho hk e he hb
  obtain ⟨oi, hoi, _, h2⟩ := ready_true hi
  refine getD_set_t _ _ _ ?_
  by_cases hki : i = k
  · subst hki
    rw [hoi] at ho
    cases ho
    exact h2 e he hb
  · rw [getD_set_ne true hki] at hk
    exact h k o ho hk e he hb

theorem all_listed {z : Nat} (hw : waited md ops z = true) {listed : Array Bool} (h : Dc md ops listed) (hz : z ∈ Region.ready md ops listed) : ∀ k, k < z → listed.getD k true = true := by
  simp only [waited, Bool.and_eq_true, decide_eq_true_eq] at hw
  obtain ⟨⟨hsz, hlt⟩, hall⟩ := hw
  have key : ∀ d k, k + d = z → d ≠ 0 → listed.getD k true = true := by
    intro d
    induction d using Nat.strongRecOn with
    | _ d ih =>
      intro k hk hd
      have h1 := List.all_eq_true.1 hall k (List.mem_range.2 (by omega))
      obtain ⟨i, hi, h2⟩ := List.any_eq_true.1 h1
      have hi' := List.mem_range.1 hi
      cases ho : ops[i]? with
      | none => rw [ho] at h2; cases h2
      | some o =>
        rw [ho] at h2
        obtain ⟨j, hj, h3⟩ := Array.any_eq_true.1 h2
        rw [Bool.and_eq_true] at h3
        have hon : o.after[j].on = k := of_decide_eq_true h3.2
        have hki : k < i := by
          have h4 := List.all_eq_true.1 hlt i hi
          rw [ho] at h4
          have h5 := Array.all_eq_true_iff_forall_mem.1 h4 o.after[j] (Array.getElem_mem hj)
          rw [h3.1] at h5
          rw [← hon]
          simpa using h5
        by_cases hiz : i = z
        · subst hiz
          obtain ⟨oz, hoz, _, h5⟩ := ready_true hz
          rw [hoz] at ho
          cases ho
          rw [← hon]
          exact h5 _ (Array.getElem_mem hj) h3.1
        · have h5 := ih (z - i) (by omega) i (by omega) (by omega)
          rw [← hon]
          exact h i o ho h5 _ (Array.getElem_mem hj) h3.1
  intro k hk
  exact key (z - k) k (by omega) (by omega)

/-- The first that is not listed is ready. -/
theorem some_ready {z : Nat} (hw : waited md ops z = true) {listed : Array Bool} (hs : listed.size = ops.size) (hz : listed.getD z true = false) : ∃ k, k ∈ Region.ready md ops listed := by
  simp only [waited, Bool.and_eq_true, decide_eq_true_eq] at hw
  obtain ⟨⟨hsz, hlt⟩, _⟩ := hw
  have key : ∀ i, i ≤ z → listed.getD i true = false → ∃ k, k ∈ Region.ready md ops listed := by
    intro i
    induction i using Nat.strongRecOn with
    | _ i ih =>
      intro hi hu
      by_cases hall : ∀ j, j < i → listed.getD j true = true
      · have hio : i < ops.size := by omega
        refine ⟨i, mem_ready.2 ⟨hu, ops[i], Array.getElem?_eq_getElem hio, fun e he hb => ?_⟩⟩
        have h4 := List.all_eq_true.1 hlt i (List.mem_range.2 hio)
        rw [Array.getElem?_eq_getElem hio] at h4
        have h5 := Array.all_eq_true_iff_forall_mem.1 h4 e he
        rw [hb] at h5
        have h6 : e.on < i := by simpa using h5
        have := hall e.on h6
        have hl : e.on < listed.size := by omega
        simp [hl] at this ⊢
        exact this
      · obtain ⟨j, hj⟩ := Classical.not_forall.1 hall
        obtain ⟨h1, h2⟩ := Classical.not_imp.1 hj
        exact ih j h1 (by omega) (by simpa using h2)
  exact key z (Nat.le_refl _) hz

theorem wpAny_of_Z {z : Nat} (hw : waited md ops z = true) {E : Act → Prop} {Q : Exit → Act → World → Prop} (hE : ∀ a w, C w → E a → wpOp P ops Q z (fun a' w' => Q .normal a' w') a w) :
    ∀ (fuel : Nat) (listed : Array Bool) (a : Act) (w : World), C w → listed.size = ops.size → listed.getD z true = false → Dc md ops listed → wpAnyZ P md ops C z E fuel listed a → wpAny P md ops Q (fuel + 1) listed a w
  | 0, listed, a, w, hC, hs, hz, hd, h => by
    refine ⟨fun h0 => ?_, fun i hi => ?_⟩
    · obtain ⟨k, hk⟩ := some_ready hw hs hz
      rw [h0] at hk
      cases hk
    · obtain rfl := h.1 i hi
      refine wpOp_mono (fun a' w' h' => ⟨?_, h'⟩) (hE a w hC h.2)
      refine List.eq_nil_iff_forall_not_mem.2 fun j hj => ?_
      have hall := all_listed hw hd hi
      have hj1 := (mem_ready.1 hj).1
      have hsz : ops.size = i + 1 := by simp only [waited, Bool.and_eq_true, decide_eq_true_eq] at hw; exact hw.1.1
      have hjs : j < i + 1 := by
        obtain ⟨_, o, ho, _⟩ := mem_ready.1 hj
        have := (Array.getElem?_eq_some_iff.1 ho).1
        omega
      by_cases hji : j = i
      · subst hji
        have hl : j < listed.size := by omega
        simp [hl] at hj1
      · have := getD_set_t listed i j (hall j (by omega))
        rw [this] at hj1
        cases hj1
  | fuel + 1, listed, a, w, hC, hs, hz, hd, h => by
    refine ⟨fun h0 => ?_, fun i hi => ?_⟩
    · obtain ⟨k, hk⟩ := some_ready hw hs hz
      rw [h0] at hk
      cases hk
    · by_cases hiz : i = z
      · subst hiz
        obtain ⟨k, hk, hk2⟩ := h.1
        have := all_listed hw hd hi k hk
        rw [this] at hk2
        cases hk2
      · exact wpOp_of_qOp hC (fun a' w' hC' h' => wpAny_of_Z hw hE fuel _ a' w' hC' (by simpa using hs) (by rw [getD_set_ne true hiz]; exact hz) (hd.set hi hs) h') (h.2 i hi hiz)

theorem wp_region_last {id : Nat} {Q : Exit → Act → World → Prop} {a : Act} {w : World} (C : World → Prop) {l : List Oper} {oz : Oper} (hm : P.follows .mixedOrders = true)
    (hs : Region.noSelect (l ++ [oz]).toArray = true) (hl : lexZ .any (l ++ [oz]).toArray l.length l.length 0 (Array.replicate (l ++ [oz]).length false) = true) (hw : waited .any (l ++ [oz]).toArray l.length = true) (hC : C { w with drawn := w.drawn + 1 })
    (h : wpQuiet P (l ++ [oz]).toArray C (fun a' => ∀ w', C w' → wpOp P (l ++ [oz]).toArray Q l.length (fun a'' w'' => Q .normal a'' w'') a' w') l a) : (Code.region id (l ++ [oz]).toArray true).wp P Q a w := by
  refine wp_region_any hm ?_
  have h1 := wpAnyZ_lex (C := C) (md := .any) hs l 0 (Array.replicate (l ++ [oz]).length false) a (fun j hj => by simp [List.getElem?_append_left hj]) hl h
  have h2 := wpAny_of_Z (C := C) hw (Q := Q) (E := fun a' => ∀ w', C w' → wpOp P (l ++ [oz]).toArray Q l.length (fun a'' w'' => Q .normal a'' w'') a' w') (fun a w hc he => he w hc) l.length _ a _ hC (by simp) (by simp) (fun i o ho hi e he hb => by
    have : i < (l ++ [oz]).length := by simpa using (Array.getElem?_eq_some_iff.1 ho).1
    rw [Array.getD_eq_getD_getElem?, Array.getElem?_replicate, if_pos this] at hi
    cases hi) h1
  simpa using h2

end

theorem wpOp_listV {P : Program} {ops : Array Oper} {Q : Exit → Act → World → Prop} {i : Nat} {K : Act → World → Prop} {a : Act} {w : World} {o : Oper} (ho : ops[i]? = some o)
    (h : ∀ Q' : Exit → Act → World → Prop, (∀ a w, K a w → Q' .normal a w) → wpList P ops Q' [o] a w) : wpOp P ops Q i K a w := by
  have h1 := h (fun e a w => match e with | .normal => K a w | e => Q e a w) (fun _ _ h => h)
  unfold wpOp
  simp only [ho]
  simp only [wpList] at h1
  split
  · rename_i hw
    rw [if_pos hw] at h1
    refine h1.imp (fun h2 => ?_) (fun h2 => ⟨h2.1, h2.2⟩)
    unfold Oper.wp at *
    generalize (execOp a.eval o).run P w = r at *
    cases r with
    | ok n w' =>
      cases n <;> simp only [Oper.upon] at h2 ⊢ <;>
        first
          | exact h2
          | exact Calls.mono h2 (fun e w'' he => by cases e <;> exact he)
    | halt x w' => cases x <;> simp only [Oper.upon] at h2 ⊢ <;> exact h2
  · rename_i hw
    rw [if_neg hw] at h1
    exact h1

/-- .. in the class of the worlds that have more than W0. -/
theorem wp_region_elast0 {P : Program} {id : Nat} {Q : Exit → Act → World → Prop} {a : Act} {w : World} {l ls : List Oper} {oz : Oper} (W0 : World) (h0 : Below W0.heap.size W0 w) (he : ls = l ++ [oz]) (hm : P.follows .mixedOrders = true)
    (hs : Region.noSelect ls.toArray = true) (hl : lexZ .any ls.toArray l.length l.length 0 (Array.replicate ls.length false) = true) (hw : waited .any ls.toArray l.length = true)
    (h : wpQuiet P ls.toArray (fun w' => ∃ x : Ext W0, w' = x.val) (fun a' => ∀ w', (∃ x : Ext W0, w' = x.val) → ∀ Q' : Exit → Act → World → Prop, (∀ a w, Q .normal a w → Q' .normal a w) → wpList P ls.toArray Q' [oz] a' w') l a) : (Code.region id ls.toArray true).wp P Q a w := by
  subst he
  refine wp_region_last (fun w' => ∃ x : Ext W0, w' = x.val) hm hs hl hw ⟨⟨_, h0.drew⟩, rfl⟩ ?_
  have mono : ∀ (l' : List Oper) (a : Act) (Q1 Q2 : Act → Prop), (∀ a, Q1 a → Q2 a) → wpQuiet P (l ++ [oz]).toArray (fun w' => ∃ x : Ext W0, w' = x.val) Q1 l' a → wpQuiet P (l ++ [oz]).toArray (fun w' => ∃ x : Ext W0, w' = x.val) Q2 l' a := by
    intro l'
    induction l' with
    | nil => intro a Q1 Q2 hq h1; exact hq _ h1
    | cons o r ih =>
      intro a Q1 Q2 hq h1
      unfold wpQuiet at h1 ⊢
      split
      · rename_i hw'
        rw [if_pos hw'] at h1
        exact Oper.quiet_mono (fun a h2 => ih a Q1 Q2 hq h2) h1
      · rename_i hw'
        rw [if_neg hw'] at h1
        exact ih _ Q1 Q2 hq h1
  refine mono l a _ _ (fun a' h1 w' hx => ?_) h
  exact wpOp_listV (o := oz) (by simp) (fun Q' hq => h1 w' hx Q' (fun a w hh => hq a w hh))

/-- The same, the last operation looked up. -/
theorem wp_region_elast {P : Program} {id : Nat} {Q : Exit → Act → World → Prop} {a : Act} {w : World} {ls : List Oper} {oz : Oper} (W0 : World) (h0 : Below W0.heap.size W0 w) (hz : ls.getLast? = some oz) (hm : P.follows .mixedOrders = true)
    (hs : Region.noSelect ls.toArray = true) (hl : lexZ .any ls.toArray ls.dropLast.length ls.dropLast.length 0 (Array.replicate ls.length false) = true) (hw : waited .any ls.toArray ls.dropLast.length = true)
    (h : wpQuiet P ls.toArray (fun w' => ∃ x : Ext W0, w' = x.val) (fun a' => ∀ w', (∃ x : Ext W0, w' = x.val) → ∀ Q' : Exit → Act → World → Prop, (∀ a w, Q .normal a w → Q' .normal a w) → wpList P ls.toArray Q' [oz] a' w') ls.dropLast a) : (Code.region id ls.toArray true).wp P Q a w :=
  wp_region_elast0 W0 h0 (by obtain ⟨l', rfl⟩ := List.getLast?_eq_some_iff.1 hz; simp) hm hs hl hw h

end Go.Proofs.YtfkhocmbhnigeaaGreat
