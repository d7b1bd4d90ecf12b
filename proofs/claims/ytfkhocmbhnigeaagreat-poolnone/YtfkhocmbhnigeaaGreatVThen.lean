/- A region that draws its order: its first operations are quiet in a class of worlds, one waits for all of these, and the others for that one. -/
import Derived.Test.YtfkhocmbhnigeaaGreatVLast
namespace Go.Proofs.YtfkhocmbhnigeaaGreat
open Go.RowKit
set_option linter.unusedVariables false
set_option linter.unusedSimpArgs false

theorem wpOp_listP {P : Program} {ops : Array Oper} {Q : Exit → Act → World → Prop} {i : Nat} {K : Act → World → Prop} {a : Act} {w : World} {o : Oper} (ho : ops[i]? = some o)
    (h : ∀ Q' : Exit → Act → World → Prop, (∀ a w, K a w → Q' .normal a w) → (∀ c a w, Q (.panic c) a w → Q' (.panic c) a w) → wpList P ops Q' [o] a w) : wpOp P ops Q i K a w := by
  have h1 := h (fun e a w => match e with | .normal => K a w | e => Q e a w) (fun _ _ h => h) (fun _ _ _ h => h)
  unfold wpOp
  simp only [ho]
  simp only [wpList] at h1
  split
  · rename_i hw
    rw [if_pos hw] at h1
    refine h1.imp (fun h2 => ?_) (fun h2 => ⟨h2.1, h2.2⟩)
    unfold Oper.wp at *
    generalize (execOp a.eval o).run P w = r at *
    cases r with
    | ok n w' =>
      cases n <;> simp only [Oper.upon] at h2 ⊢ <;>
        first
          | exact h2
          | exact Calls.mono h2 (fun e w'' he => by cases e <;> exact he)
    | halt x w' => cases x <;> simp only [Oper.upon] at h2 ⊢ <;> exact h2
  · rename_i hw
    rw [if_neg hw] at h1
    exact h1

section
variable {P : Program} {ops : Array Oper} {md : Region.Mode} {C : World → Prop}

/-- Each operation waits for such ahead of it alone; each ahead of z is waited for by one up to z; each behind z waits for z or one behind it. -/
def waitedT (md : Region.Mode) (ops : Array Oper) (z : Nat) : Bool :=
  decide (z < ops.size) && (List.range ops.size).all (fun i => match ops[i]? with
    | some o => o.after.all (fun e => !Region.binds md e || decide (e.on < i))
    | none => false) && (List.range z).all (fun k => (List.range (z + 1)).any (fun i => match ops[i]? with
    | some o => o.after.any (fun e => Region.binds md e && decide (e.on = k))
    | none => false)) && (List.range ops.size).all (fun i => decide (i ≤ z) || match ops[i]? with
    | some o => o.after.any (fun e => Region.binds md e && decide (z ≤ e.on))
    | none => false)

theorem all_listedT {z : Nat} (hw : waitedT md ops z = true) {listed : Array Bool} (h : Dc md ops listed) (hz : z ∈ Region.ready md ops listed) : ∀ k, k < z → listed.getD k true = true := by
  simp only [waitedT, Bool.and_eq_true, decide_eq_true_eq] at hw
  obtain ⟨⟨⟨hsz, hlt⟩, hall⟩, _⟩ := hw
  have key : ∀ d k, k + d = z → d ≠ 0 → listed.getD k true = true := by
    intro d
    induction d using Nat.strongRecOn with
    | _ d ih =>
      intro k hk hd
      have h1 := List.all_eq_true.1 hall k (List.mem_range.2 (by omega))
      obtain ⟨i, hi, h2⟩ := List.any_eq_true.1 h1
      have hi' := List.mem_range.1 hi
      cases ho : ops[i]? with
      | none => rw [ho] at h2; cases h2
      | some o =>
        rw [ho] at h2
        obtain ⟨j, hj, h3⟩ := Array.any_eq_true.1 h2
        rw [Bool.and_eq_true] at h3
        have hon : o.after[j].on = k := of_decide_eq_true h3.2
        have hki : k < i := by
          have h4 := List.all_eq_true.1 hlt i (List.mem_range.2 (by omega))
          rw [ho] at h4
          have h5 := Array.all_eq_true_iff_forall_mem.1 h4 o.after[j] (Array.getElem_mem hj)
          rw [h3.1] at h5
          rw [← hon]
          simpa using h5
        by_cases hiz : i = z
        · subst hiz
          obtain ⟨oz, hoz, _, h5⟩ := ready_true hz
          rw [hoz] at ho
          cases ho
          rw [← hon]
          exact h5 _ (Array.getElem_mem hj) h3.1
        · have h5 := ih (z - i) (by omega) i (by omega) (by omega)
          rw [← hon]
          exact h i o ho h5 _ (Array.getElem_mem hj) h3.1
  intro k hk
  exact key (z - k) k (by omega) (by omega)

theorem first_ready {z : Nat} (hw : waitedT md ops z = true) {listed : Array Bool} (hs : listed.size = ops.size) (hz : listed.getD z true = false) : ∃ k, k ≤ z ∧ k ∈ Region.ready md ops listed ∧ ∀ j, j < k → listed.getD j true = true := by
  simp only [waitedT, Bool.and_eq_true, decide_eq_true_eq] at hw
  obtain ⟨⟨⟨hsz, hlt⟩, _⟩, _⟩ := hw
  have key : ∀ i, i ≤ z → listed.getD i true = false → ∃ k, k ≤ z ∧ k ∈ Region.ready md ops listed ∧ ∀ j, j < k → listed.getD j true = true := by
    intro i
    induction i using Nat.strongRecOn with
    | _ i ih =>
      intro hi hu
      by_cases hall : ∀ j, j < i → listed.getD j true = true
      · have hio : i < ops.size := by omega
        refine ⟨i, hi, mem_ready.2 ⟨hu, ops[i], Array.getElem?_eq_getElem hio, fun e he hb => ?_⟩, hall⟩
        have h4 := List.all_eq_true.1 hlt i (List.mem_range.2 hio)
        rw [Array.getElem?_eq_getElem hio] at h4
        have h5 := Array.all_eq_true_iff_forall_mem.1 h4 e he
        rw [hb] at h5
        have h6 : e.on < i := by simpa using h5
        have := hall e.on h6
        have hl : e.on < listed.size := by omega
        simp [hl] at this ⊢
        exact this
      · obtain ⟨j, hj⟩ := Classical.not_forall.1 hall
        obtain ⟨h1, h2⟩ := Classical.not_imp.1 hj
        exact ih j h1 (by omega) (by simpa using h2)
  exact key z (Nat.le_refl _) hz

/-- So many are listed, the others not. -/
def preL (n z : Nat) : Array Bool := (List.replicate z true ++ List.replicate (n - z) false).toArray

theorem wpAny_of_T {z : Nat} (hw : waitedT md ops z = true) {E : Act → Prop} {Q : Exit → Act → World → Prop} (hE : ∀ a w, C w → E a → wpAny P md ops Q (ops.size - z) (preL ops.size z) a w) :
    ∀ (fuel : Nat) (listed : Array Bool) (a : Act) (w : World), C w → listed.size = ops.size → (∀ k, z ≤ k → k < ops.size → listed.getD k true = false) → Dc md ops listed → wpAnyZ P md ops C z E fuel listed a → wpAny P md ops Q (fuel + (ops.size - z)) listed a w
  | 0, listed, a, w, hC, hs, hz, hd, h => by
    have hzs : z < ops.size := by simp only [waitedT, Bool.and_eq_true, decide_eq_true_eq] at hw; exact hw.1.1.1
    obtain ⟨k, hkz, hk, hall⟩ := first_ready hw hs (hz z (Nat.le_refl _) hzs)
    obtain rfl := h.1 k hk
    have e : listed = preL ops.size k := by
      apply Array.ext_getElem?
      intro i
      have e0 : (preL ops.size k)[i]? = (List.replicate k true ++ List.replicate (ops.size - k) false)[i]? := by unfold preL; simp
      rw [e0]
      by_cases hi : i < ops.size
      · have hl : i < listed.size := by omega
        by_cases hik : i < k
        · have := hall i hik
          rw [Array.getD_eq_getD_getElem?, Array.getElem?_eq_getElem hl] at this
          rw [List.getElem?_append_left (by simpa using hik), List.getElem?_replicate, if_pos hik, Array.getElem?_eq_getElem hl]
          simpa using this
        · have := hz i (by omega) hi
          rw [Array.getD_eq_getD_getElem?, Array.getElem?_eq_getElem hl] at this
          rw [List.getElem?_append_right (by simpa using hik), List.length_replicate, List.getElem?_replicate, if_pos (by omega), Array.getElem?_eq_getElem hl]
          simpa using this
      · rw [Array.getElem?_eq_none (by omega), List.getElem?_eq_none (by simp; omega)]
    rw [Nat.zero_add, e]
    exact hE a w hC h.2
  | fuel + 1, listed, a, w, hC, hs, hz, hd, h => by
    have hzs : z < ops.size := by simp only [waitedT, Bool.and_eq_true, decide_eq_true_eq] at hw; exact hw.1.1.1
    rw [Nat.add_right_comm]
    refine ⟨fun h0 => ?_, fun i hi => ?_⟩
    · obtain ⟨k, _, hk, _⟩ := first_ready hw hs (hz z (Nat.le_refl _) hzs)
      rw [h0] at hk
      cases hk
    · have hio : i < ops.size := by obtain ⟨o, ho, _⟩ := ready_true hi; exact (Array.getElem?_eq_some_iff.1 ho).1
      rcases Nat.lt_trichotomy i z with hiz | hiz | hiz
      · exact wpOp_of_qOp hC (fun a' w' hC' h' => wpAny_of_T hw hE fuel _ a' w' hC' (by simpa using hs) (fun k hk hk2 => by rw [getD_set_ne true (by omega)]; exact hz k hk hk2) (hd.set hi hs) h') (h.2 i hi (by omega))
      · subst hiz
        obtain ⟨k, hk, hk2⟩ := h.1
        have := all_listedT hw hd hi k hk
        rw [this] at hk2
        cases hk2
      · exfalso
        have hw4 : (List.range ops.size).all (fun i => decide (i ≤ z) || match ops[i]? with
            | some o => o.after.any (fun e => Region.binds md e && decide (z ≤ e.on))
            | none => false) = true := by simp only [waitedT, Bool.and_eq_true] at hw; exact hw.2
        have h4 := List.all_eq_true.1 hw4 i (List.mem_range.2 hio)
        obtain ⟨o, ho, _, h5⟩ := ready_true hi
        rw [ho] at h4
        have h6 : o.after.any (fun e => Region.binds md e && decide (z ≤ e.on)) = true := by
          rw [Bool.or_eq_true] at h4
          rcases h4 with h4 | h4
          · simp at h4; omega
          · exact h4
        obtain ⟨j, hj, h7⟩ := Array.any_eq_true.1 h6
        rw [Bool.and_eq_true] at h7
        have h8 := h5 _ (Array.getElem_mem hj) h7.1
        have hon : o.after[j].on < i := by
          simp only [waitedT, Bool.and_eq_true] at hw
          have h9 := List.all_eq_true.1 hw.1.1.2 i (List.mem_range.2 hio)
          rw [ho] at h9
          have h10 := Array.all_eq_true_iff_forall_mem.1 h9 o.after[j] (Array.getElem_mem hj)
          rw [h7.1] at h10
          simpa using h10
        have h11 := hz _ (of_decide_eq_true h7.2) (by omega)
        rw [h11] at h8
        cases h8

theorem wp_region_then {id : Nat} {Q : Exit → Act → World → Prop} {a : Act} {w : World} {ls : List Oper} (W0 : World) (z r : Nat) (hr : ls.length - z = r) (h0 : Below W0.heap.size W0 w) (hm : P.follows .mixedOrders = true)
    (hs : Region.noSelect ls.toArray = true) (hl : lexZ .any ls.toArray z z 0 (Array.replicate ls.length false) = true) (hw : waitedT .any ls.toArray z = true)
    (h : wpQuiet P ls.toArray (fun w' => ∃ x : Ext W0, w' = x.val) (fun a' => ∀ w', (∃ x : Ext W0, w' = x.val) → wpAny P .any ls.toArray Q r (preL ls.length z) a' w') (ls.take z) a) : (Code.region id ls.toArray true).wp P Q a w := by
  subst hr
  refine wp_region_any hm ?_
  have hzs : z < ls.length := by simp only [waitedT, Bool.and_eq_true, decide_eq_true_eq] at hw; simpa using hw.1.1.1
  have htk : (ls.take z).length = z := by rw [List.length_take]; omega
  have h1 := wpAnyZ_lex (C := fun w' => ∃ x : Ext W0, w' = x.val) (md := .any) (z := z) hs (ls.take z) 0 (Array.replicate ls.length false) a (fun j hj => by rw [htk] at hj; simp [List.getElem?_take, hj]) (by rw [htk]; exact hl) h
  rw [htk] at h1
  have h2 := wpAny_of_T (C := fun w' => ∃ x : Ext W0, w' = x.val) hw (Q := Q) (E := fun a' => ∀ w', (∃ x : Ext W0, w' = x.val) → wpAny P .any ls.toArray Q (ls.length - z) (preL ls.length z) a' w') (fun a w hc he => by simpa using he w hc) z _ a w.drew ⟨⟨_, h0.drew⟩, rfl⟩ (by simp) (fun k hk hk2 => by
    have : k < ls.length := by simpa using hk2
    rw [Array.getD_eq_getD_getElem?, Array.getElem?_replicate, if_pos this]
    rfl) (fun i o ho hi e he hb => by
    have : i < ls.length := by simpa using (Array.getElem?_eq_some_iff.1 ho).1
    rw [Array.getD_eq_getD_getElem?, Array.getElem?_replicate, if_pos this] at hi
    cases hi) h1
  have e : z + (ls.toArray.size - z) = ls.toArray.size := by simp; omega
  rw [e] at h2
  simpa using h2

/-- One operation alone is ready. -/
theorem wpAny_force {Q : Exit → Act → World → Prop} {r i : Nat} {listed : Array Bool} {a : Act} {w : World} {o : Oper} (hr : Region.ready md ops listed = [i]) (ho : ops[i]? = some o)
    (h : ∀ Q' : Exit → Act → World → Prop, (∀ a w, wpAny P md ops Q r (listed.setIfInBounds i true) a w → Q' .normal a w) → (∀ c a w, Q (.panic c) a w → Q' (.panic c) a w) → wpList P ops Q' [o] a w) : wpAny P md ops Q (r + 1) listed a w := by
  refine ⟨fun h0 => (by rw [h0] at hr; cases hr), fun j hj => ?_⟩
  rw [hr] at hj
  obtain rfl := List.mem_singleton.1 hj
  exact wpOp_listP ho h

theorem wpAny_end {Q : Exit → Act → World → Prop} {listed : Array Bool} {a : Act} {w : World} (hr : Region.ready md ops listed = []) (h : Q .normal a w) : wpAny P md ops Q 0 listed a w := ⟨hr, h⟩

end

end Go.Proofs.YtfkhocmbhnigeaaGreat
