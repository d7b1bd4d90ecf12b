/- Put together by a program out of these texts of mine: Inv, CkK, CkL. -/
import Derived.Orders
import Derived.Test.YtcnjjhdmnagkgaaGreatDoorBunC1
import Derived.Test.YtcnjjhdmnagkgaaGreatDoorBunC12

namespace Go.Proofs.YtcnjjhdmnagkgaaGreatDoor
open Go.RowKit
set_option linter.unusedVariables false
set_option linter.unusedSimpArgs false

theorem filter_less {p q : Nat → Bool} : ∀ (l : List Nat) (i : Nat), (∀ x, q x = true → p x = true) → i ∈ l → p i = true → q i = false → (l.filter q).length < (l.filter p).length
  | [], i, _, h, _, _ => by cases h
  | x :: r, i, hm, hi, hp, hq => by
    have le : (r.filter q).length ≤ (r.filter p).length := by
      clear hi
      induction r with
      | nil => simp
      | cons y r ih =>
        by_cases hy : q y = true
        · rw [List.filter_cons_of_pos hy, List.filter_cons_of_pos (hm y hy)]; simp; exact ih
        · rw [List.filter_cons_of_neg hy]
          by_cases hy2 : p y = true
          · rw [List.filter_cons_of_pos hy2]; simp; omega
          · rw [List.filter_cons_of_neg hy2]; exact ih
    by_cases hx : x = i
    · subst hx
      rw [List.filter_cons_of_pos hp, List.filter_cons_of_neg (by simp [hq])]
      simp; omega
    · have hir : i ∈ r := by
        rcases List.mem_cons.1 hi with h | h
        · exact absurd h.symm hx
        · exact h
      have := filter_less r i hm hir hp hq
      by_cases hy : q x = true
      · rw [List.filter_cons_of_pos hy, List.filter_cons_of_pos (hm x hy)]; simp; exact this
      · rw [List.filter_cons_of_neg hy]
        by_cases hy2 : p x = true
        · rw [List.filter_cons_of_pos hy2]; simp; omega
        · rw [List.filter_cons_of_neg hy2]; exact this

theorem getD_set (l : Array Bool) (i k : Nat) (hi : i < l.size) (d : Bool) : (l.setIfInBounds i true).getD k d = if k = i then true else l.getD k d := by
  by_cases hk : k = i
  · subst hk; simp [hi]
  · rw [if_neg hk]
    simp [Array.getD_eq_getD_getElem?, Array.getElem?_setIfInBounds, Ne.symm hk]

theorem wp_region_inv {P : Program} {id : Nat} {Q : Exit → Act → World → Prop} {a : Act} {w : World} {ops : Array Oper} (hm : P.follows .mixedOrders = true)
    (hlex : ∀ (i : Nat) (o : Oper), ops[i]? = some o → ∀ e ∈ o.after, Region.binds .any e = true → e.on < i)
    (I : (Nat → Bool) → Act → World → Prop) (h0 : I (fun _ => false) a { w with drawn := w.drawn + 1 })
    (hstep : ∀ (L : Nat → Bool) (a : Act) (w : World) (i : Nat) (o : Oper), I L a w → ops[i]? = some o → L i = false → (∀ e ∈ o.after, Region.binds .any e = true → L e.on = true) → wpOp P ops Q i (fun a' w' => I (fun k => if k = i then true else L k) a' w') a w)
    (hend : ∀ (L : Nat → Bool) (a : Act) (w : World), I L a w → (∀ i, i < ops.size → L i = true) → Q .normal a w) :
    (Code.region id ops true).wp P Q a w := by
  refine wp_region_any hm ?_
  have all_of_nil : ∀ listed : Array Bool, listed.size = ops.size → Region.ready .any ops listed = [] → ∀ i, i < ops.size → listed.getD i false = true := by
    intro listed hs hr i
    induction i using Nat.strongRecOn with
    | _ i ih =>
      intro hi
      by_cases hl : listed.getD i false = true
      · exact hl
      · exfalso
        have : i ∈ Region.ready .any ops listed := by
          rw [mem_ready]
          refine ⟨?_, ops[i], Array.getElem?_eq_getElem hi, fun e he hb => ?_⟩
          · simp [Array.getD_eq_getD_getElem?, hs, hi] at hl ⊢; exact hl
          · have hlt := hlex i _ (Array.getElem?_eq_getElem hi) e he hb
            exact ih e.on hlt (by omega)
        rw [hr] at this
        cases this
  have main : ∀ (fuel : Nat) (listed : Array Bool) (a : Act) (w : World), listed.size = ops.size → ((List.range ops.size).filter fun i => !listed.getD i false).length ≤ fuel → I (fun k => listed.getD k false) a w → wpAny P .any ops Q fuel listed a w := by
    intro fuel
    induction fuel with
    | zero =>
      intro listed a w hs hf hI
      have hnil : ((List.range ops.size).filter fun i => !listed.getD i false) = [] := List.eq_nil_of_length_eq_zero (by omega)
      have hall : ∀ i, i < ops.size → listed.getD i false = true := fun i hi => by
        have := List.filter_eq_nil_iff.1 hnil i (List.mem_range.2 hi)
        simpa using this
      refine ⟨?_, hend _ _ _ hI hall⟩
      cases hr : Region.ready .any ops listed with
      | nil => rfl
      | cons i r =>
        have hi : i ∈ Region.ready .any ops listed := by rw [hr]; exact List.mem_cons_self ..
        obtain ⟨h1, o, ho, _⟩ := mem_ready.1 hi
        have hlt : i < ops.size := (Array.getElem?_eq_some_iff.1 ho).1
        have := hall i hlt
        simp [Array.getD_eq_getD_getElem?, hs, hlt] at this h1
        rw [this] at h1; cases h1
    | succ fuel ih =>
      intro listed a w hs hf hI
      refine ⟨fun hr => hend _ _ _ hI (all_of_nil listed hs hr), fun i hi => ?_⟩
      obtain ⟨h1, o, ho, hd⟩ := mem_ready.1 hi
      have hlt : i < ops.size := (Array.getElem?_eq_some_iff.1 ho).1
      have h1' : listed.getD i false = false := by
        simp [Array.getD_eq_getD_getElem?, hs, hlt] at h1 ⊢; exact h1
      refine wpOp_mono ?_ (hstep _ a w i o hI ho h1' hd)
      intro a' w' hI'
      refine ih _ a' w' (by simpa using hs) ?_ ?_
      · have := filter_less (p := fun k => !listed.getD k false) (q := fun k => !(listed.setIfInBounds i true).getD k false) (List.range ops.size) i (fun x hx => by
          rw [getD_set _ _ _ (by omega)] at hx
          by_cases hxi : x = i
          · simp [hxi] at hx
          · simpa [hxi] using hx) (List.mem_range.2 hlt) (by simp only [h1', Bool.not_false]) (by simp [getD_set _ _ _ (show i < listed.size by omega)])
        omega
      · have e : (fun k => (listed.setIfInBounds i true).getD k false) = fun k => if k = i then true else listed.getD k false := by
          funext k; exact getD_set _ _ _ (by omega) _
        rw [e]; exact hI'
  refine main ops.size (Array.replicate ops.size false) a _ (by simp) ?_ ?_
  · exact Nat.le_trans (List.length_filter_le _ _) (by simp)
  · have e : (fun k => (Array.replicate ops.size false).getD k false) = fun _ => false := by
      funext k
      rw [Array.getD_eq_getD_getElem?, Array.getElem?_replicate]
      split <;> rfl
    rw [e]; exact h0

def lexOkB : Nat → List Oper → Bool
  | _, [] => true
  | k, o :: l => (o.after.all fun e => decide (e.on < k)) && lexOkB (k + 1) l

theorem lexOk_of : ∀ {l : List Oper} {k : Nat}, lexOkB k l = true → ∀ (j : Nat) (o : Oper), l[j]? = some o → ∀ e ∈ o.after, e.on < k + j
  | [], k, _, j, o, h => by simp at h
  | o0 :: l, k, h, 0, o, ho => by
    simp at ho
    subst ho
    rw [lexOkB, Bool.and_eq_true] at h
    intro e he
    have := Array.all_eq_true_iff_forall_mem.1 h.1 e he
    simpa using this
  | o0 :: l, k, h, j + 1, o, ho => by
    rw [lexOkB, Bool.and_eq_true] at h
    intro e he
    have := lexOk_of h.2 j o (by simpa using ho) e he
    omega

theorem wp_region_inv' {P : Program} {id : Nat} {Q : Exit → Act → World → Prop} {a : Act} {w : World} {l : List Oper} (hm : P.follows .mixedOrders = true) (hlex : lexOkB 0 l = true)
    (I : (Nat → Bool) → Act → World → Prop) (h0 : I (fun _ => false) a { w with drawn := w.drawn + 1 })
    (hstep : ∀ (L : Nat → Bool) (a : Act) (w : World) (i : Nat) (o : Oper), I L a w → l.toArray[i]? = some o → L i = false → (∀ e ∈ o.after, Region.binds .any e = true → L e.on = true) → wpOp P l.toArray Q i (fun a' w' => I (fun k => if k = i then true else L k) a' w') a w)
    (hend : ∀ (L : Nat → Bool) (a : Act) (w : World), I L a w → (∀ i, i < l.length → L i = true) → Q .normal a w) :
    (Code.region id l.toArray true).wp P Q a w :=
  wp_region_inv hm (fun i o ho e he _ => by have := lexOk_of hlex i o (by simpa using ho) e he; omega) I h0 hstep (fun L a w h hl => hend L a w h (fun i hi => hl i (by simpa using hi)))

def exG (M : ByteArray) (gf n : Nat) : Array Value := #[.string M, .slice (some ⟨gf, 0, none⟩) n n, .slice none 0 0, .slice none 0 0, .slice none 0 0, .slice none 0 0, .slice none 0 0, .slice none 0 0, .slice none 0 0, .slice none 0 0, .slice none 0 0]

def mfr (p us : Nat → Value) : Act := { tmps := #[p 0, p 1, p 2, p 3, p 4, p 5, p 6, us 12, p 8, p 9, p 10, p 11, p 12, p 13, us 0, us 1, us 2, us 3, us 4, us 5, us 6, us 7, us 8, us 9, us 10, us 11, p 26, p 27, p 28, p 29, p 30, p 31, p 32, p 33, p 34, p 35, p 36, p 37, p 38, p 39, p 40, p 41, p 42, p 43, p 44, p 45, p 46, p 47, p 48, p 49, p 50, p 51, p 52, p 53, p 54, p 55, p 56, p 57, p 58, p 59, p 60, p 61, p 62, p 63, p 64, p 65, p 66, p 67, p 68, p 69, p 70, p 71, p 72, p 73, p 74, p 75, p 76, p 77, p 78, p 79, p 80, p 81, p 82, p 83, p 84, p 85, p 86, p 87, p 88, p 89, p 90, p 91, p 92], defers := [] }

def mSl (W w : World) (M : ByteArray) (gf n bx : Nat) (sc : Value) (us : Nat → Value) : Nat → Value → Prop
  | 0, v => v = .agg (exG M gf n)
  | 1, v => v = sc
  | 2, v => v = .pointer (some ⟨bx, 0, none⟩)
  | 3, v => v = .string M
  | 4, v => v = .string M
  | 5, v => v = .pointer none
  | 6, v => ∃ b, v = .map (some b) ∧ W.heap.size ≤ b ∧ w.heap[b]? = some (.map #[] 0)
  | 7, v => ∃ b, v = .map (some b) ∧ W.heap.size ≤ b ∧ w.heap[b]? = some (.map #[] 0)
  | 8, v => ∃ b, v = .map (some b) ∧ W.heap.size ≤ b ∧ w.heap[b]? = some (.map #[] 0)
  | 9, v => ∃ b, v = .map (some b) ∧ W.heap.size ≤ b ∧ w.heap[b]? = some (.map #[] 0)
  | 10, v => v = .agg #[.string M, .slice (some ⟨gf, 0, none⟩) n n, .slice none 0 0, .slice none 0 0, .slice none 0 0, .slice none 0 0, .slice none 0 0, .slice none 0 0, .slice none 0 0, .slice none 0 0, .slice none 0 0, .string M, .pointer none, .int .i64 0, us 6, us 7, us 8, us 9]
  | 11, v => ∃ g, v = .pointer (some ⟨g, 0, none⟩) ∧ W.heap.size ≤ g ∧ w.heap[g]? = some (.cells #[.string M, .slice (some ⟨gf, 0, none⟩) n n, .slice none 0 0, .slice none 0 0, .slice none 0 0, .slice none 0 0, .slice none 0 0, .slice none 0 0, .slice none 0 0, .slice none 0 0, .slice none 0 0, .string M, .pointer none, .int .i64 0, us 6, us 7, us 8, us 9] 164 (0, 0))
  | 12, v => v = us 11
  | _, _ => True

def upm (us : Nat → Value) (i : Nat) (v : Value) : Nat → Value := fun k => if k = i then v else us k

structure mOk (W w : World) (M : ByteArray) (gf n bx : Nat) (sc : Value) (us : Nat → Value) (L : Nat → Bool) : Prop where
  bel : Below W.heap.size W w
  sl : ∀ i, L i = true → mSl W w M gf n bx sc us i (us i)
  ne : ∀ i j b, 6 ≤ i → i ≤ 9 → 6 ≤ j → j ≤ 9 → L i = true → L j = true → us i = .map (some b) → us j = .map (some b) → i = j
  q10 : L 10 = true → L 6 = true ∧ L 7 = true ∧ L 8 = true ∧ L 9 = true
  q11 : L 11 = true → L 10 = true
  q12 : L 12 = true → L 11 = true

def mI (W : World) (p : Nat → Value) (M : ByteArray) (gf n bx : Nat) (sc : Value) (L : Nat → Bool) (a : Act) (w : World) : Prop := ∃ us, a = mfr p us ∧ mOk W w M gf n bx sc us L

theorem lt_heap {w : World} {b : Nat} {o : Obj} (h : w.heap[b]? = some o) : b < w.heap.size := (Array.getElem?_eq_some_iff.1 h).1

theorem mSl.keep {W w w' : World} {M : ByteArray} {gf n bx : Nat} {sc : Value} {us : Nat → Value} (hb : Below w.heap.size w w') : ∀ (i : Nat) (v : Value), mSl W w M gf n bx sc us i v → mSl W w' M gf n bx sc us i v
  | 0, _, h | 1, _, h | 2, _, h | 3, _, h | 4, _, h | 5, _, h | 10, _, h | 12, _, h => h
  | 6, _, ⟨b, h1, h2, h3⟩ | 7, _, ⟨b, h1, h2, h3⟩ | 8, _, ⟨b, h1, h2, h3⟩ | 9, _, ⟨b, h1, h2, h3⟩ => ⟨b, h1, h2, (hb.block b (lt_heap h3)).trans h3⟩
  | 11, _, ⟨g, h1, h2, h3⟩ => ⟨g, h1, h2, (hb.block g (lt_heap h3)).trans h3⟩
  | _ + 13, _, _ => trivial

theorem mSl.upm {W w : World} {M : ByteArray} {gf n bx : Nat} {sc : Value} {us : Nat → Value} {i : Nat} {x : Value} : ∀ (j : Nat) (v : Value), (j = 10 ∨ j = 11 → i ≠ 6 ∧ i ≠ 7 ∧ i ≠ 8 ∧ i ≠ 9) → (j = 12 → i ≠ 11) → mSl W w M gf n bx sc us j v → mSl W w M gf n bx sc (upm us i x) j v
  | 0, _, _, _, h | 1, _, _, _, h | 2, _, _, _, h | 3, _, _, _, h | 4, _, _, _, h | 5, _, _, _, h | 6, _, _, _, h | 7, _, _, _, h | 8, _, _, _, h | 9, _, _, _, h => h
  | 10, v, hi, _, h => by
    obtain ⟨h6, h7, h8, h9⟩ := hi (.inl rfl)
    show v = _
    rw [show v = _ from h]
    simp [Go.Proofs.YtcnjjhdmnagkgaaGreatDoor.upm, h6.symm, h7.symm, h8.symm, h9.symm]
  | 11, v, hi, _, ⟨g, h1, h2, h3⟩ => by
    obtain ⟨h6, h7, h8, h9⟩ := hi (.inr rfl)
    refine ⟨g, h1, h2, ?_⟩
    rw [h3]
    simp [Go.Proofs.YtcnjjhdmnagkgaaGreatDoor.upm, h6.symm, h7.symm, h8.symm, h9.symm]
  | 12, v, _, hi, h => by
    show v = _
    rw [show v = us 11 from h]
    simp [Go.Proofs.YtcnjjhdmnagkgaaGreatDoor.upm, (hi rfl).symm]
  | _ + 13, _, _, _, _ => trivial

theorem mOk.step {W w w' : World} {M : ByteArray} {gf n bx : Nat} {sc : Value} {us : Nat → Value} {L : Nat → Bool} (h : mOk W w M gf n bx sc us L) (i : Nat) (v : Value) (hL : L i = false) (hb : Below w.heap.size w w')
    (hv : mSl W w' M gf n bx sc us i v) (hf : 6 ≤ i → i ≤ 9 → ∀ b, v = .map (some b) → w.heap.size ≤ b)
    (d10 : i = 10 → L 6 = true ∧ L 7 = true ∧ L 8 = true ∧ L 9 = true) (d11 : i = 11 → L 10 = true) (d12 : i = 12 → L 11 = true) : mOk W w' M gf n bx sc (upm us i v) (fun k => if k = i then true else L k) := by
  have n6 : ∀ k, L k = true → i ≠ k := fun k hk e => by subst e; rw [hk] at hL; cases hL
  refine ⟨h.bel.trans (hb.mono h.bel.size), fun j hj => ?_, fun a c b a1 a2 c1 c2 ha hc ea ec => ?_, fun h10 => ?_, fun h11 => ?_, fun h12 => ?_⟩
  · by_cases hji : j = i
    · subst hji
      have hq : mSl W w' M gf n bx sc (upm us j v) j v := mSl.upm j v (fun e => by rcases e with rfl | rfl <;> decide) (fun e => by subst e; decide) hv
      simpa [upm] using hq
    · have hj' : L j = true := by simpa [hji] using hj
      have h1 := mSl.keep hb j _ (h.sl j hj')
      have h2 : mSl W w' M gf n bx sc (upm us i v) j (us j) := mSl.upm j _ (fun e => by
        have h10 : L 10 = true := by
          rcases e with e | e
          · rw [← e]; exact hj'
          · rw [e] at hj'; exact h.q11 hj'
        obtain ⟨k6, k7, k8, k9⟩ := h.q10 h10
        exact ⟨n6 6 k6, n6 7 k7, n6 8 k8, n6 9 k9⟩) (fun e => by subst e; exact n6 11 (h.q12 hj')) h1
      simpa [upm, hji] using h2
  · have old : ∀ k b, 6 ≤ k → k ≤ 9 → L k = true → us k = .map (some b) → b < w.heap.size := fun k b k1 k2 hk e => by
      have hs := h.sl k hk
      have : ∃ b, us k = .map (some b) ∧ W.heap.size ≤ b ∧ w.heap[b]? = some (.map #[] 0) := by
        match k, k1, k2 with
        | 6, _, _ => exact hs
        | 7, _, _ => exact hs
        | 8, _, _ => exact hs
        | 9, _, _ => exact hs
      obtain ⟨b', e', _, h3⟩ := this
      rw [e] at e'
      cases e'
      exact lt_heap h3
    by_cases hai : a = i
    · by_cases hci : c = i
      · rw [hai, hci]
      · exfalso
        subst hai
        have hc' : L c = true := by simpa [hci] using hc
        have e1 : v = .map (some b) := by simpa [upm] using ea
        have e2 : us c = .map (some b) := by simpa [upm, hci] using ec
        have h1 := hf a1 a2 b e1
        have h2 := old c b c1 c2 hc' e2
        omega
    · have ha' : L a = true := by simpa [hai] using ha
      have e1 : us a = .map (some b) := by simpa [upm, hai] using ea
      by_cases hci : c = i
      · exfalso
        subst hci
        have e2 : v = .map (some b) := by simpa [upm] using ec
        have h1 := hf c1 c2 b e2
        have h2 := old a b a1 a2 ha' e1
        omega
      · have hc' : L c = true := by simpa [hci] using hc
        have e2 : us c = .map (some b) := by simpa [upm, hci] using ec
        exact h.ne a c b a1 a2 c1 c2 ha' hc' e1 e2
  · have hk : L 6 = true ∧ L 7 = true ∧ L 8 = true ∧ L 9 = true := by
      by_cases e : i = 10
      · exact d10 e
      · exact h.q10 (by simpa [Ne.symm e] using h10)
    obtain ⟨k6, k7, k8, k9⟩ := hk
    exact ⟨by simp [k6], by simp [k7], by simp [k8], by simp [k9]⟩
  · have hk : L 10 = true := by
      by_cases e : i = 11
      · exact d11 e
      · exact h.q11 (by simpa [Ne.symm e] using h11)
    simp [hk]
  · have hk : L 11 = true := by
      by_cases e : i = 12
      · exact d12 e
      · exact h.q12 (by simpa [Ne.symm e] using h12)
    simp [hk]

theorem mapII : Tryz.prog.underlying 162 = some (.map 3 3) := by kernel_rfl

theorem zeroII (w : World) : (zeroValue 3).run Tryz.prog w = .ok (.int .i64 0) w := by kernel_rfl

set_option maxRecDepth 100000 in
set_option maxHeartbeats 8000000 in
theorem ckCount1 (m : List Int) (hmb : Hid (byts m)) (hml : m.length ≤ 1000) (gf : Nat) (R : Array Value) (s t : ByteArray) (hR : R = exF s) (W : World) (hrow : Hid (Ob W gf R 34)) :
    Calls Tryz.prog 78 #[.agg (exG (strOfNums m) gf 1), .string (strOfNums []), .pointer none] W fun e w' => ∃ g b6 b7 b8 b9, e = .returned (.pointer (some ⟨g, 0, none⟩)) ∧ W.heap.size ≤ g ∧ W.heap.size ≤ b6 ∧ Fs W w' g gf 1 b6 b7 b8 b9 (strOfNums m) R := by
  subst hR
  have QJ : Hid _ := fun V => pjoin_any [] m V trivial (show Hid (byts []) from fun x hx => by cases hx) hmb (by simp) (by omega)
  have hnj : njoin [] m = m := by unfold njoin; rfl
  rw [hnj] at QJ
  clear hnj
  have hmm := @run_makeMap Tryz.prog
  generalize strOfNums m = M at *
  generalize hS0 : strOfNums [] = S0 at *
  obtain ⟨w1, hw1⟩ : ∃ w1, W.alloc (.cells (exG M gf 1) 42) = w1 := ⟨_, rfl⟩
  have hb1 : Below W.heap.size W w1 := by rw [← hw1]; exact (Below.refl _ _).alloc (Nat.le_refl _) _
  have o1 : Ob w1 W.heap.size (exG M gf 1) 42 := by rw [← hw1]; exact Ob.new _ _ _
  have HW1 : Hid _ := hw1
  have HB1 : Hid _ := hb1
  have O1 : Hid (Ob w1 W.heap.size (exG M gf 1) 42) := o1
  clear hw1 hb1 o1
  unfold exG at HW1 ⊢
  go_enter Tryz.func78, Tryz.ntmps78
  go_upto_region 1 with fail
  rw [HW1.out]
  obtain ⟨p, hp⟩ : ∃ p : Nat → Value, p = fun k => ((#[.agg (exG M gf 1), .string S0, .pointer none, .pointer (some ⟨W.heap.size, 0, none⟩), undef, undef, .pointer none] : Array Value).toList ++ List.replicate 86 undef).getD k undef := ⟨_, rfl⟩
  have hp1 : p 1 = .string S0 := by rw [hp]; rfl
  have hp2 : p 2 = .pointer none := by rw [hp]; rfl
  have hp3 : p 3 = .pointer (some ⟨W.heap.size, 0, none⟩) := by rw [hp]; rfl
  refine wp_region_inv' (by kernel_rfl) (by kernel_rfl) (mI w1 p M gf 1 W.heap.size (.string S0)) ?h0 ?hstep ?hend
  case h0 =>
    refine ⟨fun _ => undef, by rw [hp]; rfl, ⟨(Below.refl _ _).drew, fun i h => (by cases h), fun i j b _ _ _ _ h => (by cases h), fun h => (by cases h), fun h => (by cases h), fun h => (by cases h)⟩⟩
  case hstep =>
    clear hp
    rintro L a w i o ⟨us, rfl, hm⟩ ho hL hd
    have hi : i < 13 := (Array.getElem?_eq_some_iff.1 ho).1
    have OB := (O1.out.below hm.bel O1.out.lt)
    unfold exG at OB
    obtain ⟨⟨c0, c1, c2, c3, c4, c5, c6, c7, c8, c9, c10⟩, _, cl⟩ := ob11 OB
    clear OB
    have HM : Hid (mOk w1 w M gf 1 W.heap.size (.string S0) us L) := hm
    have HL : Hid (L i = false) := hL
    match i, hi with
    | 0, _ =>
      have hoe := Option.some.inj ho
      subst hoe
      have HD : Hid _ := hd
      clear hm hL hd ho
      refine wpOp_listP rfl ?_
      intro Q1 hQ1 hPn
      have HQ : Hid _ := hQ1
      clear hQ1 hPn
      simp only [mfr, exG, hp1, hp2, hp3]
      go_wp2
      refine HQ.out _ _ ?_
      clear HQ
      exact ⟨upm us 0 (.agg (exG M gf 1)), by simp [mfr, upm, exG, hp1, hp2, hp3], HM.out.step 0 _ HL.out (Below.refl _ _) rfl (fun h1 h2 => by omega) (fun h => by omega) (fun h => by omega) (fun h => by omega)⟩
    | 1, _ =>
      have hoe := Option.some.inj ho
      subst hoe
      have HD : Hid _ := hd
      clear hm hL hd ho
      refine wpOp_listP rfl ?_
      intro Q1 hQ1 hPn
      have HQ : Hid _ := hQ1
      clear hQ1 hPn
      simp only [mfr, hp1, hp2, hp3]
      go_wp2
      refine HQ.out _ _ ?_
      clear HQ
      exact ⟨upm us 1 (.string S0), by simp [mfr, upm, hp1, hp2, hp3], HM.out.step 1 _ HL.out (Below.refl _ _) rfl (fun h1 h2 => by omega) (fun h => by omega) (fun h => by omega) (fun h => by omega)⟩
    | 2, _ =>
      have hoe := Option.some.inj ho
      subst hoe
      have HD : Hid _ := hd
      clear hm hL hd ho
      refine wpOp_listP rfl ?_
      intro Q1 hQ1 hPn
      have HQ : Hid _ := hQ1
      clear hQ1 hPn
      simp only [mfr, hp1, hp2, hp3]
      go_wp2
      refine HQ.out _ _ ?_
      clear HQ
      exact ⟨upm us 2 (.pointer (some ⟨W.heap.size, 0, none⟩)), by simp [mfr, upm, hp1, hp2, hp3], HM.out.step 2 _ HL.out (Below.refl _ _) rfl (fun h1 h2 => by omega) (fun h => by omega) (fun h => by omega) (fun h => by omega)⟩
    | 3, _ =>
      have hoe := Option.some.inj ho
      subst hoe
      have e2 := hm.sl 2 (hd { on := 2, ground := .data } (by simp) rfl)
      simp only [mSl] at e2
      have HD : Hid _ := hd
      clear hm hL hd ho
      refine wpOp_listP rfl ?_
      intro Q1 hQ1 hPn
      have HQ : Hid _ := hQ1
      clear hQ1 hPn
      simp only [mfr, hp1, hp2, hp3, e2]
      go_wp2
      refine HQ.out _ _ ?_
      clear HQ
      exact ⟨upm us 3 (.string M), by simp [mfr, upm, hp1, hp2, hp3, e2], HM.out.step 3 _ HL.out (Below.refl _ _) rfl (fun h1 h2 => by omega) (fun h => by omega) (fun h => by omega) (fun h => by omega)⟩
    | 4, _ =>
      have hoe := Option.some.inj ho
      subst hoe
      have e1 := hm.sl 1 (hd { on := 1, ground := .data } (by simp) rfl)
      simp only [mSl] at e1
      have e3 := hm.sl 3 (hd { on := 3, ground := .data } (by simp) rfl)
      simp only [mSl] at e3
      have HD : Hid _ := hd
      clear hm hL hd ho
      refine wpOp_listP rfl ?_
      intro Q1 hQ1 hPn
      have HQ : Hid _ := hQ1
      clear hQ1 hPn
      simp only [mfr, hp1, hp2, hp3, e1, e3]
      go_wp2_with fail
      refine Calls.mono (QJ.out _) ?_
      rintro e w2 ⟨rfl, hb2⟩
      have HB2 : Hid _ := hb2
      clear hb2
      go_wp2
      refine HQ.out _ _ ?_
      clear HQ
      exact ⟨upm us 4 (.string M), by simp [mfr, upm, hp1, hp2, hp3, e1, e3], HM.out.step 4 _ HL.out HB2.out rfl (fun h1 h2 => by omega) (fun h => by omega) (fun h => by omega) (fun h => by omega)⟩
    | 5, _ =>
      have hoe := Option.some.inj ho
      subst hoe
      have HD : Hid _ := hd
      clear hm hL hd ho
      refine wpOp_listP rfl ?_
      intro Q1 hQ1 hPn
      have HQ : Hid _ := hQ1
      clear hQ1 hPn
      simp only [mfr, hp1, hp2, hp3]
      go_wp2
      refine HQ.out _ _ ?_
      clear HQ
      exact ⟨upm us 5 (.pointer none), by simp [mfr, upm, hp1, hp2, hp3], HM.out.step 5 _ HL.out (Below.refl _ _) rfl (fun h1 h2 => by omega) (fun h => by omega) (fun h => by omega) (fun h => by omega)⟩
    | 6, _ =>
      have hoe := Option.some.inj ho
      subst hoe
      have HD : Hid _ := hd
      clear hm hL hd ho
      refine wpOp_listP rfl ?_
      intro Q1 hQ1 hPn
      have HQ : Hid _ := hQ1
      clear hQ1 hPn
      simp only [mfr, hp1, hp2, hp3]
      go_wp2
      refine HQ.out _ _ ?_
      clear HQ
      exact ⟨upm us 6 (.map (some w.heap.size)), by simp [mfr, upm, hp1, hp2, hp3], HM.out.step 6 _ HL.out ((Below.refl _ _).alloc (Nat.le_refl _) _) ⟨w.heap.size, rfl, HM.out.bel.size, heap_alloc_new w _⟩ (fun _ _ b e => by cases e; exact Nat.le_refl _) (fun h => by omega) (fun h => by omega) (fun h => by omega)⟩
    | 7, _ =>
      have hoe := Option.some.inj ho
      subst hoe
      have HD : Hid _ := hd
      clear hm hL hd ho
      refine wpOp_listP rfl ?_
      intro Q1 hQ1 hPn
      have HQ : Hid _ := hQ1
      clear hQ1 hPn
      simp only [mfr, hp1, hp2, hp3]
      go_wp2
      refine HQ.out _ _ ?_
      clear HQ
      exact ⟨upm us 7 (.map (some w.heap.size)), by simp [mfr, upm, hp1, hp2, hp3], HM.out.step 7 _ HL.out ((Below.refl _ _).alloc (Nat.le_refl _) _) ⟨w.heap.size, rfl, HM.out.bel.size, heap_alloc_new w _⟩ (fun _ _ b e => by cases e; exact Nat.le_refl _) (fun h => by omega) (fun h => by omega) (fun h => by omega)⟩
    | 8, _ =>
      have hoe := Option.some.inj ho
      subst hoe
      have HD : Hid _ := hd
      clear hm hL hd ho
      refine wpOp_listP rfl ?_
      intro Q1 hQ1 hPn
      have HQ : Hid _ := hQ1
      clear hQ1 hPn
      simp only [mfr, hp1, hp2, hp3]
      go_wp2
      refine HQ.out _ _ ?_
      clear HQ
      exact ⟨upm us 8 (.map (some w.heap.size)), by simp [mfr, upm, hp1, hp2, hp3], HM.out.step 8 _ HL.out ((Below.refl _ _).alloc (Nat.le_refl _) _) ⟨w.heap.size, rfl, HM.out.bel.size, heap_alloc_new w _⟩ (fun _ _ b e => by cases e; exact Nat.le_refl _) (fun h => by omega) (fun h => by omega) (fun h => by omega)⟩
    | 9, _ =>
      have hoe := Option.some.inj ho
      subst hoe
      have HD : Hid _ := hd
      clear hm hL hd ho
      refine wpOp_listP rfl ?_
      intro Q1 hQ1 hPn
      have HQ : Hid _ := hQ1
      clear hQ1 hPn
      simp only [mfr, hp1, hp2, hp3]
      go_wp2
      refine HQ.out _ _ ?_
      clear HQ
      exact ⟨upm us 9 (.map (some w.heap.size)), by simp [mfr, upm, hp1, hp2, hp3], HM.out.step 9 _ HL.out ((Below.refl _ _).alloc (Nat.le_refl _) _) ⟨w.heap.size, rfl, HM.out.bel.size, heap_alloc_new w _⟩ (fun _ _ b e => by cases e; exact Nat.le_refl _) (fun h => by omega) (fun h => by omega) (fun h => by omega)⟩
    | 10, _ =>
      have hoe := Option.some.inj ho
      subst hoe
      have e0 := hm.sl 0 (hd { on := 0, ground := .data } (by simp) rfl)
      simp only [mSl] at e0
      have e4 := hm.sl 4 (hd { on := 4, ground := .data } (by simp) rfl)
      simp only [mSl] at e4
      have e5 := hm.sl 5 (hd { on := 5, ground := .data } (by simp) rfl)
      simp only [mSl] at e5
      have e6 := hm.sl 6 (hd { on := 6, ground := .data } (by simp) rfl)
      simp only [mSl] at e6
      have e7 := hm.sl 7 (hd { on := 7, ground := .data } (by simp) rfl)
      simp only [mSl] at e7
      have e8 := hm.sl 8 (hd { on := 8, ground := .data } (by simp) rfl)
      simp only [mSl] at e8
      have e9 := hm.sl 9 (hd { on := 9, ground := .data } (by simp) rfl)
      simp only [mSl] at e9
      obtain ⟨b6, e6, l6, k6⟩ := e6
      obtain ⟨b7, e7, l7, k7⟩ := e7
      obtain ⟨b8, e8, l8, k8⟩ := e8
      obtain ⟨b9, e9, l9, k9⟩ := e9
      have HD : Hid _ := hd
      clear hm hL hd ho
      refine wpOp_listP rfl ?_
      intro Q1 hQ1 hPn
      have HQ : Hid _ := hQ1
      clear hQ1 hPn
      simp only [mfr, exG, hp1, hp2, hp3, e0, e4, e5, e6, e7, e8, e9]
      go_wp2
      refine HQ.out _ _ ?_
      clear HQ
      exact ⟨upm us 10 (.agg #[.string M, .slice (some ⟨gf, 0, none⟩) 1 1, .slice none 0 0, .slice none 0 0, .slice none 0 0, .slice none 0 0, .slice none 0 0, .slice none 0 0, .slice none 0 0, .slice none 0 0, .slice none 0 0, .string M, .pointer none, .int .i64 0, us 6, us 7, us 8, us 9]), by simp [mfr, upm, exG, hp1, hp2, hp3, e0, e4, e5, e6, e7, e8, e9], HM.out.step 10 _ HL.out (Below.refl _ _) rfl (fun h1 h2 => by omega) (fun _ => ⟨HD.out { on := 6, ground := .data } (by simp) rfl, HD.out { on := 7, ground := .data } (by simp) rfl, HD.out { on := 8, ground := .data } (by simp) rfl, HD.out { on := 9, ground := .data } (by simp) rfl⟩) (fun h => by omega) (fun h => by omega)⟩
    | 11, _ =>
      have hoe := Option.some.inj ho
      subst hoe
      have e10 := hm.sl 10 (hd { on := 10, ground := .data } (by simp) rfl)
      simp only [mSl] at e10
      obtain ⟨k6, k7, k8, k9⟩ := hm.q10 (hd { on := 10, ground := .data } (by simp) rfl)
      obtain ⟨b6, e6, l6, z6⟩ := (show ∃ b, us 6 = .map (some b) ∧ _ ∧ _ from hm.sl 6 k6)
      obtain ⟨b7, e7, l7, z7⟩ := (show ∃ b, us 7 = .map (some b) ∧ _ ∧ _ from hm.sl 7 k7)
      obtain ⟨b8, e8, l8, z8⟩ := (show ∃ b, us 8 = .map (some b) ∧ _ ∧ _ from hm.sl 8 k8)
      obtain ⟨b9, e9, l9, z9⟩ := (show ∃ b, us 9 = .map (some b) ∧ _ ∧ _ from hm.sl 9 k9)
      have HD : Hid _ := hd
      clear hm hL hd ho
      refine wpOp_listP rfl ?_
      intro Q1 hQ1 hPn
      have HQ : Hid _ := hQ1
      clear hQ1 hPn
      simp only [mfr, exG, hp1, hp2, hp3, e10, e6, e7, e8, e9]
      go_wp2
      refine HQ.out _ _ ?_
      clear HQ
      exact ⟨upm us 11 (.pointer (some ⟨w.heap.size, 0, none⟩)), by simp [mfr, upm, exG, hp1, hp2, hp3, e10, e6, e7, e8, e9], HM.out.step 11 _ HL.out ((Below.refl _ _).alloc (Nat.le_refl _) _) ⟨w.heap.size, rfl, HM.out.bel.size, by rw [e6, e7, e8, e9]; exact heap_alloc_new w _⟩ (fun h1 h2 => by omega) (fun h => by omega) (fun _ => HD.out { on := 10, ground := .data } (by simp) rfl) (fun h => by omega)⟩
    | 12, _ =>
      have hoe := Option.some.inj ho
      subst hoe
      have e11 := hm.sl 11 (hd { on := 11, ground := .data } (by simp) rfl)
      simp only [mSl] at e11
      obtain ⟨g, e11, l11, k11⟩ := e11
      have HD : Hid _ := hd
      clear hm hL hd ho
      refine wpOp_listP rfl ?_
      intro Q1 hQ1 hPn
      have HQ : Hid _ := hQ1
      clear hQ1 hPn
      simp only [mfr, hp1, hp2, hp3, e11]
      go_wp2
      refine HQ.out _ _ ?_
      clear HQ
      exact ⟨upm us 12 (us 11), by simp [mfr, upm, hp1, hp2, hp3, e11], HM.out.step 12 _ HL.out (Below.refl _ _) rfl (fun h1 h2 => by omega) (fun h => by omega) (fun h => by omega) (fun _ => HD.out { on := 11, ground := .data } (by simp) rfl)⟩
    | k + 13, h => exact absurd h (by omega)
  case hend =>
    rintro L a w ⟨us, rfl, hm⟩ hall
    have e7' : us 12 = us 11 := hm.sl 12 (hall 12 (by decide))
    obtain ⟨g, e11, l11, k11⟩ := (show ∃ g, us 11 = .pointer (some ⟨g, 0, none⟩) ∧ _ ∧ _ from hm.sl 11 (hall 11 (by decide)))
    obtain ⟨b6, e6, l6, k6⟩ := (show ∃ b, us 6 = .map (some b) ∧ _ ∧ _ from hm.sl 6 (hall 6 (by decide)))
    obtain ⟨b7, e7, l7, k7⟩ := (show ∃ b, us 7 = .map (some b) ∧ _ ∧ _ from hm.sl 7 (hall 7 (by decide)))
    obtain ⟨b8, e8, l8, k8⟩ := (show ∃ b, us 8 = .map (some b) ∧ _ ∧ _ from hm.sl 8 (hall 8 (by decide)))
    obtain ⟨b9, e9, l9, k9⟩ := (show ∃ b, us 9 = .map (some b) ∧ _ ∧ _ from hm.sl 9 (hall 9 (by decide)))
    have n68 : b6 ≠ b8 := fun e => by
      have := hm.ne 6 8 b6 (by decide) (by decide) (by decide) (by decide) (hall 6 (by decide)) (hall 8 (by decide)) e6 (by rw [e8, e])
      omega
    have ng : g ≠ b8 := fun e => by rw [e, k8] at k11; cases k11
    rw [e6, e7, e8, e9] at k11
    have hbw : Below W.heap.size W w := HB1.out.trans (hm.bel.mono HB1.out.size)
    have hsz := HB1.out.size
    have NE : Hid (b6 ≠ b8 ∧ g ≠ b8 ∧ gf ≠ b8 ∧ W.heap.size ≤ b8 ∧ W.heap.size ≤ g ∧ W.heap.size ≤ b6) := ⟨n68, ng, by have := hrow.out.lt; omega, by omega, by omega, by omega⟩
    have OX : Hid (Ob w W.heap.size (exG M gf 1) 42) := O1.out.below hm.bel O1.out.lt
    have FS : Hid (Fs W w g gf 1 b6 b7 b8 b9 M (exF s)) := ⟨⟨k11⟩, hrow.out.below hbw hrow.out.lt, ⟨#[], 0, k6, MapKept.stamped_empty 0, by simp, rfl, by simp⟩, hbw⟩
    have MM : Hid (Mi w b8 0 (fun _ => none)) := ⟨#[], 0, k8, MapKept.stamped_empty 0, by simp, rfl, by simp⟩
    clear hm hall k6 k7 k8 k9 k11 l6 l7 l8 l9 l11 n68 ng hbw hsz O1 HB1 HW1 hp QJ hmm
    simp only [mfr, hp1, hp2, hp3, e6, e7, e8, e9, e7', e11]
    clear hp1 hp2 hp3 e6 e7 e8 e9 e7' e11
    generalize p 0 = q0
    generalize p 4 = q4
    generalize p 5 = q5
    have ox := OX.out
    unfold exG at ox
    obtain ⟨⟨c0, c1, c2, c3, c4, c5, c6, c7, c8, c9, c10⟩, _, cl⟩ := ob11 ox
    clear ox
    go_wp2
    go_loopw [39] (fun v wr => v = .int .i64 0 ∧ w = wr) (fun _ _ => 0)
    case atStart => exact ⟨rfl, rfl⟩
    case round =>
      obtain ⟨rfl, rfl⟩ := hrel
      go_wp2
      go_loopw [53] (fun v wr => v = .int .i64 0 ∧ w = wr) (fun _ _ => 0)
      case atStart => exact ⟨rfl, rfl⟩
      case round =>
        obtain ⟨rfl, rfl⟩ := hrel
        go_wp2
        clear c0 c1 c2 c3 c4 c5 c6 c7 c8 c9 c10 cl OX
        go_loopw [68] (fun v wr => (v = .int .i64 0 ∧ Hid (Fs W wr g gf 1 b6 b7 b8 b9 M (exF s) ∧ Mi wr b8 0 (fun _ => none))) ∨ (v = .int .i64 1 ∧ Hid (Fs W wr g gf 1 b6 b7 b8 b9 M (exF s) ∧ Mi wr b8 1 (fun x => if x = 0 then some (.int .i64 1) else none)))) (fun v _ => 3 - (intOf v).toNat)
        case atStart => exact .inl ⟨rfl, FS.out, MM.out⟩
        case round =>
          rcases hrel with ⟨rfl, HS⟩ | ⟨rfl, HS⟩
          · have FR := HS.out.1.row
            have HL : Hid (b8 < wr.heap.size) := HS.out.2.lt
            unfold exF at FR
            have d0 : wr.cell? ⟨gf, 0, none⟩ = some _ := FR.cell 0 rfl
            have d1 : wr.cell? ⟨gf, 1, none⟩ = some _ := FR.cell 1 rfl
            have d2 : wr.cell? ⟨gf, 2, none⟩ = some _ := FR.cell 2 rfl
            have d3 : wr.cell? ⟨gf, 3, none⟩ = some _ := FR.cell 3 rfl
            have d4 : wr.cell? ⟨gf, 4, none⟩ = some _ := FR.cell 4 rfl
            have d5 : wr.cell? ⟨gf, 5, none⟩ = some _ := FR.cell 5 rfl
            have d6 : wr.cell? ⟨gf, 6, none⟩ = some _ := FR.cell 6 rfl
            have d7 : wr.cell? ⟨gf, 7, none⟩ = some _ := FR.cell 7 rfl
            have d8 : wr.cell? ⟨gf, 8, none⟩ = some _ := FR.cell 8 rfl
            have d9 : wr.cell? ⟨gf, 9, none⟩ = some _ := FR.cell 9 rfl
            have d10 : wr.cell? ⟨gf, 10, none⟩ = some _ := FR.cell 10 rfl
            have d11 : wr.cell? ⟨gf, 11, none⟩ = some _ := FR.cell 11 rfl
            have d12 : wr.cell? ⟨gf, 12, none⟩ = some _ := FR.cell 12 rfl
            have dl := FR.lt
            obtain ⟨w5, hw5, hb5, o5⟩ := exF_new s wr
            unfold exF at hw5 o5
            have HW5 : Hid _ := hw5
            have F5 : Hid _ := HS.out.1.under hb5 (Nat.le_refl _)
            have M5 : Hid (Mi w5 b8 0 (fun _ => none)) := HS.out.2.below hb5 HS.out.2.lt
            have O5 : Hid _ := o5
            obtain ⟨⟨e0, e1, e2, e3, e4, e5, e6, e7, e8, e9, e10, e11, e12⟩, _, el⟩ := ob13 o5
            have FM := F5.out.msg
            unfold exM at FM
            have f16 := fun x : Ext w5 => x.cell (p := ⟨g, 16, none⟩) FM.lt (FM.cell 16 rfl)
            have g8 := fun x : Ext w5 => x.cell (p := ⟨wr.heap.size, 8, none⟩) el e8
            have hlk : ∀ x : Ext w5, (Instr.lookup 162 (.map (some b8)) (.int .i64 0) false).run Tryz.prog x.val = .ok (.int .i64 0) x.val := fun x => (M5.out.below x.ok M5.out.lt).look (t := 162) (e := 3) Tryz.underlying3 mapII (z := .int .i64 0) (zeroII _) 0 (by decide) false
            clear FR hw5 hb5 o5 HS FM e0 e1 e2 e3 e4 e5 e6 e7 e8 e9 e10 e11 e12
            go_upto_region 17 with fail
            rw [HW5.out]
            clear HW5 d0 d1 d2 d3 d4 d5 d6 d7 d8 d9 d10 d11 d12 dl
            refine wp_region_elast w5 (Below.refl _ _) rfl (by kernel_rfl) (by kernel_rfl) (by kernel_rfl) (by kernel_rfl) ?_
            simp only [List.dropLast]
            repeat (go_big_quiet_step (fail))
            refine wpQuiet_nil ?_
            rintro w7 ⟨⟨_, hb7⟩, rfl⟩ Q1 hQ1
            have HQ : Hid _ := hQ1
            obtain ⟨w8, hup, hm8, hg8⟩ := (M5.out.below hb7 M5.out.lt).put (t := 162) (e := 3) Tryz.underlying3 mapII 0 (by decide) (.int .i64 1)
            have F8 : Hid _ := (F5.out.under hb7 (Nat.le_refl _)).grown hg8 NE.out.2.2.2.1 NE.out.2.1 NE.out.2.2.1 NE.out.1
            have M8 : Hid _ := hm8.congr (g' := fun x => if x = 0 then some (.int .i64 1) else none) (fun x => by by_cases h : x = 0 <;> simp [h])
            have R8 : Hid (Fs W w8 g gf 1 b6 b7 b8 b9 M (exF s) ∧ Mi w8 b8 _ (fun x => if x = 0 then some (.int .i64 1) else none)) := ⟨F8.out, M8.out⟩
            have O8 := (O5.out.below hb7 O5.out.lt).grown hg8 (fun e => by have h1 := Option.some.inj e; have h2 := M5.out.lt; have h3 := HL.out; omega)
            obtain ⟨⟨e0, e1, e2, e3, e4, e5, e6, e7, e8, e9, e10, e11, e12⟩, _, el2⟩ := ob13 O8
            clear hQ1 hm8 hg8 hb7 f16 g8 hlk F5 M5 O5 O8 el
            go_wp2
            refine HQ.out _ _ ?_
            clear HQ
            go_wp2
            go_roundw
            case rel => first | exact .inr ⟨by go_num, R8⟩ | ((repeat apply Exists.intro); exact ⟨.inr ⟨by go_num, R8⟩, rfl⟩)
            case measure => simp [intOf]
          · go_wp2
            go_ret
            exact ⟨g, b6, b7, b8, b9, rfl, NE.out.2.2.2.2.1, NE.out.2.2.2.2.2, HS.out.1⟩

end Go.Proofs.YtcnjjhdmnagkgaaGreatDoor
