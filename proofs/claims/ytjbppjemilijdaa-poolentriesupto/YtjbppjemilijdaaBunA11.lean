/- Put together by a program out of these texts of mine: XHeld, VLay2, VNew. -/
import Derived.OrdersHeld
import Derived.Defers
import Derived.Recover
import Derived.Maps.RangeRun
import Derived.Test.YtjbppjemilijdaaBunA1
import Derived.Test.YtjbppjemilijdaaBunA10

/- A region that draws its order, with a last operation behind which what was held need not hold. -/
namespace Go.Proofs.Ytjbppjemilijdaa
open Go.RowKit
set_option linter.unusedVariables false
set_option linter.unusedSimpArgs false

section
variable {P : Program} {md : Region.Mode} {ops : Array Oper} {Q : Exit → Act → World → Prop} {S : World → Prop} {z : Nat}

/-- Whatever order is picked from here on, and S holds behind every operation but the last one, z. -/
def wpAnyG (P : Program) (md : Region.Mode) (ops : Array Oper) (Q : Exit → Act → World → Prop) (S : World → Prop) (z : Nat) : Nat → Array Bool → Act → World → Prop
  | 0, listed, a, w => Region.ready md ops listed = [] ∧ Q .normal a w
  | fuel + 1, listed, a, w =>
    (Region.ready md ops listed = [] → Q .normal a w) ∧
    ∀ i ∈ Region.ready md ops listed, wpOp P ops Q i (fun a' w' => (i = z ∨ S w') ∧ wpAnyG P md ops Q S z fuel (listed.setIfInBounds i true) a' w') a w

theorem wpAny_of_G : ∀ (fuel : Nat) (listed : Array Bool) (a : Act) (w : World), wpAnyG P md ops Q S z fuel listed a w → wpAny P md ops Q fuel listed a w
  | 0, _, _, _, h => h
  | fuel + 1, _, _, _, h => ⟨h.1, fun i hi => wpOp_mono (fun a' w' h' => wpAny_of_G fuel _ a' w' h'.2) (h.2 i hi)⟩

theorem wpAnyG_first {i : Nat} {oi oz : Oper} {v : Value} (hi : ops[i]? = some oi) (hz : ops[z]? = some oz) (hiz : i ≠ z) (hzi : ∃ e ∈ oz.after, Region.binds md e = true ∧ e.on = i) (hsel : ∀ (j : Nat) (o : Oper) cs b, ops[j]? = some o → o.op ≠ .select cs b)
    (hQ : ∀ c a w, Q (.panic c) (a.put oi.dst v) w → Q (.panic c) a w) :
    ∀ (fuel : Nat) (listed : Array Bool) (a : Act) (w : World),
      (∀ j oj, ops[j]? = some oj → j ≠ i → listed.getD j true = false → (∀ e ∈ oj.after, Region.binds md e = true → e.on ≠ i) → oi.apart ops oj = true) →
      i ∈ Region.ready md ops listed → YieldsIf P ops S oi v a → S w →
      wpAnyG P md ops Q S z fuel (listed.setIfInBounds i true) (a.put oi.dst v) w → wpAnyG P md ops Q S z (fuel + 1) listed a w := by
  intro fuel
  induction fuel with
  | zero =>
    intro listed a w _ hr hy hS H
    refine ⟨fun h => (by rw [h] at hr; cases hr), fun j hj => ?_⟩
    by_cases hji : j = i
    · subst hji; exact hy.wpOp hi hS ⟨.inr hS, H⟩
    · have := ready_mono hj hji
      rw [H.1] at this
      cases this
  | succ fuel ih =>
    intro listed a w hfree hr hy hS H
    refine ⟨fun h => (by rw [h] at hr; cases hr), fun j hj => ?_⟩
    by_cases hji : j = i
    · subst hji; exact hy.wpOp hi hS ⟨.inr hS, H⟩
    · have h1 := H.2 j (ready_mono hj hji)
      obtain ⟨hjun, oj, hoj, hall⟩ := mem_ready.1 hj
      have hnot : ∀ e ∈ oj.after, Region.binds md e = true → e.on ≠ i := fun e he hb heq => by
        have h1 := hall e he hb
        have h0 := (mem_ready.1 hr).1
        rw [heq] at h1
        rcases Nat.lt_or_ge i listed.size with h' | h'
        · simp [h'] at h0 h1; rw [h0] at h1; cases h1
        · simp [Array.getElem?_eq_none h'] at h1
      have hjz : j ≠ z := fun e => by
        subst e
        rw [hz] at hoj
        cases hoj
        obtain ⟨e, he, hb, ho⟩ := hzi
        exact hnot e he hb ho
      have h2 := wpOp_putIf hoj (hfree j oj hoj hji hjun hnot) (fun cs b => hsel i oi cs b hi) (fun cs b => hsel j oj cs b hoj) hQ hy h1
      have hfree' : ∀ k ok, ops[k]? = some ok → k ≠ i → (listed.setIfInBounds j true).getD k true = false →
          (∀ e ∈ ok.after, Region.binds md e = true → e.on ≠ i) → oi.apart ops ok = true := fun k ok hk hki hun hno => by
        refine hfree k ok hk hki ?_ hno
        by_cases hjk : j = k
        · subst hjk; exact hjun
        · rw [getD_set_ne true hjk] at hun; exact hun
      refine wpOp_mono (fun a' w' h3 => ?_) h2
      have hS' : S w' := h3.2.1.resolve_left hjz
      refine ⟨.inr hS', ih (listed.setIfInBounds j true) a' w' hfree' (ready_mono hr (Ne.symm hji)) h3.1 hS' ?_⟩
      rw [Array.setIfInBounds_comm _ _ hji]
      exact h3.2.2

/-- The last operation waits for this one. -/
def lastWaits (md : Region.Mode) (ops : Array Oper) (z i : Nat) : Bool := match ops[z]? with
  | some oz => oz.after.any (fun e => Region.binds md e && decide (e.on = i)) && decide (i ≠ z)
  | none => false

theorem wpAnyG_take {i : Nat} {oi : Oper} {v : Value} {fuel : Nat} {listed : Array Bool} {a : Act} {w : World} (hi : ops[i]? = some oi)
    (hs : Region.noSelect ops = true) (hf : Region.free md ops listed i = true) (hr : (Region.ready md ops listed).contains i = true) (hz : lastWaits md ops z i = true)
    (hQ : ∀ c a w, Q (.panic c) (a.put oi.dst v) w → Q (.panic c) a w) (hy : YieldsIf P ops S oi v a) (hS : S w)
    (h : wpAnyG P md ops Q S z fuel (listed.setIfInBounds i true) (a.put oi.dst v) w) : wpAnyG P md ops Q S z (fuel + 1) listed a w := by
  unfold lastWaits at hz
  cases hoz : ops[z]? with
  | none => rw [hoz] at hz; cases hz
  | some oz =>
    rw [hoz] at hz
    rw [Bool.and_eq_true, Array.any_eq_true] at hz
    obtain ⟨⟨k, hk, heb⟩, hne⟩ := hz
    rw [Bool.and_eq_true] at heb
    exact wpAnyG_first hi hoz (of_decide_eq_true hne) ⟨oz.after[k], Array.getElem_mem hk, heb.1, of_decide_eq_true heb.2⟩ (Region.noSelect_spec hs) hQ fuel listed a w (Region.free_spec hi hf) (by simpa using hr) hy hS h

theorem wpAnyG_all {rs : List Nat} {fuel : Nat} {listed : Array Bool} {a : Act} {w : World} (hr : Region.ready md ops listed = rs) (hne : rs ≠ [])
    (h : ∀ i ∈ rs, wpOp P ops Q i (fun a' w' => (i = z ∨ S w') ∧ wpAnyG P md ops Q S z fuel (listed.setIfInBounds i true) a' w') a w) : wpAnyG P md ops Q S z (fuel + 1) listed a w :=
  ⟨fun h0 => absurd (hr ▸ h0) hne, hr ▸ h⟩

theorem wpAnyG_done {listed : Array Bool} {a : Act} {w : World} (hr : Region.ready md ops listed = []) (h : Q .normal a w) :
    ∀ fuel, wpAnyG P md ops Q S z fuel listed a w
  | 0 => ⟨hr, h⟩
  | _ + 1 => ⟨fun _ => h, by rw [hr]; intro i hi; cases hi⟩

theorem wp_region_heldG {id : Nat} {a : Act} {w : World} (z : Nat) (hm : P.follows .mixedOrders = true) (h : wpAnyG P .any ops Q S z ops.size (Array.replicate ops.size false) a w.drew) : (Code.region id ops true).wp P Q a w :=
  wp_region_any hm (wpAny_of_G _ _ _ _ h)

end

end Go.Proofs.Ytjbppjemilijdaa

/- A file in a pool: the example's. -/
namespace Go.Proofs.Ytjbppjemilijdaa
open Go.RowKit
set_option linter.unusedVariables false
set_option linter.unusedSimpArgs false

/-- The states of packages' rounds, of a.b. -/
def Tab2 (H : ByteArray) (s : List Int) (n : Nat) (g : ByteArray → Option Value) : Prop :=
  (s = [97, 46, 98] ∧ n = 0 ∧ g = fun _ => none) ∨ (s = [97] ∧ n = 1 ∧ g = gput (fun _ => none) (strOfNums [97, 46, 98]) (pkgV H)) ∨ (s = [] ∧ n = 2 ∧ g = gput (gput (fun _ => none) (strOfNums [97, 46, 98]) (pkgV H)) (strOfNums [97]) (pkgV H))

theorem str_inj {a b : List Int} (ha : byts a) (hb : byts b) (h : strOfNums a = strOfNums b) : a = b := by
  have h1 := congrArg (fun x : ByteArray => x.data.toList) h
  simp only [strOfNums_data] at h1
  clear h
  induction a generalizing b with
  | nil => cases b with
    | nil => rfl
    | cons y r => simp at h1
  | cons x l ih => cases b with
    | nil => simp at h1
    | cons y r =>
      simp only [List.map_cons, List.cons.injEq] at h1
      rw [u8_inj (ha x (by simp)) (hb y (by simp)) h1.1, ih (fun z hz => ha z (by simp [hz])) (fun z hz => hb z (by simp [hz])) h1.2]

theorem tab2_step (H : ByteArray) : ∀ s n g, Tab2 H s n g → s ≠ [] → byts s ∧ (∀ i, 0 ≤ s.getD i 0 ∧ s.getD i 0 ≤ 255) ∧ s.length ≤ 10000 ∧ g (strOfNums s) = none ∧ Tab2 H (nparent s).1 (n + 1) (gput g (strOfNums s) (pkgV H)) := by
  intro s n g h hs
  have z3 : ∀ i, 0 ≤ ([97, 46, 98] : List Int).getD i 0 ∧ ([97, 46, 98] : List Int).getD i 0 ≤ 255 := by
    intro i
    match i with
    | 0 => decide
    | 1 => decide
    | 2 => decide
    | i + 3 => simp [List.getD]
  have z1 : ∀ i, 0 ≤ ([97] : List Int).getD i 0 ∧ ([97] : List Int).getD i 0 ≤ 255 := by
    intro i
    match i with
    | 0 => decide
    | i + 1 => simp [List.getD]
  rcases h with ⟨rfl, rfl, rfl⟩ | ⟨rfl, rfl, rfl⟩ | ⟨rfl, rfl, rfl⟩
  · exact ⟨by unfold byts; decide, z3, by decide, rfl, .inr (.inl ⟨by decide, rfl, rfl⟩)⟩
  · refine ⟨by unfold byts; decide, z1, by decide, ?_, .inr (.inr ⟨by decide, rfl, rfl⟩)⟩
    unfold gput
    rw [if_neg]
    intro e
    have := str_inj (a := [97]) (b := [97, 46, 98]) (by unfold byts; decide) (by unfold byts; decide) e
    cases this
  · exact absurd rfl hs

theorem wpList_append_eqV {w : World} {ops : Array Oper} {rest : List Oper} {o : Oper} {f : Act} {Q : Exit → Act → World → Prop} (hgd : o.guard = none) (s x : Operand) (T : TypeId)
    (ho : o.op = .call { callee := .builtin .append, args := #[s, x], argTypes := #[T, T] }) {vs vx v' : Value} {w' : World} (hs : f.eval s = vs) (hx : f.eval x = vx) (hrun : (Builtin.append_ #[T, T] o.type #[vs, vx]).run Try.prog w = .ok v' w') (h : wpList Try.prog ops Q rest (f.put o.dst v') w') :
    wpList Try.prog ops Q (o :: rest) f w := by
  refine wpList_plain hgd fun K hK => ?_
  unfold Oper.wp
  simp [execOp, ho, resolve, invoke, builtin, hs, hx, hrun, Result.andThen]
  exact hK _ _ h

theorem infoFileV : (Try.prog.info? 36).map (fun i => (i.zero, i.size, i.bytes)) = some (some (.agg #[.string ⟨#[]⟩, .string ⟨#[]⟩, .slice none 0 0, .slice none 0 0, .slice none 0 0, .slice none 0 0, .slice none 0 0, .slice none 0 0, .string ⟨#[]⟩, .slice none 0 0, .slice none 0 0]), 11, ((Try.prog.info? 36).map (fun i => i.bytes)).getD 0) := by kernel_rfl

theorem infoFileB : ((Try.prog.info? 36).map (fun i => i.bytes)).getD 0 ≤ 1000 := of_decide_eq_true (by kernel_rfl)

/-- A file appended to none. -/
theorem run_append_file (W : World) (a : Nat) (c : Nat) (cs : Array Value) (hc : cs.size = 11) (h : Ob W a cs 36) (h1 : ∀ u ∈ cs.toList, u.oneCell' = true) (ty : TypeId) :
    ∃ v w', (Builtin.append_ #[43, 43] ty #[.slice none 0 0, .slice (some ⟨a, 0, none⟩) 1 c]).run Try.prog W = .ok v w' ∧ W.grownBy w' none ∧ ∃ ad n cp, v = .slice ad n cp := by
  obtain ⟨i0, hi, h2⟩ : ∃ i, Try.prog.info? 36 = some i ∧ (i.zero, i.size, i.bytes) = (some (.agg #[.string ⟨#[]⟩, .string ⟨#[]⟩, .slice none 0 0, .slice none 0 0, .slice none 0 0, .slice none 0 0, .slice none 0 0, .slice none 0 0, .string ⟨#[]⟩, .slice none 0 0, .slice none 0 0]), 11, ((Try.prog.info? 36).map (fun i => i.bytes)).getD 0) := by
    have := infoFileV
    cases hq : Try.prog.info? 36 with
    | none => rw [hq] at this; cases this
    | some i => rw [hq] at this; exact ⟨i, rfl, Option.some.inj this⟩
  simp only [Prod.mk.injEq] at h2
  obtain ⟨z1, z2, z3⟩ := h2
  have hB := infoFileB
  obtain ⟨v, w', hr, ho, hg, _, _⟩ := run_append_own_at (P := Try.prog) W 0 43 ty 36 i0 _ 11 i0.bytes Try.underlying43 hi z1 z2 rfl rfl (by omega) (.slice none 0 0) 0 [] (World.ownsRow_nil W 0 36 11) ⟨a, 0, none⟩ 1 c cs.toList (by simpa using hc) (fun j u hj => by
    have := h.cell j (v := u) (by simpa using hj)
    simp only [Addr.add]
    split
    · rename_i h0; rw [h0] at this; exact this
    · simpa using this) h1 (by unfold maxLen; omega) (by rw [z3]; omega) (Nat.zero_le _)
  refine ⟨v, w', hr, hg, ?_⟩
  rcases ho.2 with ⟨rfl, _⟩ | ⟨g, cp, cur, rfl, _⟩
  · exact ⟨_, _, _, rfl⟩
  · exact ⟨_, _, _, rfl⟩

/-- All that was there is as it was, but for a pool's block and its symbols. -/
structure Kp (W w : World) (bp bs : Nat) : Prop where
  os : w.os = W.os
  tape : w.tape = W.tape
  output : w.output = W.output
  size : W.heap.size ≤ w.heap.size
  block : ∀ k, k < W.heap.size → k ≠ bp → k ≠ bs → w.heap[k]? = W.heap[k]?

theorem Kp.ob {W w : World} {bp bs : Nat} (h : Kp W w bp bs) {b : Nat} {c : Array Value} {T : TypeId} (ho : Ob W b c T) (h1 : b ≠ bp) (h2 : b ≠ bs) : Ob w b c T := ⟨(h.block b ho.lt h1 h2).trans ho.eq⟩

set_option maxRecDepth 100000 in
set_option maxHeartbeats 8000000 in
theorem playF (A Y : ByteArray) (hA : A.size ≤ 1000000) (hY : Y.size ≤ 1000000) (gm : Nat) (W : World) {bp bs be : Nat} (hP : Hid (Po W bp bs be (.slice none 0 0) 0 (fun _ => none))) (hgm : Ob W gm (msg0 (strOfNums [77])) 30) (hgn : gm ≠ bs) :
    Calls Try.prog 25 #[.pointer (some ⟨bp, 0, none⟩), .agg (fil1 A (strOfNums [97, 46, 98]) Y gm)] W fun e W' => e = .returned (.tuple #[]) ∧ Kp W W' bp bs ∧ ∃ vf ad, Po W' bp bs be vf 3 (gput (gput (gput (fun _ => none) (strOfNums [97, 46, 98]) (pkgV A)) (strOfNums [97]) (pkgV A)) (strOfNums [97, 46, 98, 46, 77]) (.agg #[.int .i64 2, .string A, .pointer ad, .pointer none, .pointer none])) := by
  obtain ⟨K, hK⟩ : ∃ K, K = strOfNums [97, 46, 98] := ⟨_, rfl⟩
  have HK : Hid _ := hK
  rw [← hK]
  obtain ⟨w1, hw1⟩ : ∃ w1, w1 = W.alloc (.cells (fil1 A K Y gm) 36) := ⟨_, rfl⟩
  have hb1 : Below W.heap.size W w1 := by rw [hw1]; exact (Below.refl _ _).alloc (Nat.le_refl _) _
  have f1 : Ob w1 W.heap.size (fil1 A K Y gm) 36 := by rw [hw1]; exact Ob.new _ _ _
  have P1 : Hid _ := hP.out.below hb1 (Nat.le_refl _)
  have g1 := hgm.below hb1 hgm.lt
  have hl := hP.out.blk.lt
  have hl2 := hP.out.sym.lt
  have hl3 := hP.out.ext.lt
  have QF : Hid _ := pwfile0 A K Y hA (by rw [hK, strOfNums_size]; decide) hY (.slice (some ⟨gm, 0, none⟩) 1 1) ⟨_, _, _, rfl⟩ w1
  unfold fil1 at *
  obtain ⟨⟨c0, c1, c2, c3, c4, c5, c6, c7, c8, c9, c10⟩, _, cl⟩ := ob11 f1
  have F1 : Hid _ := f1
  have G1 : Hid _ := g1
  have HB1 : Hid _ := hb1
  have HW1 : Hid _ := hw1
  have hgl : gm < W.heap.size := hgm.lt
  have HK3 : Hid (byts [97, 46, 98]) := by show byts _; unfold byts; decide
  clear f1 g1 hb1 hw1 hgm hP hK
  go_enter Try.func25, Try.ntmps25
  go_upto_region 1 with fail
  rw [← HW1.out]
  clear HW1
  go_wp2_with fail
  refine Calls.mono QF.out ?_
  rintro e w2 ⟨rfl, hb2⟩
  have P2 : Hid _ := P1.out.below hb2 (Nat.le_refl _)
  have F2 : Hid _ := F1.out.below hb2 F1.out.lt
  have G2 : Hid _ := G1.out.below hb2 G1.out.lt
  have HB2 : Hid (Below W.heap.size W w2) := HB1.out.trans (hb2.mono HB1.out.size)
  obtain ⟨w3, hw3⟩ : ∃ w3, w3 = ((w2.alloc (.cells #[.string A, .string K, .slice none 0 0, .slice none 0 0, .slice none 0 0, .slice none 0 0, .slice none 0 0, .slice none 0 0, .string Y, .slice none 0 0, .slice none 0 0] 36)).alloc (.cells #[.int .i64 1, .bool false] 93)).alloc (.cells #[.pointer (some ⟨bp, 0, none⟩), .string A] 96) := ⟨_, rfl⟩
  have hb3 : Below w2.heap.size w2 w3 := by rw [hw3]; exact (((Below.refl _ _).alloc (Nat.le_refl _) _).alloc (by simp) _).alloc (by simp; omega) _
  have o3 : Ob w3 w2.heap.size #[.string A, .string K, .slice none 0 0, .slice none 0 0, .slice none 0 0, .slice none 0 0, .slice none 0 0, .slice none 0 0, .string Y, .slice none 0 0, .slice none 0 0] 36 := by rw [hw3]; exact ((Ob.new _ _ _).alloc _).alloc _
  have a3 : Ob w3 (w2.heap.size + 1) #[.int .i64 1, .bool false] 93 := by
    rw [hw3]
    have := (Ob.new (w2.alloc (.cells #[.string A, .string K, .slice none 0 0, .slice none 0 0, .slice none 0 0, .slice none 0 0, .slice none 0 0, .slice none 0 0, .string Y, .slice none 0 0, .slice none 0 0] 36)) #[.int .i64 1, .bool false] 93).alloc (.cells #[.pointer (some ⟨bp, 0, none⟩), .string A] 96)
    simpa using this
  have h3 : Ob w3 (w2.heap.size + 1 + 1) #[.pointer (some ⟨bp, 0, none⟩), .string A] 96 := by
    rw [hw3]
    have := Ob.new ((w2.alloc (.cells #[.string A, .string K, .slice none 0 0, .slice none 0 0, .slice none 0 0, .slice none 0 0, .slice none 0 0, .slice none 0 0, .string Y, .slice none 0 0, .slice none 0 0] 36)).alloc (.cells #[.int .i64 1, .bool false] 93)) #[.pointer (some ⟨bp, 0, none⟩), .string A] 96
    simpa using this
  have P3 : Hid _ := P2.out.below hb3 (Nat.le_refl _)
  have F3 : Hid _ := F2.out.below hb3 F2.out.lt
  have G3 : Hid _ := G2.out.below hb3 G2.out.lt
  have HB3 : Hid (Below W.heap.size W w3) := HB2.out.trans (hb3.mono HB2.out.size)
  have QK : Hid _ := ppkg_gen A (Tab2 A) (show Hid _ from tab2_step A) [97, 46, 98] 0 (fun _ => none) (show Hid _ from .inl ⟨rfl, rfl, rfl⟩) w3 P3
  rw [← HK.out] at QK
  obtain ⟨⟨x0, x1⟩, _, xl⟩ := ob2 h3
  have y1 : w3.cell? ⟨w2.heap.size, 1, none⟩ = some (.string K) := o3.cell 1 rfl
  have yl := o3.lt
  have O3 : Hid _ := o3
  have A3 : Hid _ := a3
  have H3 : Hid _ := h3
  have HW3 : Hid _ := hw3
  have HS2 : Hid (W.heap.size < w2.heap.size) := Nat.lt_of_lt_of_le F1.out.lt hb2.size
  clear hb2 hb3 o3 a3 h3 hw3 P1 P2 F1 F2 G1 G2 HB1 HB2 QF c0 c1 c2 c3 c4 c5 c6 c7 c8 c9 c10 cl
  go_upto_region 4 with fail
  rw [← HW3.out]
  clear HW3
  go_wp2_with fail
  refine Calls.mono QK.out ?_
  rintro e w4 ⟨rfl, hg4, n4, g4, ht4, hP4⟩
  obtain ⟨rfl, rfl⟩ : n4 = 2 ∧ g4 = (gput (gput (fun _ => none) K (pkgV A)) (strOfNums [97]) (pkgV A)) := by
    rcases ht4 with ⟨h, _⟩ | ⟨h, _⟩ | ⟨_, h1, h2⟩
    · cases h
    · cases h
    · exact ⟨h1, by rw [h2, HK.out]⟩
  have hs2 := HS2.out
  have hbs : bs < W.heap.size := hl2
  have o4 := O3.out.grown hg4 (fun e => by have := Option.some.inj e; omega)
  have a4 := A3.out.grown hg4 (fun e => by have := Option.some.inj e; omega)
  have h4 := H3.out.grown hg4 (fun e => by have := Option.some.inj e; omega)
  have f4 := F3.out.grown hg4 (fun e => by have := Option.some.inj e; omega)
  have gg4 := G3.out.grown hg4 (fun e => by have := Option.some.inj e; exact hgn this)
  have HG4 : Hid (W.grownBy w4 (some bs)) := grown_transV (grown_ofV HB3.out) hg4
  obtain ⟨w5, hw5⟩ : ∃ w5, w5 = w4.alloc (.cells #[layV (w2.heap.size + 1 + 1) (w2.heap.size + 1) w4.heap.size] 98) := ⟨_, rfl⟩
  have hb5 : Below w4.heap.size w4 w5 := by rw [hw5]; exact (Below.refl _ _).alloc (Nat.le_refl _) _
  have q5 : Ob w5 w4.heap.size #[layV (w2.heap.size + 1 + 1) (w2.heap.size + 1) w4.heap.size] 98 := by rw [hw5]; exact Ob.new _ _ _
  have o5 := o4.below hb5 o4.lt
  have a5 := a4.below hb5 a4.lt
  have h5 := h4.below hb5 h4.lt
  have f5 := f4.below hb5 f4.lt
  have gg5 := gg4.below hb5 gg4.lt
  have P5 := hP4.below hb5 (Nat.le_refl _)
  have L5 : Hid (Lz w5 w5 (w2.heap.size + 1 + 1) (w2.heap.size + 1) w4.heap.size bp bs be (.slice none 0 0) A 2 (gput (gput (fun _ => none) K (pkgV A)) (strOfNums [97]) (pkgV A))) :=
    ⟨P5, h5, a5, q5, ⟨h5.lt, a5.lt, q5.lt, P5.blk.lt, P5.sym.lt, P5.ext.lt⟩, ⟨by omega, by omega, fun e => by have := hP4.sym.lt; omega⟩, World.grownBy.refl _ _⟩
  have QL : Hid _ := play1 [97, 46, 98] [77] HK3 (show Hid _ from by show byts _; unfold byts; decide) (by decide) (by decide) A w5 L5 gg5 (by
    rw [show njoin [97, 46, 98] [77] = [97, 46, 98, 46, 77] from by decide, HK.out]
    unfold gput
    rw [if_neg, if_neg]
    · intro e; have := str_inj (by unfold byts; decide) (by unfold byts; decide) e; cases this
    · intro e; have := str_inj (by unfold byts; decide) (by unfold byts; decide) e; cases this)
  rw [show njoin [97, 46, 98] [77] = [97, 46, 98, 46, 77] from by decide, ← HK.out] at QL
  have HG5 : Hid (W.grownBy w5 (some bs)) := grown_transV HG4.out (grown_ofV hb5)
  have e5 : (w4.alloc (.cells #[.nilFunc] 98)).heap[w4.heap.size]? = some (.cells #[.nilFunc] 98 (0, 0)) := heap_alloc_new _ _
  obtain ⟨r1, r2, r3⟩ := ob1 (Ob.mk e5)
  obtain ⟨s1, _, sl⟩ := ob1 q5
  have t1 : w5.cell? ⟨w2.heap.size, 1, none⟩ = some (.string K) := o5.cell 1 rfl
  have tl := o5.lt
  have u4 : w5.cell? ⟨W.heap.size, 4, none⟩ = some (.slice (some ⟨gm, 0, none⟩) 1 1) := f5.cell 4 rfl
  have ul := f5.lt
  have hmf : ∀ (fn : Fn) (first cap : Array Value) (w : World), (Instr.makeFunc fn first cap).run Try.prog w = .ok (.func fn first cap) w := fun _ _ _ _ => rfl
  unfold layV at s1 hw5
  have O5 : Hid _ := o5
  have H5 : Hid _ := h5
  have HW5 : Hid _ := hw5
  clear hg4 ht4 hP4 o4 a4 h4 f4 gg4 hw5 hb5 q5 o5 a5 h5 f5 gg5 P5 e5 QK O3 A3 H3 F3 G3 P3 HB3 HG4 x0 x1 xl y1 yl hs2 hbs L5
  go_upto_region 7 with fail
  rw [← HW5.out]
  clear HW5 r1 r2 r3
  go_wp2_with fail
  refine Calls.mono QL.out ?_
  rintro e w6 ⟨rfl, hL6⟩
  have hs2 := HS2.out
  have hbs : bs < W.heap.size := hl2
  have o6 := O5.out.grown hL6.gr (fun e => by have := Option.some.inj e; omega)
  have HG6 : Hid (W.grownBy w6 (some bs)) := grown_transV HG5.out hL6.gr
  obtain ⟨w7, hw7⟩ : ∃ w7, w7 = w6.setCell ⟨w2.heap.size, 4, none⟩ (.slice (some ⟨w5.heap.size, 0, none⟩) 1 1) := ⟨_, rfl⟩
  have hb7 : Below w2.heap.size w6 w7 := by rw [hw7]; exact (Below.refl _ _).setCell (p := ⟨w2.heap.size, 4, none⟩) (Nat.le_refl _) _
  have o7 : Ob w7 w2.heap.size #[.string A, .string K, .slice none 0 0, .slice none 0 0, .slice (some ⟨w5.heap.size, 0, none⟩) 1 1, .slice none 0 0, .slice none 0 0, .slice none 0 0, .string Y, .slice none 0 0, .slice none 0 0] 36 := by rw [hw7]; have := o6.set 4 (.slice (some ⟨w5.heap.size, 0, none⟩) 1 1); simpa using this
  have h7 : Ob w7 (w2.heap.size + 1 + 1) #[.pointer (some ⟨bp, 0, none⟩), .string A] 96 := by rw [hw7]; exact hL6.hb.other (by omega) _ _
  have p6 := hL6.po
  have P7 : Hid (Po w7 bp bs be (.slice none 0 0) 3 (gput (gput (gput (fun _ => none) K (pkgV A)) (strOfNums [97]) (pkgV A)) (strOfNums [97, 46, 98, 46, 77]) (.agg #[.int .i64 2, .string A, .pointer (some ⟨w5.heap.size, 0, none⟩), .pointer none, .pointer none]))) := ⟨p6.blk.below hb7 (by omega), p6.sym.below hb7 (by omega), p6.ext.below hb7 (by omega), p6.ne, p6.sl⟩
  have HK7 : Hid (Kp W w7 bp bs) := by
    obtain ⟨a1, a2, a3, a4, a5⟩ := HG6.out
    rw [hw7]
    exact ⟨a1, a2, a3, by simpa using a4, fun k hk h1 h2 => (heap_setCell_other _ _ _ _ (by simp; omega)).trans (a5 k hk (fun e => h2 (Option.some.inj e)))⟩
  have v1 : w6.cell? ⟨w2.heap.size, 4, none⟩ = some (.slice none 0 0) := o6.cell 4 rfl
  have v2 : w6.frozen? ⟨w2.heap.size, 4, none⟩ = false := o6.frozen 4
  have v3 : w2.heap.size < w6.heap.size := o6.lt
  obtain ⟨⟨x0, x1⟩, _, xl⟩ := ob2 h7
  have y1 : w7.cell? ⟨w2.heap.size, 1, none⟩ = some (.string K) := o7.cell 1 rfl
  have y2 : w7.cell? ⟨w2.heap.size, 5, none⟩ = some (.slice none 0 0) := o7.cell 5 rfl
  have yl := o7.lt
  have O7 : Hid _ := o7
  have H7 : Hid _ := h7
  have HW7 : Hid _ := hw7
  clear hL6 o6 hb7 o7 h7 p6 hw7 QL s1 sl t1 tl u4 ul O5 H5 HG5 HG6 hs2 hbs
  go_upto_region 8 with fail
  rw [← HW7.out]
  clear HW7 v1 v2 v3
  go_wp2_with fail
  refine Calls.mono (penums0 _ _ _ _ _ _) ?_
  rintro e w8 ⟨rfl, hb8⟩
  have O8 : Hid _ := O7.out.below hb8 O7.out.lt
  have H8 : Hid _ := H7.out.below hb8 H7.out.lt
  have P8 : Hid _ := P7.out.below hb8 (Nat.le_refl _)
  have HK8 : Hid (Kp W w8 bp bs) := ⟨hb8.os.trans HK7.out.os, hb8.tape.trans HK7.out.tape, hb8.output.trans HK7.out.output, Nat.le_trans HK7.out.size hb8.size, fun k hk h1 h2 => (hb8.block k (Nat.lt_of_lt_of_le hk HK7.out.size)).trans (HK7.out.block k hk h1 h2)⟩
  clear hb8 O7 H7 P7 HK7 x0 x1 xl y1 y2 yl
  obtain ⟨⟨x0, x1⟩, _, xl⟩ := ob2 H8.out
  have y1 : w8.cell? ⟨w2.heap.size, 1, none⟩ = some (.string K) := O8.out.cell 1 rfl
  have y2 : w8.cell? ⟨w2.heap.size, 6, none⟩ = some (.slice none 0 0) := O8.out.cell 6 rfl
  have yl := O8.out.lt
  go_wp2_with fail
  refine Calls.mono (pservs0 _ _ _ _ _ _) ?_
  rintro e w9 ⟨rfl, hb9⟩
  have O9 : Hid _ := O8.out.below hb9 O8.out.lt
  have H9 : Hid _ := H8.out.below hb9 H8.out.lt
  have P9 : Hid _ := P8.out.below hb9 (Nat.le_refl _)
  have HK9 : Hid (Kp W w9 bp bs) := ⟨hb9.os.trans HK8.out.os, hb9.tape.trans HK8.out.tape, hb9.output.trans HK8.out.output, Nat.le_trans HK8.out.size hb9.size, fun k hk h1 h2 => (hb9.block k (Nat.lt_of_lt_of_le hk HK8.out.size)).trans (HK8.out.block k hk h1 h2)⟩
  clear hb9 O8 H8 P8 HK8 x0 x1 xl y1 y2 yl
  obtain ⟨⟨x0, x1⟩, _, xl⟩ := ob2 H9.out
  have y1 : w9.cell? ⟨w2.heap.size, 1, none⟩ = some (.string K) := O9.out.cell 1 rfl
  have y2 : w9.cell? ⟨w2.heap.size, 7, none⟩ = some (.slice none 0 0) := O9.out.cell 7 rfl
  have yl := O9.out.lt
  go_wp2_with fail
  refine Calls.mono (pexts0 _ _ _ _ _ _) ?_
  rintro e w10 ⟨rfl, hb10⟩
  have O10 : Hid _ := O9.out.below hb10 O9.out.lt
  have H10 : Hid _ := H9.out.below hb10 H9.out.lt
  have P10 : Hid _ := P9.out.below hb10 (Nat.le_refl _)
  have HK10 : Hid (Kp W w10 bp bs) := ⟨hb10.os.trans HK9.out.os, hb10.tape.trans HK9.out.tape, hb10.output.trans HK9.out.output, Nat.le_trans HK9.out.size hb10.size, fun k hk h1 h2 => (hb10.block k (Nat.lt_of_lt_of_le hk HK9.out.size)).trans (HK9.out.block k hk h1 h2)⟩
  clear hb10 O9 H9 P9 HK9 x0 x1 xl y1 y2 yl
  obtain ⟨⟨x0, x1⟩, _, xl⟩ := ob2 H10.out
  have y1 : w10.cell? ⟨w2.heap.size, 1, none⟩ = some (.string K) := O10.out.cell 1 rfl
  have y2 : w10.cell? ⟨w2.heap.size, 7, none⟩ = some (.slice none 0 0) := O10.out.cell 7 rfl
  have yl := O10.out.lt
  clear x0 x1 xl y1 y2 yl H10
  go_upto_region 11 with fail
  refine wp_region_heldG 10 (S := fun V => Hid (Ob V bp #[.slice none 0 0, .map (some bs), .map (some be)] 59 ∧ Ob V w2.heap.size #[.string A, .string K, .slice none 0 0, .slice none 0 0, .slice (some ⟨w5.heap.size, 0, none⟩) 1 1, .slice none 0 0, .slice none 0 0, .slice none 0 0, .string Y, .slice none 0 0, .slice none 0 0] 36)) (by kernel_rfl) ?_
  obtain ⟨w11, hw11⟩ : ∃ w11, w11 = w10.drew := ⟨_, rfl⟩
  have P11 : Hid _ := (show Po w11 bp bs be (.slice none 0 0) 3 _ by rw [hw11]; exact P10.out.below (Below.refl _ _).drew (Nat.le_refl _))
  have O11 : Hid _ := (show Ob w11 w2.heap.size #[.string A, .string K, .slice none 0 0, .slice none 0 0, .slice (some ⟨w5.heap.size, 0, none⟩) 1 1, .slice none 0 0, .slice none 0 0, .slice none 0 0, .string Y, .slice none 0 0, .slice none 0 0] 36 by rw [hw11]; exact O10.out.drew)
  have HK11 : Hid (Kp W w11 bp bs) := by rw [hw11]; exact ⟨HK10.out.os, HK10.out.tape, HK10.out.output, HK10.out.size, HK10.out.block⟩
  rw [← hw11]
  clear hw11 P10 O10 HK10
  have HS0 : Hid (Ob w11 bp #[.slice none 0 0, .map (some bs), .map (some be)] 59 ∧ Ob w11 w2.heap.size #[.string A, .string K, .slice none 0 0, .slice none 0 0, .slice (some ⟨w5.heap.size, 0, none⟩) 1 1, .slice none 0 0, .slice none 0 0, .slice none 0 0, .string Y, .slice none 0 0, .slice none 0 0] 36) := ⟨P11.out.blk, O11.out⟩
  refine wpAnyG_take (i := 0) (v := ?_) rfl (by kernel_rfl) (by kernel_rfl) (by kernel_rfl) (by kernel_rfl) (fun _ _ _ h => h) (Or.inl ⟨by rfl, ?_⟩) HS0.out ?_
  rotate_left
  · rintro V HV
    go_simp
    try with_reducible rfl
  refine wpAnyG_take (i := 1) (v := ?_) rfl (by kernel_rfl) (by kernel_rfl) (by kernel_rfl) (by kernel_rfl) (fun _ _ _ h => h) (Or.inl ⟨by rfl, ?_⟩) HS0.out ?_
  rotate_left
  · rintro V HV
    go_simp
    try with_reducible rfl
  refine wpAnyG_take (i := 2) (v := ?_) rfl (by kernel_rfl) (by kernel_rfl) (by kernel_rfl) (by kernel_rfl) (fun _ _ _ h => h) (Or.inl ⟨by rfl, ?_⟩) HS0.out ?_
  rotate_left
  · rintro V HV
    go_simp
    try with_reducible rfl
  refine wpAnyG_take (i := 3) (v := ?_) rfl (by kernel_rfl) (by kernel_rfl) (by kernel_rfl) (by kernel_rfl) (fun _ _ _ h => h) (Or.inl ⟨by rfl, ?_⟩) HS0.out ?_
  rotate_left
  · rintro V HV
    go_simp
    try with_reducible rfl
  refine wpAnyG_take (i := 4) (v := ?_) rfl (by kernel_rfl) (by kernel_rfl) (by kernel_rfl) (by kernel_rfl) (fun _ _ _ h => h) (Or.inl ⟨by rfl, ?_⟩) HS0.out ?_
  rotate_left
  · rintro V HV
    have z1 := HV.out.1.cell 0 rfl
    go_simp
    try with_reducible rfl
  refine wpAnyG_take (i := 5) (v := ?_) rfl (by kernel_rfl) (by kernel_rfl) (by kernel_rfl) (by kernel_rfl) (fun _ _ _ h => h) (Or.inl ⟨by rfl, ?_⟩) HS0.out ?_
  rotate_left
  · rintro V HV
    obtain ⟨⟨z0, z1, z2, z3, z4, z5, z6, z7, z8, z9, z10⟩, _, zl⟩ := ob11 HV.out.2
    go_simp
    try with_reducible rfl
  refine wpAnyG_all (rs := [6]) (by kernel_rfl) (by simp) ?_
  intro i hi
  obtain rfl : i = 6 := by simpa using hi
  clear hi
  refine wpOp_listV rfl ?_
  intro Q' hQ'
  have HQ : Hid _ := hQ'
  clear hQ'
  obtain ⟨w12, hw12⟩ : ∃ w12, w12 = w11.alloc (.cells #[.string A, .string K, .slice none 0 0, .slice none 0 0, .slice (some ⟨w5.heap.size, 0, none⟩) 1 1, .slice none 0 0, .slice none 0 0, .slice none 0 0, .string Y, .slice none 0 0, .slice none 0 0] 36) := ⟨_, rfl⟩
  have hb12 : Below w11.heap.size w11 w12 := by rw [hw12]; exact (Below.refl _ _).alloc (Nat.le_refl _) _
  have n12 : Ob w12 w11.heap.size #[.string A, .string K, .slice none 0 0, .slice none 0 0, .slice (some ⟨w5.heap.size, 0, none⟩) 1 1, .slice none 0 0, .slice none 0 0, .slice none 0 0, .string Y, .slice none 0 0, .slice none 0 0] 36 := by rw [hw12]; exact Ob.new _ _ _
  have P12 : Hid _ := P11.out.below hb12 (Nat.le_refl _)
  have O12 : Hid _ := O11.out.below hb12 O11.out.lt
  have HK12 : Hid (Kp W w12 bp bs) := ⟨hb12.os.trans HK11.out.os, hb12.tape.trans HK11.out.tape, hb12.output.trans HK11.out.output, Nat.le_trans HK11.out.size hb12.size, fun k hk h1 h2 => (hb12.block k (Nat.lt_of_lt_of_le hk HK11.out.size)).trans (HK11.out.block k hk h1 h2)⟩
  obtain ⟨v13, w13, hr13, hg13, ad13, nn13, cp13, rfl⟩ := run_append_file w12 w11.heap.size 1 #[.string A, .string K, .slice none 0 0, .slice none 0 0, .slice (some ⟨w5.heap.size, 0, none⟩) 1 1, .slice none 0 0, .slice none 0 0, .slice none 0 0, .string Y, .slice none 0 0, .slice none 0 0] rfl n12 (by intro u hu; simp only [List.mem_cons, List.not_mem_nil, or_false] at hu; rcases hu with rfl | rfl | rfl | rfl | rfl | rfl | rfl | rfl | rfl | rfl | rfl <;> rfl) 43
  have hb13 : Below w12.heap.size w12 w13 := ⟨hg13.os, hg13.tape, hg13.output, hg13.size, fun k hk => hg13.block k hk (by simp)⟩
  have p13 := P12.out.below hb13 (Nat.le_refl _)
  have o13 := O12.out.below hb13 O12.out.lt
  have HK13 : Hid (Kp W w13 bp bs) := ⟨hb13.os.trans HK12.out.os, hb13.tape.trans HK12.out.tape, hb13.output.trans HK12.out.output, Nat.le_trans HK12.out.size hb13.size, fun k hk h1 h2 => (hb13.block k (Nat.lt_of_lt_of_le hk HK12.out.size)).trans (HK12.out.block k hk h1 h2)⟩
  have HS12 : Hid (Ob w12 bp #[.slice none 0 0, .map (some bs), .map (some be)] 59 ∧ Ob w12 w2.heap.size #[.string A, .string K, .slice none 0 0, .slice none 0 0, .slice (some ⟨w5.heap.size, 0, none⟩) 1 1, .slice none 0 0, .slice none 0 0, .slice none 0 0, .string Y, .slice none 0 0, .slice none 0 0] 36) := ⟨P12.out.blk, O12.out⟩
  have HS13 : Hid (Ob w13 bp #[.slice none 0 0, .map (some bs), .map (some be)] 59 ∧ Ob w13 w2.heap.size #[.string A, .string K, .slice none 0 0, .slice none 0 0, .slice (some ⟨w5.heap.size, 0, none⟩) 1 1, .slice none 0 0, .slice none 0 0, .slice none 0 0, .string Y, .slice none 0 0, .slice none 0 0] 36) := ⟨p13.blk, o13⟩
  obtain ⟨⟨q0, q1, q2⟩, ⟨q3, q4, q5⟩, ql⟩ := ob3 p13.blk
  have P13 : Hid _ := p13
  have HW12 : Hid _ := hw12
  have HR13 : Hid _ := hr13
  clear hb12 n12 hw12 hr13 hg13 hb13 p13 o13 P11 P12 O11 O12 HK11 HK12
  go_wp2
  rw [← HW12.out]
  refine HQ.out _ _ ⟨.inr HS12, ?_⟩
  clear HQ HW12
  refine wpAnyG_all (rs := [7]) (by kernel_rfl) (by simp) ?_
  intro i hi
  obtain rfl : i = 7 := by simpa using hi
  clear hi
  refine wpOp_listV rfl ?_
  intro Q' hQ'
  have HQ : Hid _ := hQ'
  clear hQ'
  refine wpList_append_eqV rfl _ _ 43 rfl rfl rfl HR13.out ?_
  refine HQ.out _ _ ⟨.inr HS13, ?_⟩
  clear HQ HR13
  refine wpAnyG_all (rs := [8]) (by kernel_rfl) (by simp) ?_
  intro i hi
  obtain rfl : i = 8 := by simpa using hi
  clear hi
  refine wpOp_listV rfl ?_
  intro Q' hQ'
  have HQ : Hid _ := hQ'
  clear hQ'
  go_wp2
  refine HQ.out _ _ ⟨.inr HS13, ?_⟩
  clear HQ
  refine wpAnyG_all (rs := [9]) (by kernel_rfl) (by simp) ?_
  intro i hi
  obtain rfl : i = 9 := by simpa using hi
  clear hi
  refine wpOp_listV rfl ?_
  intro Q' hQ'
  have HQ : Hid _ := hQ'
  clear hQ'
  go_wp2
  refine HQ.out _ _ ⟨.inr HS13, ?_⟩
  clear HQ
  refine wpAnyG_all (rs := [10]) (by kernel_rfl) (by simp) ?_
  intro i hi
  obtain rfl : i = 10 := by simpa using hi
  clear hi
  refine wpOp_listV rfl ?_
  intro Q' hQ'
  have HQ : Hid _ := hQ'
  clear hQ'
  go_wp2
  refine HQ.out _ _ ⟨.inl (by first | trivial | rfl), ?_⟩
  clear HQ
  refine wpAnyG_done (by kernel_rfl) ?_ _
  have b14 := P13.out.blk.set 0 (.slice ad13 nn13 cp13)
  have e14 : ∀ k, k ≠ bp → (w13.setCell ⟨bp, 0, none⟩ (.slice ad13 nn13 cp13)).heap[k]? = w13.heap[k]? := fun k hk => heap_setCell_other _ _ _ _ (by simpa using hk)
  have P14 : Hid (∃ vf ad, Po (w13.setCell ⟨bp, 0, none⟩ (.slice ad13 nn13 cp13)) bp bs be vf 3 (gput (gput (gput (fun _ => none) K (pkgV A)) (strOfNums [97]) (pkgV A)) (strOfNums [97, 46, 98, 46, 77]) (.agg #[.int .i64 2, .string A, .pointer ad, .pointer none, .pointer none]))) := by
    have p := P13.out
    obtain ⟨es, clock, h1, h2⟩ := p.sym
    obtain ⟨es2, clock2, h3, h4⟩ := p.ext
    exact ⟨.slice ad13 nn13 cp13, some ⟨w5.heap.size, 0, none⟩, ⟨by simpa using b14, ⟨es, clock, (e14 bs (Ne.symm p.ne.1)).trans h1, h2⟩, ⟨es2, clock2, (e14 be (Ne.symm p.ne.2.2)).trans h3, h4⟩, p.ne, ⟨_, _, _, rfl⟩⟩⟩
  have HK14 : Hid (Kp W (w13.setCell ⟨bp, 0, none⟩ (.slice ad13 nn13 cp13)) bp bs) := ⟨HK13.out.os, HK13.out.tape, HK13.out.output, by simpa using HK13.out.size, fun k hk h1 h2 => (e14 k h1).trans (HK13.out.block k hk h1 h2)⟩
  clear b14 e14 P13 HK13 HS13 HS12 HS0 q0 q1 q2 q3 q4 q5 ql
  go_wp2
  go_end0
  exact ⟨rfl, HK14.out, P14.out⟩

end Go.Proofs.Ytjbppjemilijdaa

/- A pool of the example's file: fill, New. -/
namespace Go.Proofs.Ytjbppjemilijdaa
open Go.RowKit
set_option linter.unusedVariables false
set_option linter.unusedSimpArgs false

/-- Operations behind recover: as elsewhere. -/
theorem opsS_of_list {P : Program} {ops : Array Oper} {Q : Exit → Act → List Frame → World → Prop} {cs : List Frame} (hno : ¬ LetsOut (fun e a w => Q e a cs w)) : ∀ (os : List Oper) (k : Nat) (a : Act) (w : World), (∀ j, os[j]? = ops[k + j]? ∨ os.length ≤ j) → wpList P ops (fun e a w => Q e a cs w) os a w → wpOpsS P ops Q (List.range' k os.length) a cs w
  | [], k, a, w, _, h => h
  | o :: os, k, a, w, ho, h => by
    have h0 : ops[k]? = some o := by
      rcases ho 0 with h1 | h1
      · simpa using h1.symm
      · simp at h1
    have ih := fun a w => opsS_of_list (P := P) hno os (k + 1) a w (fun j => by
      rcases ho (j + 1) with h1 | h1
      · left
        simpa [Nat.add_assoc, Nat.add_comm 1 j] using h1
      · right
        simpa using h1)
    simp only [List.length_cons, List.range'_succ, wpOpsS, h0]
    simp only [wpList] at h
    split
    · rename_i hw
      rw [if_pos hw] at h
      rcases h with h | h
      · unfold Oper.wp at h
        generalize (execOp a.eval o).run P w = r at h ⊢
        split
        · simp [Oper.upon] at h
        · cases r with
          | ok n w' =>
            cases n <;> simp only [Oper.upon] at h ⊢ <;>
              first
                | exact ih _ _ h
                | exact Calls.mono h (fun e w'' he => by cases e <;> first | exact ih _ _ he | exact he)
                | exact Rows.mono h (fun _ _ he => ih _ _ he)
          | halt x w' => cases x <;> simp only [Oper.upon] at h ⊢ <;> exact h
      · exact absurd h.2 hno
    · rename_i hw
      rw [if_neg hw] at h
      exact ih _ _ h

theorem opsS_rest {P : Program} {ops : Array Oper} {Q : Exit → Act → List Frame → World → Prop} {cs : List Frame} {a : Act} {w : World} (k n : Nat) (hn : (ops.toList.drop k).length = n) (hno : ¬ LetsOut (fun e a w => Q e a cs w)) (h : wpList P ops (fun e a w => Q e a cs w) (ops.toList.drop k) a w) : wpOpsS P ops Q (List.range' k n) a cs w := by
  subst hn
  exact opsS_of_list hno _ k a w (fun j => .inl (by rw [List.getElem?_drop, Array.getElem?_toList])) h

theorem range_rest {α : Type} (l : List α) : List.range (l.length + 1) = 0 :: List.range' 1 l.length := by
  rw [List.range_eq_range', List.range'_succ]

/-- A region that begins with recover. -/
theorem wpS_recover {P : Program} {id : Nat} {Q : Exit → Act → List Frame → World → Prop} {cs cs' : List Frame} {a : Act} {w : World} {o : Oper} {os : List Oper} {v : Value} (hg : o.guard = none)
    (hop : o.op = .call { callee := .builtin .recover, args := #[], argTypes := #[] }) (hr : recoverD cs = some (v, cs')) (hno : ¬ LetsOut (fun e a w => Q e a cs' w))
    (h : wpList P (o :: os).toArray (fun e a w => Q e a cs' w) os (a.put o.dst v) w) : (Code.region id (o :: os).toArray false).wpS P Q a cs w := by
  refine wpS_region ?_
  have hw : Region.wanted o (yielded (o :: os).toArray a.tmps) = true := by simp [Region.wanted, hg]
  have hx : (execOp a.eval o).run P w = .ok .recover w := by simp [execOp, hop, resolve, invoke, builtin]
  rw [List.size_toArray, List.length_cons, range_rest]
  have h0 : (o :: os).toArray[0]? = some o := by simp
  simp only [wpOpsS, h0, hw, if_true, hx, hr]
  exact opsS_rest 1 _ (by simp) hno (by simpa using h)

theorem wpS_recover_none {P : Program} {id : Nat} {Q : Exit → Act → List Frame → World → Prop} {cs : List Frame} {a : Act} {w : World} {o : Oper} {os : List Oper} (hg : o.guard = none)
    (hop : o.op = .call { callee := .builtin .recover, args := #[], argTypes := #[] }) (hr : recoverD cs = none) (hno : ¬ LetsOut (fun e a w => Q e a cs w))
    (h : wpList P (o :: os).toArray (fun e a w => Q e a cs w) os (a.put o.dst .nilIface) w) : (Code.region id (o :: os).toArray false).wpS P Q a cs w := by
  refine wpS_region ?_
  have hw : Region.wanted o (yielded (o :: os).toArray a.tmps) = true := by simp [Region.wanted, hg]
  have hx : (execOp a.eval o).run P w = .ok .recover w := by simp [execOp, hop, resolve, invoke, builtin]
  rw [List.size_toArray, List.length_cons, range_rest]
  have h0 : (o :: os).toArray[0]? = some o := by simp
  simp only [wpOpsS, h0, hw, if_true, hx, hr]
  exact opsS_rest 1 _ (by simp) hno (by simpa using h)

set_option maxRecDepth 10000 in
set_option maxHeartbeats 1000000 in
theorem fill_idle (p q : Addr) (w : World) :
    CallsD Try.prog 24 #[.pointer (some p), .pointer (some q)] .returning w fun e u' w' => e = .returned (.tuple #[]) ∧ u' = .returning ∧ w' = w.alloc (.cells #[.string ⟨#[]⟩] 78) := by
  have hta : ∀ W, (Instr.typeAssert .nilIface 20 78 true).run Try.prog W = .ok (.tuple #[.agg #[.string ⟨#[]⟩], .bool false]) W := fun W => by kernel_rfl
  refine callsD_of_wpS Try.func24 rfl fun c₀ cs hu => ?_
  have hr : recoverD (c₀ :: cs) = none := by simp [recoverD, hu]
  apply wpS_seq
  refine wpS_recover_none rfl rfl hr ?_ ?_
  · rintro ⟨a, w, h⟩
    simp [Exit.thenS, bodyPostS] at h
  · simp only [Try.ntmps24]
    go_wp2
    simp only [Exit.thenS]
    refine wpS_of_wp ?_
    simp only [Array.replicate_succ, Array.replicate_zero, List.push_toArray, List.append_toArray, List.nil_append, List.cons_append, List.setIfInBounds_toArray, List.set_cons_zero, List.set_cons_succ]
    go_wp2
    refine ⟨rfl, .returning, by cases c₀; simp_all, .tuple #[], ?_, rfl, rfl, rfl⟩
    simp [results, Try.results24]

theorem rng0 {w : World} {be : Nat} {g : ByteArray → Option Value} (h : Mg w be 0 g) : ∃ c : Nat, (Instr.range 57 (.map (some be))).run Try.prog w = .ok (.pointer (some ⟨w.heap.size, 0, none⟩)) (w.alloc (.mapIter (some be) c #[] c)) ∧
    ∀ ty, (Instr.next (.pointer (some ⟨w.heap.size, 0, none⟩)) false ty).run Try.prog (w.alloc (.mapIter (some be) c #[] c)) = .ok (.tuple #[.bool false]) (w.alloc (.mapIter (some be) c #[] c)) := by
  have hlt := h.lt
  obtain ⟨es, clock, hb, hst, hkeys, hn, hg⟩ := h
  have hes : es = #[] := Array.eq_empty_of_size_eq_zero hn
  subst hes
  have hu : Try.prog.underlying 57 = some (.map 9 27) := by kernel_rfl
  refine ⟨clock, ?_, ?_⟩
  · simp [Instr.range, run_underlying hu, MapKept.run_getObj_map hb, Result.andThen]
  · intro ty
    have hr := heap_alloc_new w (.mapIter (some be) clock #[] clock)
    have hb2 : (w.alloc (.mapIter (some be) clock #[] clock)).heap[be]? = some (.map #[] clock) := (Below.heap_alloc _ _ be hlt).trans hb
    rcases run_next_at (P := Try.prog) (w.alloc (.mapIter (some be) clock #[] clock)) ty w.heap.size be clock clock #[] #[] clock hr hb2 (by simp) (Nat.le_refl _) with ⟨_, h1⟩ | ⟨e, he, _⟩
    · exact h1
    · simp [leftOf] at he

theorem Kp.refl (W : World) (bp bs : Nat) : Kp W W bp bs := ⟨rfl, rfl, rfl, Nat.le_refl _, fun _ _ _ _ => rfl⟩

theorem Kp.trans {W w w' : World} {bp bs : Nat} (h : Kp W w bp bs) (k : Kp w w' bp bs) : Kp W w' bp bs := ⟨k.os.trans h.os, k.tape.trans h.tape, k.output.trans h.output, Nat.le_trans h.size k.size, fun i hi h1 h2 => (k.block i (Nat.lt_of_lt_of_le hi h.size) h1 h2).trans (h.block i hi h1 h2)⟩

theorem Kp.below {W w w' : World} {bp bs : Nat} (h : Kp W w bp bs) {B : Nat} (hb : Below B w w') (hB : W.heap.size ≤ B) : Kp W w' bp bs := ⟨hb.os.trans h.os, hb.tape.trans h.tape, hb.output.trans h.output, Nat.le_trans h.size hb.size, fun i hi h1 h2 => (hb.block i (by omega)).trans (h.block i hi h1 h2)⟩

theorem fill_res {tmps : Array Value} {V : World} {g : Nat} {x y : Value} (h4 : tmps[4]?.getD undef = .pointer (some ⟨g, 0, none⟩)) (h5 : tmps[5]?.getD undef = .pointer (some ⟨g + 1, 0, none⟩)) (b0 : Ob V g #[x] 9) (b1 : Ob V (g + 1) #[y] 40) :
    (results Try.f17 tmps).run Try.prog V = .ok (.tuple #[x, y]) V := by
  have hl : (loadVar 40 ⟨g + 1, 0, none⟩).run Try.prog V = .ok y V := by
    obtain ⟨c1, c2, c3⟩ := ob1 b1
    simp [go_sem, c1]
  have hl0 : (loadVar 9 ⟨g, 0, none⟩).run Try.prog V = .ok x V := by
    obtain ⟨c1, c2, c3⟩ := ob1 b0
    simp [go_sem, c1]
  simp [results, Try.results17, h4, h5, asAddr, hl, hl0]

/-- What fill leaves. -/
structure Fl (W w : World) (bp bs be : Nat) (A : ByteArray) : Prop where
  r4 : Ob w W.heap.size #[.string ⟨#[]⟩] 9
  r5 : Ob w (W.heap.size + 1) #[.int .i64 0] 40
  po : ∃ vf ad, Po w bp bs be vf 3 (gput (gput (gput (fun _ => none) (strOfNums [97, 46, 98]) (pkgV A)) (strOfNums [97]) (pkgV A)) (strOfNums [97, 46, 98, 46, 77]) (.agg #[.int .i64 2, .string A, .pointer ad, .pointer none, .pointer none]))
  kp : Kp W w bp bs

set_option maxRecDepth 100000 in
set_option maxHeartbeats 8000000 in
theorem pfill (A Y : ByteArray) (hA : A.size ≤ 1000000) (hY : Y.size ≤ 1000000) (gm gf : Nat) (W : World) {bp bs be : Nat} (hP : Hid (Po W bp bs be (.slice none 0 0) 0 (fun _ => none))) (hgm : Ob W gm (msg0 (strOfNums [77])) 30) (hgf : Ob W gf (fil1 A (strOfNums [97, 46, 98]) Y gm) 36) (hgn : gm ≠ bs) :
    Calls Try.prog 17 #[.pointer (some ⟨bp, 0, none⟩), .slice (some ⟨gf, 0, none⟩) 1 1] W fun e W' => e = .returned (.tuple #[.string ⟨#[]⟩, .int .i64 0]) ∧ Kp W W' bp bs ∧ ∃ vf ad, Po W' bp bs be vf 3 (gput (gput (gput (fun _ => none) (strOfNums [97, 46, 98]) (pkgV A)) (strOfNums [97]) (pkgV A)) (strOfNums [97, 46, 98, 46, 77]) (.agg #[.int .i64 2, .string A, .pointer ad, .pointer none, .pointer none])) := by
  have hmf : ∀ (fn : Fn) (first cap : Array Value) (w : World), (Instr.makeFunc fn first cap).run Try.prog w = .ok (.func fn first cap) w := fun _ _ _ _ => rfl
  obtain ⟨w1, hw1⟩ : ∃ w1, w1 = (W.alloc (.cells #[.string ⟨#[]⟩] 9)).alloc (.cells #[.int .i64 0] 40) := ⟨_, rfl⟩
  have hb1 : Below W.heap.size W w1 := by rw [hw1]; exact ((Below.refl _ _).alloc (Nat.le_refl _) _).alloc (by simp) _
  have r4 : Ob w1 W.heap.size #[.string ⟨#[]⟩] 9 := by rw [hw1]; exact (Ob.new _ _ _).alloc _
  have r5 : Ob w1 (W.heap.size + 1) #[.int .i64 0] 40 := by rw [hw1]; have := Ob.new (W.alloc (.cells #[.string ⟨#[]⟩] 9)) #[.int .i64 0] 40; simpa using this
  have P1 := hP.out.below hb1 (Nat.le_refl _)
  have g1 := hgm.below hb1 hgm.lt
  have f1 := hgf.below hb1 hgf.lt
  obtain ⟨w2, hw2⟩ : ∃ w2, w2 = w1.alloc (.cells (fil1 A (strOfNums [97, 46, 98]) Y gm) 36) := ⟨_, rfl⟩
  have hb2 : Below w1.heap.size w1 w2 := by rw [hw2]; exact (Below.refl _ _).alloc (Nat.le_refl _) _
  have QL : Hid _ := playF A Y hA hY gm w2 (show Hid _ from P1.below hb2 (Nat.le_refl _)) (g1.below hb2 g1.lt) hgn
  have b2 : Ob w2 w1.heap.size (fil1 A (strOfNums [97, 46, 98]) Y gm) 36 := by rw [hw2]; exact Ob.new _ _ _
  have R4 : Hid _ := r4.below hb2 r4.lt
  have R5 : Hid _ := r5.below hb2 r5.lt
  have HK2 : Hid (Kp W w2 bp bs) := ((Kp.refl W bp bs).below hb1 (Nat.le_refl _)).below hb2 (Nat.le_of_lt r4.lt)
  have HL : Hid (bp < W.heap.size ∧ bs < W.heap.size) := ⟨hP.out.blk.lt, hP.out.sym.lt⟩
  have HX : Hid (be < W.heap.size) := hP.out.ext.lt
  unfold fil1 at *
  obtain ⟨⟨c0, c1, c2, c3, c4, c5, c6, c7, c8, c9, c10⟩, _, cl⟩ := ob11 f1
  obtain ⟨⟨d0, d1, d2, d3, d4, d5, d6, d7, d8, d9, d10⟩, _, dl⟩ := ob11 b2
  have HW1 : Hid _ := hw1
  have HW2 : Hid _ := hw2
  clear hb1 hb2 r4 r5 P1 g1 f1 b2 hw1 hw2 hgm hgf hP
  generalize hK : (strOfNums [97, 46, 98]) = K at *
  have HK : Hid _ := hK
  clear hK
  go_enter_defers Try.func17, Try.ntmps17
  go_upto_region 2 with fail
  rw [← HW1.out]
  clear HW1
  go_wp2
  go_loopw [13] (fun v wr => (v = .int .i64 0 ∧ w1 = wr) ∨ (v = .int .i64 1 ∧ Hid (Fl W wr bp bs be A))) (fun v _ => 1 - (intOf v).toNat)
  case atStart => exact .inl ⟨rfl, rfl⟩
  case round =>
    rcases hrel with ⟨rfl, rfl⟩ | ⟨rfl, HF⟩
    · go_upto_region 5 with fail
      rw [← HW2.out]
      clear HW2
      go_wp2_with fail
      refine Calls.mono QL.out ?_
      rintro e w3 ⟨rfl, hk3, hp3⟩
      have HF3 : Hid (Fl W w3 bp bs be A) := ⟨hk3.ob R4.out (by have := HL.out; omega) (by have := HL.out; omega), hk3.ob R5.out (by have := HL.out; omega) (by have := HL.out; omega), by rw [HK.out]; exact hp3, HK2.out.trans hk3⟩
      clear hk3 hp3 QL c0 c1 c2 c3 c4 c5 c6 c7 c8 c9 c10 cl d0 d1 d2 d3 d4 d5 d6 d7 d8 d9 d10 dl
      go_wp2
      go_roundw
      case rel => first | exact .inr ⟨by go_num, HF3⟩ | ((repeat apply Exists.intro); exact ⟨.inr ⟨by go_num, HF3⟩, rfl⟩)
      case measure => simp [intOf]
    · obtain ⟨vf, ad, hp⟩ := HF.out.po
      obtain ⟨c, hrg, hnx⟩ := rng0 hp.ext
      have x2 : wr.cell? ⟨bp, 2, none⟩ = some (.map (some be)) := hp.blk.cell 2 rfl
      have xl := hp.blk.lt
      obtain ⟨w5, hw5⟩ : ∃ w5, w5 = wr.alloc (.mapIter (some be) c #[] c) := ⟨_, rfl⟩
      rw [← hw5] at hrg hnx
      have hb5 : Below wr.heap.size wr w5 := by rw [hw5]; exact (Below.refl _ _).alloc (Nat.le_refl _) _
      have q4 := HF.out.r4.below hb5 HF.out.r4.lt
      have q5 := HF.out.r5.below hb5 HF.out.r5.lt
      have P5 : Hid (Po w5 bp bs be vf 3 (gput (gput (gput (fun _ => none) (strOfNums [97, 46, 98]) (pkgV A)) (strOfNums [97]) (pkgV A)) (strOfNums [97, 46, 98, 46, 77]) (.agg #[.int .i64 2, .string A, .pointer ad, .pointer none, .pointer none]))) := hp.below hb5 (Nat.le_refl _)
      have HK5 : Hid (Kp W w5 bp bs) := HF.out.kp.below hb5 HF.out.kp.size
      obtain ⟨y1, y2, y3⟩ := ob1 q4
      obtain ⟨z1, z2, z3⟩ := ob1 q5
      have Q4 : Hid _ := q4
      have Q5 : Hid _ := q5
      clear hp hw5 hb5 q4 q5 HF QL HW2 c0 c1 c2 c3 c4 c5 c6 c7 c8 c9 c10 cl d0 d1 d2 d3 d4 d5 d6 d7 d8 d9 d10 dl R4 R5 HK2
      go_wp2
      go_loopw [26] (fun _ wx => w5 = wx) (fun _ _ => 0)
      case atStart => exact rfl
      case round =>
        obtain rfl := hrel
        go_wp2
        refine leaves_cons (f := 24) (args := #[.pointer (some ⟨W.heap.size, 0, none⟩), .pointer (some ⟨W.heap.size + 1, 0, none⟩)]) (by simp) (by simp [go_sem]) ?_
        refine (fill_idle _ _ _).mono ?_
        rintro e u' w'' ⟨rfl, rfl, rfl⟩
        have s4 : Ob ((w5.setCell ⟨W.heap.size, 0, none⟩ (.string ⟨#[]⟩)).setCell ⟨W.heap.size + 1, 0, none⟩ (.int .i64 0)) W.heap.size #[.string ⟨#[]⟩] 9 := by have := (Q4.out.set 0 (.string ⟨#[]⟩)).other (b' := W.heap.size + 1) (by omega) 0 (.int .i64 0); simpa using this
        have s5 : Ob ((w5.setCell ⟨W.heap.size, 0, none⟩ (.string ⟨#[]⟩)).setCell ⟨W.heap.size + 1, 0, none⟩ (.int .i64 0)) (W.heap.size + 1) #[.int .i64 0] 40 := by have := (Q5.out.other (b' := W.heap.size) (by omega) 0 (.string ⟨#[]⟩)).set 0 (.int .i64 0); simpa using this
        have hb6 : Below W.heap.size w5 ((w5.setCell ⟨W.heap.size, 0, none⟩ (.string ⟨#[]⟩)).setCell ⟨W.heap.size + 1, 0, none⟩ (.int .i64 0)) := ((Below.refl _ _).setCell (p := ⟨W.heap.size, 0, none⟩) (Nat.le_refl _) _).setCell (p := ⟨W.heap.size + 1, 0, none⟩) (by simp) _
        generalize ((w5.setCell ⟨W.heap.size, 0, none⟩ (.string ⟨#[]⟩)).setCell ⟨W.heap.size + 1, 0, none⟩ (.int .i64 0)) = V at s4 s5 hb6 ⊢
        have hA7 : Below V.heap.size V (V.alloc (.cells #[.string ⟨#[]⟩] 78)) := (Below.refl _ _).alloc (Nat.le_refl _) _
        have hp := P5.out
        have hl := HL.out
        have hWV : W.heap.size ≤ V.heap.size := Nat.le_of_lt s4.lt
        have hb7 : Below W.heap.size w5 (V.alloc (.cells #[.string ⟨#[]⟩] 78)) := hb6.trans (hA7.mono hWV)
        have hx := HX.out
        refine ⟨.tuple #[.string ⟨#[]⟩, .int .i64 0], fill_res rfl rfl (s4.below hA7 s4.lt) (s5.below hA7 s5.lt), rfl, HK5.out.below hb7 (Nat.le_refl _), vf, ad, ?_⟩
        rw [HK.out] at hp
        exact ⟨hp.blk.below hb7 (by omega), hp.sym.below hb7 (by omega), hp.ext.below hb7 hx, hp.ne, hp.sl⟩

end Go.Proofs.Ytjbppjemilijdaa
