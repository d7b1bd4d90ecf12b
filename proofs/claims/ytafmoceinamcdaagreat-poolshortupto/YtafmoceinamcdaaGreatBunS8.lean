/- Put together by a program out of these texts of mine: XHeld, DEp, DBm, DEm, DBs, DEs. -/
import Derived.OrdersHeld
import Derived.Deep.DeepCutAuto
import Derived.Test.YtafmoceinamcdaaGreatBunS1
import Derived.Test.YtafmoceinamcdaaGreatBunS4
import Derived.Test.YtafmoceinamcdaaGreatBunS6

namespace Go.Proofs.YtafmoceinamcdaaGreat
open Go.RowKit
set_option linter.unusedVariables false
set_option linter.unusedSimpArgs false

section
variable {P : Program} {md : Region.Mode} {ops : Array Oper} {Q : Exit → Act → World → Prop} {S : World → Prop} {z : Nat}

def wpAnyG (P : Program) (md : Region.Mode) (ops : Array Oper) (Q : Exit → Act → World → Prop) (S : World → Prop) (z : Nat) : Nat → Array Bool → Act → World → Prop
  | 0, listed, a, w => Region.ready md ops listed = [] ∧ Q .normal a w
  | fuel + 1, listed, a, w =>
    (Region.ready md ops listed = [] → Q .normal a w) ∧
    ∀ i ∈ Region.ready md ops listed, wpOp P ops Q i (fun a' w' => (i = z ∨ S w') ∧ wpAnyG P md ops Q S z fuel (listed.setIfInBounds i true) a' w') a w

theorem wpAny_of_G : ∀ (fuel : Nat) (listed : Array Bool) (a : Act) (w : World), wpAnyG P md ops Q S z fuel listed a w → wpAny P md ops Q fuel listed a w
  | 0, _, _, _, h => h
  | fuel + 1, _, _, _, h => ⟨h.1, fun i hi => wpOp_mono (fun a' w' h' => wpAny_of_G fuel _ a' w' h'.2) (h.2 i hi)⟩

theorem wpAnyG_first {i : Nat} {oi oz : Oper} {v : Value} (hi : ops[i]? = some oi) (hz : ops[z]? = some oz) (hiz : i ≠ z) (hzi : ∃ e ∈ oz.after, Region.binds md e = true ∧ e.on = i) (hsel : ∀ (j : Nat) (o : Oper) cs b, ops[j]? = some o → o.op ≠ .select cs b)
    (hQ : ∀ c a w, Q (.panic c) (a.put oi.dst v) w → Q (.panic c) a w) :
    ∀ (fuel : Nat) (listed : Array Bool) (a : Act) (w : World),
      (∀ j oj, ops[j]? = some oj → j ≠ i → listed.getD j true = false → (∀ e ∈ oj.after, Region.binds md e = true → e.on ≠ i) → oi.apart ops oj = true) →
      i ∈ Region.ready md ops listed → YieldsIf P ops S oi v a → S w →
      wpAnyG P md ops Q S z fuel (listed.setIfInBounds i true) (a.put oi.dst v) w → wpAnyG P md ops Q S z (fuel + 1) listed a w := by
  intro fuel
  induction fuel with
  | zero =>
    intro listed a w _ hr hy hS H
    refine ⟨fun h => (by rw [h] at hr; cases hr), fun j hj => ?_⟩
    by_cases hji : j = i
    · subst hji; exact hy.wpOp hi hS ⟨.inr hS, H⟩
    · have := ready_mono hj hji
      rw [H.1] at this
      cases this
  | succ fuel ih =>
    intro listed a w hfree hr hy hS H
    refine ⟨fun h => (by rw [h] at hr; cases hr), fun j hj => ?_⟩
    by_cases hji : j = i
    · subst hji; exact hy.wpOp hi hS ⟨.inr hS, H⟩
    · have h1 := H.2 j (ready_mono hj hji)
      obtain ⟨hjun, oj, hoj, hall⟩ := mem_ready.1 hj
      have hnot : ∀ e ∈ oj.after, Region.binds md e = true → e.on ≠ i := fun e he hb heq => by
        have h1 := hall e he hb
        have h0 := (mem_ready.1 hr).1
        rw [heq] at h1
        rcases Nat.lt_or_ge i listed.size with h' | h'
        · simp [h'] at h0 h1; rw [h0] at h1; cases h1
        · simp [Array.getElem?_eq_none h'] at h1
      have hjz : j ≠ z := fun e => by
        subst e
        rw [hz] at hoj
        cases hoj
        obtain ⟨e, he, hb, ho⟩ := hzi
        exact hnot e he hb ho
      have h2 := wpOp_putIf hoj (hfree j oj hoj hji hjun hnot) (fun cs b => hsel i oi cs b hi) (fun cs b => hsel j oj cs b hoj) hQ hy h1
      have hfree' : ∀ k ok, ops[k]? = some ok → k ≠ i → (listed.setIfInBounds j true).getD k true = false →
          (∀ e ∈ ok.after, Region.binds md e = true → e.on ≠ i) → oi.apart ops ok = true := fun k ok hk hki hun hno => by
        refine hfree k ok hk hki ?_ hno
        by_cases hjk : j = k
        · subst hjk; exact hjun
        · rw [getD_set_ne true hjk] at hun; exact hun
      refine wpOp_mono (fun a' w' h3 => ?_) h2
      have hS' : S w' := h3.2.1.resolve_left hjz
      refine ⟨.inr hS', ih (listed.setIfInBounds j true) a' w' hfree' (ready_mono hr (Ne.symm hji)) h3.1 hS' ?_⟩
      rw [Array.setIfInBounds_comm _ _ hji]
      exact h3.2.2

def lastWaits (md : Region.Mode) (ops : Array Oper) (z i : Nat) : Bool := match ops[z]? with
  | some oz => oz.after.any (fun e => Region.binds md e && decide (e.on = i)) && decide (i ≠ z)
  | none => false

theorem wpAnyG_take {i : Nat} {oi : Oper} {v : Value} {fuel : Nat} {listed : Array Bool} {a : Act} {w : World} (hi : ops[i]? = some oi)
    (hs : Region.noSelect ops = true) (hf : Region.free md ops listed i = true) (hr : (Region.ready md ops listed).contains i = true) (hz : lastWaits md ops z i = true)
    (hQ : ∀ c a w, Q (.panic c) (a.put oi.dst v) w → Q (.panic c) a w) (hy : YieldsIf P ops S oi v a) (hS : S w)
    (h : wpAnyG P md ops Q S z fuel (listed.setIfInBounds i true) (a.put oi.dst v) w) : wpAnyG P md ops Q S z (fuel + 1) listed a w := by
  unfold lastWaits at hz
  cases hoz : ops[z]? with
  | none => rw [hoz] at hz; cases hz
  | some oz =>
    rw [hoz] at hz
    rw [Bool.and_eq_true, Array.any_eq_true] at hz
    obtain ⟨⟨k, hk, heb⟩, hne⟩ := hz
    rw [Bool.and_eq_true] at heb
    exact wpAnyG_first hi hoz (of_decide_eq_true hne) ⟨oz.after[k], Array.getElem_mem hk, heb.1, of_decide_eq_true heb.2⟩ (Region.noSelect_spec hs) hQ fuel listed a w (Region.free_spec hi hf) (by simpa using hr) hy hS h

theorem wpAnyG_all {rs : List Nat} {fuel : Nat} {listed : Array Bool} {a : Act} {w : World} (hr : Region.ready md ops listed = rs) (hne : rs ≠ [])
    (h : ∀ i ∈ rs, wpOp P ops Q i (fun a' w' => (i = z ∨ S w') ∧ wpAnyG P md ops Q S z fuel (listed.setIfInBounds i true) a' w') a w) : wpAnyG P md ops Q S z (fuel + 1) listed a w :=
  ⟨fun h0 => absurd (hr ▸ h0) hne, hr ▸ h⟩

theorem wpAnyG_done {listed : Array Bool} {a : Act} {w : World} (hr : Region.ready md ops listed = []) (h : Q .normal a w) :
    ∀ fuel, wpAnyG P md ops Q S z fuel listed a w
  | 0 => ⟨hr, h⟩
  | _ + 1 => ⟨fun _ => h, by rw [hr]; intro i hi; cases hi⟩

theorem wp_region_heldG {id : Nat} {a : Act} {w : World} (z : Nat) (hm : P.follows .mixedOrders = true) (h : wpAnyG P .any ops Q S z ops.size (Array.replicate ops.size false) a w.drew) : (Code.region id ops true).wp P Q a w :=
  wp_region_any hm (wpAny_of_G _ _ _ _ h)

end

theorem ok_ls2 {P : Program} {w : World} {T E : TypeId} {m : Md} (hu : P.underlying T = some (.slice E)) (h : Ok P w T m) : ∃ a n c ms, m = .ls a n c ms := by
  cases h with
  | str hT _ => rw [hu] at hT; cases hT
  | num hT _ => rw [hu] at hT; cases hT
  | tru hT => rw [hu] at hT; cases hT
  | ls hT hnc hm => exact ⟨_, _, _, _, rfl⟩

theorem ok_str2 {P : Program} {w : World} {T : TypeId} {m : Md} (hu : P.underlying T = some .string) (h : Ok P w T m) : ∃ s, m = .str s ∧ s.size ≤ maxLen := by
  cases h with
  | str _ hs => exact ⟨_, rfl, hs⟩
  | num hT _ => rw [hu] at hT; cases hT
  | tru hT => rw [hu] at hT; cases hT
  | ls hT => rw [hu] at hT; cases hT

theorem ok_num2 {P : Program} {w : World} {T : TypeId} {k : IntKind} {m : Md} (hu : P.underlying T = some (.int k)) (h : Ok P w T m) : ∃ n, m = .num k n := by
  cases h with
  | str hT _ => rw [hu] at hT; cases hT
  | num hT _ => rw [hu] at hT; cases hT; exact ⟨_, rfl⟩
  | tru hT => rw [hu] at hT; cases hT
  | ls hT => rw [hu] at hT; cases hT

theorem ok_tru2 {P : Program} {w : World} {T : TypeId} {m : Md} (hu : P.underlying T = some .bool) (h : Ok P w T m) : ∃ b, m = .tru b := by
  cases h with
  | str hT _ => rw [hu] at hT; cases hT
  | num hT _ => rw [hu] at hT; cases hT
  | tru hT => exact ⟨_, rfl⟩
  | ls hT => rw [hu] at hT; cases hT

theorem sz_str {P : Program} {T : TypeId} {s : ByteArray} (h : Sz P T (.str s)) : s.size ≤ 140737488355328 := by
  cases h with
  | str h => exact h

theorem hes1 {ms : List Md} {k : Nat} {q : Md} (h : ms[k]? = some q) (T : TypeId) : ∀ j, j < [T].length → ms[k * [T].length + j]? = [q][j]? := by
  intro j hj
  have hj0 : j = 0 := by simpa using hj
  subst hj0
  simpa using h

theorem own_low {w : World} {base : Nat} {e : TypeId} {sz n g : Nat} {v : Value} {xs : List Value} (h : w.ownsRow base e sz v n xs) (hg : v.ownBlock = some g) : base ≤ g := (h.lt g hg).1

theorem CpyL.from {w : World} {lo lo' : Nat} {A : TypeId → Prop} {Ts : List TypeId} {ms : List Md} {cs : List Value} (h : CpyL w lo A Ts ms cs) (hl : lo' ≤ lo) : CpyL w lo' A Ts ms cs := by
  obtain ⟨ms', h1, h2, h3⟩ := h
  exact ⟨ms', h1, h2, fun i m m' F a b c => ⟨(h3 i m m' F a b c).1.from hl, (h3 i m m' F a b c).2⟩⟩

theorem ob4 {w : World} {b : Nat} {T : TypeId} {x0 x1 x2 x3 : Value} (h : Ob w b #[x0, x1, x2, x3] T) :
    (w.cell? ⟨b, 0, none⟩ = some x0 ∧ w.cell? ⟨b, 1, none⟩ = some x1 ∧ w.cell? ⟨b, 2, none⟩ = some x2 ∧ w.cell? ⟨b, 3, none⟩ = some x3) ∧ (w.frozen? ⟨b, 0, none⟩ = false ∧ w.frozen? ⟨b, 1, none⟩ = false ∧ w.frozen? ⟨b, 2, none⟩ = false ∧ w.frozen? ⟨b, 3, none⟩ = false) ∧ b < w.heap.size :=
  ⟨⟨h.cell 0 rfl, h.cell 1 rfl, h.cell 2 rfl, h.cell 3 rfl⟩, ⟨h.frozen 0, h.frozen 1, h.frozen 2, h.frozen 3⟩, h.lt⟩

theorem ob7 {w : World} {b : Nat} {T : TypeId} {x0 x1 x2 x3 x4 x5 x6 : Value} (h : Ob w b #[x0, x1, x2, x3, x4, x5, x6] T) :
    (w.cell? ⟨b, 0, none⟩ = some x0 ∧ w.cell? ⟨b, 1, none⟩ = some x1 ∧ w.cell? ⟨b, 2, none⟩ = some x2 ∧ w.cell? ⟨b, 3, none⟩ = some x3 ∧ w.cell? ⟨b, 4, none⟩ = some x4 ∧ w.cell? ⟨b, 5, none⟩ = some x5 ∧ w.cell? ⟨b, 6, none⟩ = some x6) ∧ (w.frozen? ⟨b, 0, none⟩ = false ∧ w.frozen? ⟨b, 1, none⟩ = false ∧ w.frozen? ⟨b, 2, none⟩ = false ∧ w.frozen? ⟨b, 3, none⟩ = false ∧ w.frozen? ⟨b, 4, none⟩ = false ∧ w.frozen? ⟨b, 5, none⟩ = false ∧ w.frozen? ⟨b, 6, none⟩ = false) ∧ b < w.heap.size :=
  ⟨⟨h.cell 0 rfl, h.cell 1 rfl, h.cell 2 rfl, h.cell 3 rfl, h.cell 4 rfl, h.cell 5 rfl, h.cell 6 rfl⟩, ⟨h.frozen 0, h.frozen 1, h.frozen 2, h.frozen 3, h.frozen 4, h.frozen 5, h.frozen 6⟩, h.lt⟩

set_option maxRecDepth 100000 in
set_option maxHeartbeats 4000000 in
theorem kmethod_any (A : TypeId → Prop) (hA : A 5) (lv : Int) (s0 : ByteArray) (s1 : ByteArray) (s2 : ByteArray) (b3 : Bool) (b4 : Bool) (a5 : Option Addr) (n5 k5 : Nat) (m5 : List Md) (a6 : Option Addr) (n6 k6 : Nat) (m6 : List Md) (w : World) (h5 : Hid (Src w 38 (.ls a5 n5 k5 m5))) (h6 : Hid (Src w 38 (.ls a6 n6 k6 m6))) (h0 : Hid (s0.size ≤ 140737488355328)) (h1 : Hid (s1.size ≤ 140737488355328)) (h2 : Hid (s2.size ≤ 140737488355328)) :
    Calls Tryz.prog 138 #[.agg #[.int .i64 lv, .bool false], .agg #[.string s0, .string s1, .string s2, .bool b3, .bool b4, .slice a5 n5 k5, .slice a6 n6 k6]] w fun e w' => ∃ p5 r5 p6 r6, e = .returned (.agg #[.string s0, .string s1, .string s2, .bool b3, .bool b4, .slice p5 n5 r5, .slice p6 n6 r6]) ∧ CpyL w' w.heap.size A [9, 9, 9, 4, 4, 38, 38] [.str s0, .str s1, .str s2, .tru b3, .tru b4, .ls a5 n5 k5 m5, .ls a6 n6 k6 m6] [.string s0, .string s1, .string s2, .bool b3, .bool b4, .slice p5 n5 r5, .slice p6 n6 r6] ∧ Below w.heap.size w w' := by
  obtain ⟨W, hW⟩ : ∃ W, ((w.alloc (.cells #[.int .i64 lv, .bool false] 100)).alloc (.cells #[.string s0, .string s1, .string s2, .bool b3, .bool b4, .slice a5 n5 k5, .slice a6 n6 k6] 161)).alloc (.cells #[.string ⟨#[]⟩, .string ⟨#[]⟩, .string ⟨#[]⟩, .bool false, .bool false, .slice none 0 0, .slice none 0 0] 161) = W := ⟨_, rfl⟩
  have o0 : Ob W w.heap.size #[.int .i64 lv, .bool false] 100 := by rw [← hW]; exact ((Ob.new w _ _).alloc _).alloc _
  have o1 : Ob W (w.heap.size + 1) #[.string s0, .string s1, .string s2, .bool b3, .bool b4, .slice a5 n5 k5, .slice a6 n6 k6] 161 := by rw [← hW]; have := Ob.new (w.alloc (.cells #[.int .i64 lv, .bool false] 100)) #[.string s0, .string s1, .string s2, .bool b3, .bool b4, .slice a5 n5 k5, .slice a6 n6 k6] 161; rw [World.size_alloc] at this; exact this.alloc _
  have o2 : Ob W (w.heap.size + 1 + 1) #[.string ⟨#[]⟩, .string ⟨#[]⟩, .string ⟨#[]⟩, .bool false, .bool false, .slice none 0 0, .slice none 0 0] 161 := by rw [← hW]; have := Ob.new ((w.alloc (.cells #[.int .i64 lv, .bool false] 100)).alloc (.cells #[.string s0, .string s1, .string s2, .bool b3, .bool b4, .slice a5 n5 k5, .slice a6 n6 k6] 161)) #[.string ⟨#[]⟩, .string ⟨#[]⟩, .string ⟨#[]⟩, .bool false, .bool false, .slice none 0 0, .slice none 0 0] 161; simp only [World.size_alloc] at this; exact this
  have hb : Below w.heap.size w W := by rw [← hW]; exact (((Below.refl _ _).alloc (Nat.le_refl _) _).alloc (by simp) _).alloc (by simp; omega) _
  have HW : Hid _ := hW
  have O0 : Hid _ := o0
  have O1 : Hid _ := o1
  have O2 : Hid _ := o2
  have HB : Hid _ := hb
  have l0 := o0.lt
  have l1 := o1.lt
  have l2 := o2.lt
  clear hW o0 o1 o2 hb
  go_enter Tryz.func138, Tryz.ntmps138
  go_upto_region 1 with fail
  rw [HW.out]
  clear HW
  have HD : Hid (Below W.heap.size W W.drew) := (Below.refl _ _).drew
  refine wp_region_heldG 21 (S := fun V => Below W.heap.size W V) rfl ?_
  refine wpAnyG_take (i := 0) (v := ?_) rfl (by kernel_rfl) (by kernel_rfl) (by kernel_rfl) (by kernel_rfl) (fun _ _ _ h => h) (Or.inl ⟨by rfl, ?_⟩) HD.out ?_
  rotate_left
  · intro V HV
    go_simp
    try with_reducible rfl
  refine wpAnyG_take (i := 1) (v := ?_) rfl (by kernel_rfl) (by kernel_rfl) (by kernel_rfl) (by kernel_rfl) (fun _ _ _ h => h) (Or.inl ⟨by rfl, ?_⟩) HD.out ?_
  rotate_left
  · intro V HV
    have z0 := (HV.cell (p := ⟨w.heap.size + 1, 0, none⟩) l1).trans (O1.out.cell 0 rfl)
    go_simp
    try with_reducible rfl
  refine wpAnyG_take (i := 3) (v := ?_) rfl (by kernel_rfl) (by kernel_rfl) (by kernel_rfl) (by kernel_rfl) (fun _ _ _ h => h) (Or.inl ⟨by rfl, ?_⟩) HD.out ?_
  rotate_left
  · intro V HV
    go_simp
    try with_reducible rfl
  refine wpAnyG_take (i := 4) (v := ?_) rfl (by kernel_rfl) (by kernel_rfl) (by kernel_rfl) (by kernel_rfl) (fun _ _ _ h => h) (Or.inl ⟨by rfl, ?_⟩) HD.out ?_
  rotate_left
  · intro V HV
    have z0 := (HV.cell (p := ⟨w.heap.size + 1, 1, none⟩) l1).trans (O1.out.cell 1 rfl)
    go_simp
    try with_reducible rfl
  refine wpAnyG_take (i := 6) (v := ?_) rfl (by kernel_rfl) (by kernel_rfl) (by kernel_rfl) (by kernel_rfl) (fun _ _ _ h => h) (Or.inl ⟨by rfl, ?_⟩) HD.out ?_
  rotate_left
  · intro V HV
    go_simp
    try with_reducible rfl
  refine wpAnyG_take (i := 7) (v := ?_) rfl (by kernel_rfl) (by kernel_rfl) (by kernel_rfl) (by kernel_rfl) (fun _ _ _ h => h) (Or.inl ⟨by rfl, ?_⟩) HD.out ?_
  rotate_left
  · intro V HV
    have z0 := (HV.cell (p := ⟨w.heap.size + 1, 2, none⟩) l1).trans (O1.out.cell 2 rfl)
    go_simp
    try with_reducible rfl
  refine wpAnyG_take (i := 9) (v := ?_) rfl (by kernel_rfl) (by kernel_rfl) (by kernel_rfl) (by kernel_rfl) (fun _ _ _ h => h) (Or.inl ⟨by rfl, ?_⟩) HD.out ?_
  rotate_left
  · intro V HV
    go_simp
    try with_reducible rfl
  refine wpAnyG_take (i := 10) (v := ?_) rfl (by kernel_rfl) (by kernel_rfl) (by kernel_rfl) (by kernel_rfl) (fun _ _ _ h => h) (Or.inl ⟨by rfl, ?_⟩) HD.out ?_
  rotate_left
  · intro V HV
    have z0 := (HV.cell (p := ⟨w.heap.size + 1, 3, none⟩) l1).trans (O1.out.cell 3 rfl)
    go_simp
    try with_reducible rfl
  refine wpAnyG_take (i := 11) (v := ?_) rfl (by kernel_rfl) (by kernel_rfl) (by kernel_rfl) (by kernel_rfl) (fun _ _ _ h => h) (Or.inl ⟨by rfl, ?_⟩) HD.out ?_
  rotate_left
  · intro V HV
    go_simp
    try with_reducible rfl
  refine wpAnyG_take (i := 12) (v := ?_) rfl (by kernel_rfl) (by kernel_rfl) (by kernel_rfl) (by kernel_rfl) (fun _ _ _ h => h) (Or.inl ⟨by rfl, ?_⟩) HD.out ?_
  rotate_left
  · intro V HV
    have z0 := (HV.cell (p := ⟨w.heap.size + 1, 4, none⟩) l1).trans (O1.out.cell 4 rfl)
    go_simp
    try with_reducible rfl
  refine wpAnyG_take (i := 13) (v := ?_) rfl (by kernel_rfl) (by kernel_rfl) (by kernel_rfl) (by kernel_rfl) (fun _ _ _ h => h) (Or.inl ⟨by rfl, ?_⟩) HD.out ?_
  rotate_left
  · intro V HV
    go_simp
    try with_reducible rfl
  refine wpAnyG_take (i := 14) (v := ?_) rfl (by kernel_rfl) (by kernel_rfl) (by kernel_rfl) (by kernel_rfl) (fun _ _ _ h => h) (Or.inl ⟨by rfl, ?_⟩) HD.out ?_
  rotate_left
  · intro V HV
    have z0 := (HV.cell (p := ⟨w.heap.size + 1, 5, none⟩) l1).trans (O1.out.cell 5 rfl)
    go_simp
    try with_reducible rfl
  refine wpAnyG_take (i := 16) (v := ?_) rfl (by kernel_rfl) (by kernel_rfl) (by kernel_rfl) (by kernel_rfl) (fun _ _ _ h => h) (Or.inl ⟨by rfl, ?_⟩) HD.out ?_
  rotate_left
  · intro V HV
    have z0 := (HV.cell (p := ⟨w.heap.size, 0, none⟩) l0).trans (O0.out.cell 0 rfl)
    have z1 := (HV.cell (p := ⟨w.heap.size, 1, none⟩) l0).trans (O0.out.cell 1 rfl)
    go_simp
    try with_reducible rfl
  refine wpAnyG_take (i := 17) (v := ?_) rfl (by kernel_rfl) (by kernel_rfl) (by kernel_rfl) (by kernel_rfl) (fun _ _ _ h => h) (Or.inl ⟨by rfl, ?_⟩) HD.out ?_
  rotate_left
  · intro V HV
    go_simp
    try with_reducible rfl
  refine wpAnyG_take (i := 18) (v := ?_) rfl (by kernel_rfl) (by kernel_rfl) (by kernel_rfl) (by kernel_rfl) (fun _ _ _ h => h) (Or.inl ⟨by rfl, ?_⟩) HD.out ?_
  rotate_left
  · intro V HV
    have z0 := (HV.cell (p := ⟨w.heap.size + 1, 6, none⟩) l1).trans (O1.out.cell 6 rfl)
    go_simp
    try with_reducible rfl
  refine wpAnyG_all (rs := [2]) (by kernel_rfl) (by simp) ?_
  intro i hi
  obtain rfl : i = 2 := by simpa using hi
  clear hi
  refine wpOp_listV rfl ?_
  intro Q' hQ'
  have HQ : Hid _ := hQ'
  clear hQ'
  go_wp2_with fail
  refine Calls.mono (kclone_any s0 _ h0) ?_
  rintro e w4 ⟨rfl, hbl⟩
  have HB4 : Hid (Below W.heap.size W w4) := HD.out.trans (hbl.mono HD.out.size)
  clear hbl
  go_wp2
  refine HQ.out _ _ ⟨.inr HB4.out, ?_⟩
  clear HQ
  refine wpAnyG_all (rs := [5]) (by kernel_rfl) (by simp) ?_
  intro i hi
  obtain rfl : i = 5 := by simpa using hi
  clear hi
  refine wpOp_listV rfl ?_
  intro Q' hQ'
  have HQ : Hid _ := hQ'
  clear hQ'
  go_wp2_with fail
  refine Calls.mono (kclone_any s1 _ h1) ?_
  rintro e w5 ⟨rfl, hbl⟩
  have HB5 : Hid (Below W.heap.size W w5) := HB4.out.trans (hbl.mono HB4.out.size)
  clear hbl
  go_wp2
  refine HQ.out _ _ ⟨.inr HB5.out, ?_⟩
  clear HQ
  refine wpAnyG_all (rs := [8]) (by kernel_rfl) (by simp) ?_
  intro i hi
  obtain rfl : i = 8 := by simpa using hi
  clear hi
  refine wpOp_listV rfl ?_
  intro Q' hQ'
  have HQ : Hid _ := hQ'
  clear hQ'
  go_wp2_with fail
  refine Calls.mono (kclone_any s2 _ h2) ?_
  rintro e w6 ⟨rfl, hbl⟩
  have HB6 : Hid (Below W.heap.size W w6) := HB5.out.trans (hbl.mono HB5.out.size)
  clear hbl
  go_wp2
  refine HQ.out _ _ ⟨.inr HB6.out, ?_⟩
  clear HQ
  refine wpAnyG_all (rs := [15]) (by kernel_rfl) (by simp) ?_
  intro i hi
  obtain rfl : i = 15 := by simpa using hi
  clear hi
  refine wpOp_listV rfl ?_
  intro Q' hQ'
  have HQ : Hid _ := hQ'
  clear hQ'
  go_wp2_with fail
  refine Calls.mono (kbytes_any A hA a5 n5 k5 m5 _ (show Hid _ from ((h5.out.under HB.out).under HB6.out).1) (show Hid _ from h5.out.2)) ?_
  rintro e w7 ⟨v, rfl, hcp, hbl⟩
  have HB7 : Hid (Below W.heap.size W w7) := HB6.out.trans (hbl.mono HB6.out.size)
  obtain ⟨p5, r5, rfl⟩ := cpy_ls hcp
  have C5_7 : Hid (Cpy w7 W.heap.size A 38 (.ls a5 n5 k5 m5) (.slice p5 n5 r5)) := hcp.from HB6.out.size
  clear hcp
  clear hbl
  go_wp2
  refine HQ.out _ _ ⟨.inr HB7.out, ?_⟩
  clear HQ
  refine wpAnyG_all (rs := [19]) (by kernel_rfl) (by simp) ?_
  intro i hi
  obtain rfl : i = 19 := by simpa using hi
  clear hi
  refine wpOp_listV rfl ?_
  intro Q' hQ'
  have HQ : Hid _ := hQ'
  clear hQ'
  go_wp2_with fail
  refine Calls.mono (kunk_any A hA (.int .i64 lv) a6 n6 k6 m6 _ (show Hid _ from ((h6.out.under HB.out).under HB7.out).1) (show Hid _ from h6.out.2)) ?_
  rintro e w8 ⟨v, rfl, hcp, hbl⟩
  have HB8 : Hid (Below W.heap.size W w8) := HB7.out.trans (hbl.mono HB7.out.size)
  have C5_8 : Hid (Cpy w8 W.heap.size A 38 (.ls a5 n5 k5 m5) (.slice p5 n5 r5)) := Cpy.under C5_7.out hbl
  clear C5_7
  obtain ⟨p6, r6, rfl⟩ := cpy_ls hcp
  have C6_8 : Hid (Cpy w8 W.heap.size A 38 (.ls a6 n6 k6 m6) (.slice p6 n6 r6)) := hcp.from HB7.out.size
  clear hcp
  clear hbl
  go_wp2
  refine HQ.out _ _ ⟨.inr HB8.out, ?_⟩
  clear HQ
  refine wpAnyG_take (i := 20) (v := ?_) rfl (by kernel_rfl) (by kernel_rfl) (by kernel_rfl) (by kernel_rfl) (fun _ _ _ h => h) (Or.inl ⟨by rfl, ?_⟩) HB8.out ?_
  rotate_left
  · intro V HV
    go_simp
    try with_reducible rfl
  refine wpAnyG_all (rs := [21]) (by kernel_rfl) (by simp) ?_
  intro i hi
  obtain rfl : i = 21 := by simpa using hi
  clear hi
  refine wpOp_listV rfl ?_
  intro Q' hQ'
  have HQ : Hid _ := hQ'
  clear hQ'
  have O2' : Hid _ := O2.out.below HB8.out l2
  obtain ⟨⟨y0, y1, y2, y3, y4, y5, y6⟩, ⟨g0, g1, g2, g3, g4, g5, g6⟩, l2'⟩ := ob7 (show Ob w8 (w.heap.size + 1 + 1) #[.string ⟨#[]⟩, .string ⟨#[]⟩, .string ⟨#[]⟩, .bool false, .bool false, .slice none 0 0, .slice none 0 0] 161 from O2'.out)
  go_wp2
  refine HQ.out _ _ ⟨.inl trivial, ?_⟩
  clear HQ
  refine wpAnyG_done (by kernel_rfl) ?_ _
  go_wp2
  refine bodyPost_ret (v := .agg #[.string s0, .string s1, .string s2, .bool b3, .bool b4, .slice p5 n5 r5, .slice p6 n6 r6]) (by simp [results, Tryz.results138, go_sem, y0, y1, y2, y3, y4, y5, y6]) rfl ⟨_, _, _, _, rfl, ?_, ?_⟩
  · exact CpyL.cons (Cpy.str s0) (CpyL.cons (Cpy.str s1) (CpyL.cons (Cpy.str s2) (CpyL.cons (Cpy.tru b3 Tryz.underlying4) (CpyL.cons (Cpy.tru b4 Tryz.underlying4) (CpyL.cons (Cpy.from (Cpy.set (Cpy.set (Cpy.set (Cpy.set (Cpy.set (Cpy.set (Cpy.set (C5_8.out) (b := w.heap.size + 1 + 1) l2 0 _) (b := w.heap.size + 1 + 1) l2 1 _) (b := w.heap.size + 1 + 1) l2 2 _) (b := w.heap.size + 1 + 1) l2 3 _) (b := w.heap.size + 1 + 1) l2 4 _) (b := w.heap.size + 1 + 1) l2 5 _) (b := w.heap.size + 1 + 1) l2 6 _) HB.out.size) (CpyL.cons (Cpy.from (Cpy.set (Cpy.set (Cpy.set (Cpy.set (Cpy.set (Cpy.set (Cpy.set (C6_8.out) (b := w.heap.size + 1 + 1) l2 0 _) (b := w.heap.size + 1 + 1) l2 1 _) (b := w.heap.size + 1 + 1) l2 2 _) (b := w.heap.size + 1 + 1) l2 3 _) (b := w.heap.size + 1 + 1) l2 4 _) (b := w.heap.size + 1 + 1) l2 5 _) (b := w.heap.size + 1 + 1) l2 6 _) HB.out.size) (CpyL.nil _ _ _)))))))
  · exact (((((((HB.out.trans (HB8.out.mono HB.out.size)).setCell (p := ⟨w.heap.size + 1 + 1, 0, none⟩) (by simp; omega) _).setCell (p := ⟨w.heap.size + 1 + 1, 1, none⟩) (by simp; omega) _).setCell (p := ⟨w.heap.size + 1 + 1, 2, none⟩) (by simp; omega) _).setCell (p := ⟨w.heap.size + 1 + 1, 3, none⟩) (by simp; omega) _).setCell (p := ⟨w.heap.size + 1 + 1, 4, none⟩) (by simp; omega) _).setCell (p := ⟨w.heap.size + 1 + 1, 5, none⟩) (by simp; omega) _).setCell (p := ⟨w.heap.size + 1 + 1, 6, none⟩) (by simp; omega) _

theorem flds_method : flds Tryz.prog 161 = [9, 9, 9, 4, 4, 38, 38] := by kernel_rfl

theorem method_at {w : World} {a : Option Addr} {n c : Nat} {ms : List Md} (h : Src w 157 (.ls a n c ms)) (i : Nat) (hi : i < n) :
    ∃ b off s0 s1 s2 b3 b4 a5 n5 k5 m5 a6 n6 k6 m6, a = some ⟨b, off, none⟩ ∧ b < w.heap.size ∧ w.cell? ⟨b, off + i * 7, none⟩ = some (.string s0) ∧ w.cell? ⟨b, off + i * 7 + 1, none⟩ = some (.string s1) ∧ w.cell? ⟨b, off + i * 7 + 2, none⟩ = some (.string s2) ∧ w.cell? ⟨b, off + i * 7 + 3, none⟩ = some (.bool b3) ∧ w.cell? ⟨b, off + i * 7 + 4, none⟩ = some (.bool b4) ∧ w.cell? ⟨b, off + i * 7 + 5, none⟩ = some (.slice a5 n5 k5) ∧ w.cell? ⟨b, off + i * 7 + 6, none⟩ = some (.slice a6 n6 k6) ∧ Src w 38 (.ls a5 n5 k5 m5) ∧ Src w 38 (.ls a6 n6 k6 m6) ∧ s0.size ≤ 140737488355328 ∧ s1.size ≤ 140737488355328 ∧ s2.size ≤ 140737488355328 ∧ ms[i * 7 + 0]? = some (.str s0) ∧ ms[i * 7 + 1]? = some (.str s1) ∧ ms[i * 7 + 2]? = some (.str s2) ∧ ms[i * 7 + 3]? = some (.tru b3) ∧ ms[i * 7 + 4]? = some (.tru b4) ∧ ms[i * 7 + 5]? = some (.ls a5 n5 k5 m5) ∧ ms[i * 7 + 6]? = some (.ls a6 n6 k6 m6) := by
  obtain ⟨h, hz⟩ := h
  cases h with
  | ls hT hnc hm hnil hlen hmem hk =>
    rename_i E
    have hE : E = 161 := by
      have := Tryz.underlying157
      rw [this] at hT
      cases hT
      rfl
    subst hE
    cases hz with
    | ls hT2 hb2 hk2 =>
    rename_i E
    have hE : E = 161 := by
      have := Tryz.underlying157
      rw [this] at hT2
      cases hT2
      rfl
    subst hE
    rw [flds_method] at hlen hk hk2
    obtain ⟨b, off, rfl, hb, hc⟩ := hmem (by omega)
    have hg : ∀ j, j < 7 → ∃ m, ms[i * 7 + j]? = some m := fun j hj => ⟨_, List.getElem?_eq_getElem (by simp at hlen; omega)⟩
    have hmod : ∀ j, j < 7 → (i * 7 + j) % 7 = j := fun j hj => by omega
    obtain ⟨q0, hq0⟩ := hg 0 (by omega)
    have ok0 := hk _ _ 9 hq0 (by rw [show ([9, 9, 9, 4, 4, 38, 38] : List TypeId).length = 7 from rfl, hmod 0 (by omega)]; rfl)
    have sz0 := hk2 _ _ 9 hq0 (by rw [show ([9, 9, 9, 4, 4, 38, 38] : List TypeId).length = 7 from rfl, hmod 0 (by omega)]; rfl)
    have cl0 := hc _ _ hq0
    obtain ⟨q1, hq1⟩ := hg 1 (by omega)
    have ok1 := hk _ _ 9 hq1 (by rw [show ([9, 9, 9, 4, 4, 38, 38] : List TypeId).length = 7 from rfl, hmod 1 (by omega)]; rfl)
    have sz1 := hk2 _ _ 9 hq1 (by rw [show ([9, 9, 9, 4, 4, 38, 38] : List TypeId).length = 7 from rfl, hmod 1 (by omega)]; rfl)
    have cl1 := hc _ _ hq1
    obtain ⟨q2, hq2⟩ := hg 2 (by omega)
    have ok2 := hk _ _ 9 hq2 (by rw [show ([9, 9, 9, 4, 4, 38, 38] : List TypeId).length = 7 from rfl, hmod 2 (by omega)]; rfl)
    have sz2 := hk2 _ _ 9 hq2 (by rw [show ([9, 9, 9, 4, 4, 38, 38] : List TypeId).length = 7 from rfl, hmod 2 (by omega)]; rfl)
    have cl2 := hc _ _ hq2
    obtain ⟨q3, hq3⟩ := hg 3 (by omega)
    have ok3 := hk _ _ 4 hq3 (by rw [show ([9, 9, 9, 4, 4, 38, 38] : List TypeId).length = 7 from rfl, hmod 3 (by omega)]; rfl)
    have sz3 := hk2 _ _ 4 hq3 (by rw [show ([9, 9, 9, 4, 4, 38, 38] : List TypeId).length = 7 from rfl, hmod 3 (by omega)]; rfl)
    have cl3 := hc _ _ hq3
    obtain ⟨q4, hq4⟩ := hg 4 (by omega)
    have ok4 := hk _ _ 4 hq4 (by rw [show ([9, 9, 9, 4, 4, 38, 38] : List TypeId).length = 7 from rfl, hmod 4 (by omega)]; rfl)
    have sz4 := hk2 _ _ 4 hq4 (by rw [show ([9, 9, 9, 4, 4, 38, 38] : List TypeId).length = 7 from rfl, hmod 4 (by omega)]; rfl)
    have cl4 := hc _ _ hq4
    obtain ⟨q5, hq5⟩ := hg 5 (by omega)
    have ok5 := hk _ _ 38 hq5 (by rw [show ([9, 9, 9, 4, 4, 38, 38] : List TypeId).length = 7 from rfl, hmod 5 (by omega)]; rfl)
    have sz5 := hk2 _ _ 38 hq5 (by rw [show ([9, 9, 9, 4, 4, 38, 38] : List TypeId).length = 7 from rfl, hmod 5 (by omega)]; rfl)
    have cl5 := hc _ _ hq5
    obtain ⟨q6, hq6⟩ := hg 6 (by omega)
    have ok6 := hk _ _ 38 hq6 (by rw [show ([9, 9, 9, 4, 4, 38, 38] : List TypeId).length = 7 from rfl, hmod 6 (by omega)]; rfl)
    have sz6 := hk2 _ _ 38 hq6 (by rw [show ([9, 9, 9, 4, 4, 38, 38] : List TypeId).length = 7 from rfl, hmod 6 (by omega)]; rfl)
    have cl6 := hc _ _ hq6
    obtain ⟨s0, rfl, _⟩ := ok_str2 Tryz.underlying9 ok0
    obtain ⟨s1, rfl, _⟩ := ok_str2 Tryz.underlying9 ok1
    obtain ⟨s2, rfl, _⟩ := ok_str2 Tryz.underlying9 ok2
    obtain ⟨b3, rfl⟩ := ok_tru2 Tryz.underlying4 ok3
    obtain ⟨b4, rfl⟩ := ok_tru2 Tryz.underlying4 ok4
    obtain ⟨a5, n5, k5, m5, rfl⟩ := ok_ls2 Tryz.underlying38 ok5
    obtain ⟨a6, n6, k6, m6, rfl⟩ := ok_ls2 Tryz.underlying38 ok6
    refine ⟨b, off, s0, s1, s2, b3, b4, a5, n5, k5, m5, a6, n6, k6, m6, rfl, hb, ?_, ?_, ?_, ?_, ?_, ?_, ?_, ⟨ok5, sz5⟩, ⟨ok6, sz6⟩, sz_str sz0, sz_str sz1, sz_str sz2, hq0, hq1, hq2, hq3, hq4, hq5, hq6⟩
    · simpa [Md.val, Nat.add_assoc] using cl0
    · simpa [Md.val, Nat.add_assoc] using cl1
    · simpa [Md.val, Nat.add_assoc] using cl2
    · simpa [Md.val, Nat.add_assoc] using cl3
    · simpa [Md.val, Nat.add_assoc] using cl4
    · simpa [Md.val, Nat.add_assoc] using cl5
    · simpa [Md.val, Nat.add_assoc] using cl6

theorem Tryz.infmethod : (Tryz.prog.info? 161).map (fun i => (i.zero, i.size, i.bytes)) = some (some (.agg #[.string ⟨#[]⟩, .string ⟨#[]⟩, .string ⟨#[]⟩, .bool false, .bool false, .slice none 0 0, .slice none 0 0]), 7, 104) := by kernel_rfl

theorem new_method (w : World) (x0 : Value) (x1 : Value) (x2 : Value) (x3 : Value) (x4 : Value) (x5 : Value) (x6 : Value) (t : TypeId) : ∀ (j : Nat) (u : Value), [x0, x1, x2, x3, x4, x5, x6][j]? = some u → (w.alloc (.cells #[x0, x1, x2, x3, x4, x5, x6] t)).cell? (({ block := w.heap.size, off := 0 } : Addr).add j) = some u := by
  intro j u hj
  have hl : j < 7 := (List.getElem?_eq_some_iff.1 hj).1
  match j, hl with
  | 0, _ => simp at hj; subst hj; simp [Addr.add]
  | 1, _ => simp at hj; subst hj; simp [Addr.add]
  | 2, _ => simp at hj; subst hj; simp [Addr.add]
  | 3, _ => simp at hj; subst hj; simp [Addr.add]
  | 4, _ => simp at hj; subst hj; simp [Addr.add]
  | 5, _ => simp at hj; subst hj; simp [Addr.add]
  | 6, _ => simp at hj; subst hj; simp [Addr.add]

theorem hes_method {ms : List Md} {k : Nat} {q0 q1 q2 q3 q4 q5 q6 : Md} (h : ms[k * 7 + 0]? = some q0 ∧ ms[k * 7 + 1]? = some q1 ∧ ms[k * 7 + 2]? = some q2 ∧ ms[k * 7 + 3]? = some q3 ∧ ms[k * 7 + 4]? = some q4 ∧ ms[k * 7 + 5]? = some q5 ∧ ms[k * 7 + 6]? = some q6) : ∀ j, j < [9, 9, 9, 4, 4, 38, 38].length → ms[k * 7 + j]? = [q0, q1, q2, q3, q4, q5, q6][j]? := by
  intro j hj
  have hl : j < 7 := hj
  match j, hl with
  | 0, _ => exact h.1
  | 1, _ => exact h.2.1
  | 2, _ => exact h.2.2.1
  | 3, _ => exact h.2.2.2.1
  | 4, _ => exact h.2.2.2.2.1
  | 5, _ => exact h.2.2.2.2.2.1
  | 6, _ => exact h.2.2.2.2.2.2

set_option maxRecDepth 100000 in
set_option maxHeartbeats 4000000 in
theorem kmethods_any (A : TypeId → Prop) (hA : A 5 ∧ A 161) (lv : Int) (a : Option Addr) (n c : Nat) (ms : List Md) (w : World) (hs : Hid (Src w 157 (.ls a n c ms))) :
    Calls Tryz.prog 137 #[.slice a n c, .func (.func 138) #[.agg #[.int .i64 lv, .bool false]] #[]] w fun e w' => ∃ v, e = .returned v ∧ Cpy w' w.heap.size A 157 (.ls a n c ms) v ∧ Below w.heap.size w w' := by
  obtain ⟨i0, hi, hz0, hz1, hz2⟩ := info_parts Tryz.infmethod
  obtain ⟨hn, hby, hml⟩ : (n : Int) ≤ 9223372036854775807 ∧ n * 104 ≤ 140737488355328 ∧ ms.length = n * 7 := by
    obtain ⟨ok, sz⟩ := hs.out
    refine ⟨?_, ?_, ?_⟩
    · cases ok with
      | ls hT hnc hm => unfold maxLen at hm; omega
    · cases sz with
      | ls hT hb hk =>
        rw [Tryz.underlying157] at hT
        cases hT
        have : Tryz.prog.bytesOf 161 = 104 := by kernel_rfl
        rw [this] at hb
        exact hb
    · cases ok with
      | ls hT hnc hm hnil hlen hmem hk =>
        rw [Tryz.underlying157] at hT
        cases hT
        rw [flds_method] at hlen
        exact hlen
  have HML : Hid _ := hml
  clear hml
  have HA : Hid _ := hA
  clear hA
  go_enter Tryz.func137, Tryz.ntmps137
  go_wp2
  go_loopw [5, 10] (fun v i wr => ∃ k : Nat, k ≤ n ∧ i = .int .i64 (k : Int) ∧ Hid (Eac wr w.heap.size (fun X => A X ∧ X ≠ 161) 161 ms k v) ∧ Hid (Below w.heap.size w wr)) (fun _ i _ => n - (intOf i).toNat)
  case atStart => exact ⟨0, Nat.zero_le _, rfl, Eac.nil _ _ _ _ _, Below.refl _ _⟩
  case round =>
    obtain ⟨k, hk, rfl, HE, HW⟩ := hrel
    have hwz := HW.out.size
    by_cases hlk : k < n
    · obtain ⟨b, off, s0, s1, s2, b3, b4, a5, n5, k5, m5, a6, n6, k6, m6, rfl, hlt, d0, d1, d2, d3, d4, d5, d6, S5, S6, Z0, Z1, Z2, G0, G1, G2, G3, G4, G5, G6⟩ := method_at (hs.out.under HW.out) k hlk
      have HS5 : Hid _ := S5
      have HS6 : Hid _ := S6
      have HZ0 : Hid _ := Z0
      have HZ1 : Hid _ := Z1
      have HZ2 : Hid _ := Z2
      have HG : Hid (ms[k * 7 + 0]? = some (.str s0) ∧ ms[k * 7 + 1]? = some (.str s1) ∧ ms[k * 7 + 2]? = some (.str s2) ∧ ms[k * 7 + 3]? = some (.tru b3) ∧ ms[k * 7 + 4]? = some (.tru b4) ∧ ms[k * 7 + 5]? = some (.ls a5 n5 k5 m5) ∧ ms[k * 7 + 6]? = some (.ls a6 n6 k6 m6)) := ⟨G0, G1, G2, G3, G4, G5, G6⟩
      clear S5 S6 Z0 Z1 Z2 G0 G1 G2 G3 G4 G5 G6 hs
      have HX : Hid (Below wr.heap.size wr (wr.alloc (.cells #[.string s0, .string s1, .string s2, .bool b3, .bool b4, .slice a5 n5 k5, .slice a6 n6 k6] 161))) := (Below.refl _ _).alloc (Nat.le_refl _) _
      have Q : Hid _ := kmethod_any (fun X => A X ∧ X ≠ 161) (show _ from (by have hA := HA.out; exact ⟨hA.1, by decide⟩)) lv s0 s1 s2 b3 b4 a5 n5 k5 m5 a6 n6 k6 m6 (wr.alloc (.cells #[.string s0, .string s1, .string s2, .bool b3, .bool b4, .slice a5 n5 k5, .slice a6 n6 k6] 161)) (show Hid _ from Src.under HS5.out HX.out) (show Hid _ from Src.under HS6.out HX.out) (show Hid _ from HZ0.out) (show Hid _ from HZ1.out) (show Hid _ from HZ2.out)
      go_wp2_with fail
      refine Calls.mono Q.out ?_
      rintro e w2 ⟨p5, r5, p6, r6, rfl, hcp, hb2⟩
      have HB2 : Hid (Below wr.heap.size wr w2) := HX.out.trans (hb2.mono (by simp))
      have HC2 : Hid (CpyL w2 w.heap.size (fun X => A X ∧ X ≠ 161) [9, 9, 9, 4, 4, 38, 38] [.str s0, .str s1, .str s2, .tru b3, .tru b4, .ls a5 n5 k5 m5, .ls a6 n6 k6 m6] [.string s0, .string s1, .string s2, .bool b3, .bool b4, .slice p5 n5 r5, .slice p6 n6 r6]) := (show CpyL _ _ _ _ _ _ from hcp).from (by simp; omega)
      have HE2 : Hid (Eac w2 w.heap.size (fun X => A X ∧ X ≠ 161) 161 ms k u5) := Eac.under HE.out HB2.out
      clear hcp hb2 Q HX HE
      have hzz := HB2.out.size
      have HE3 : Hid (Eac (w2.alloc (.cells #[.string s0, .string s1, .string s2, .bool b3, .bool b4, .slice p5 n5 r5, .slice p6 n6 r6] 161)) w.heap.size (fun X => A X ∧ X ≠ 161) 161 ms k u5) := Eac.under HE2.out ((Below.refl _ _).alloc (Nat.le_refl _) _)
      have HC3 : Hid (CpyL (w2.alloc (.cells #[.string s0, .string s1, .string s2, .bool b3, .bool b4, .slice p5 n5 r5, .slice p6 n6 r6] 161)) w.heap.size (fun X => A X ∧ X ≠ 161) [9, 9, 9, 4, 4, 38, 38] [.str s0, .str s1, .str s2, .tru b3, .tru b4, .ls a5 n5 k5 m5, .ls a6 n6 k6 m6] [.string s0, .string s1, .string s2, .bool b3, .bool b4, .slice p5 n5 r5, .slice p6 n6 r6]) := CpyL.under HC2.out ((Below.refl _ _).alloc (Nat.le_refl _) _)
      obtain ⟨ms', hown0, hall0⟩ := HE3.out
      have HO : Hid ((w2.alloc (.cells #[.string s0, .string s1, .string s2, .bool b3, .bool b4, .slice p5 n5 r5, .slice p6 n6 r6] 161)).ownsRow w.heap.size 161 7 u5 k (ms'.map Md.val)) := by rw [flds_method] at hown0; exact hown0
      have HO0 : Hid _ := hown0
      have HALL : Hid _ := hall0
      clear hown0 hall0 HE3 HE2 HC2
      go_wp2_with (at_builtin; refine wpList_append_own_at _ rfl _ _ 157 rfl w.heap.size 161 i0 (.agg #[.string ⟨#[]⟩, .string ⟨#[]⟩, .string ⟨#[]⟩, .bool false, .bool false, .slice none 0 0, .slice none 0 0]) 7 104 Tryz.underlying157 hi hz0 hz1 hz2 rfl (by decide) _ k _ rfl HO.out ⟨w2.heap.size, 0, none⟩ 1 1 [.string s0, .string s1, .string s2, .bool b3, .bool b4, .slice p5 n5 r5, .slice p6 n6 r6] rfl rfl (new_method _ _ _ _ _ _ _ _ _) (by intro u hu; simp at hu; rcases hu with rfl | rfl | rfl | rfl | rfl | rfl | rfl <;> rfl) (by unfold maxLen; omega) (by omega) (by simp; omega) ?_; intro v4 w4 hown4 hgrow4 hnil4 hat4; have HP4 : Hid (Eac w4 w.heap.size (fun X => A X ∧ X ≠ 161) 161 ms (k + 1) v4) := Eac.push (fun X h => h.2) HO0.out HALL.out (by rw [flds_method]; exact HC3.out) (by rw [flds_method]; rfl) (by rw [flds_method]; exact hes_method HG.out) hgrow4 (by rw [flds_method]; exact hown4); have HB4 : Hid (Below w.heap.size w w4) := (HW.out.trans ((HB2.out.alloc HB2.out.size _).mono HW.out.size)).grown hgrow4 (by simp; omega) (fun g hg => own_low HO.out hg); obtain ⟨a4, c4, rfl⟩ := own_slice hown4; clear hown4 hgrow4 hnil4 hat4 HO HO0 HALL HC3)
      go_roundw
      case rel => exact ⟨k + 1, by omega, by go_num, HP4.out, HB4.out⟩
      case measure => simp [intOf]; omega
    · have hkn : k = n := by omega
      subst hkn
      have HF : Hid (Cpy wr w.heap.size A 157 (.ls a k c ms) u5) := Eac.all Tryz.underlying157 (fun X h => h.1) HA.out.2 (by rw [flds_method]; exact HML.out) HE.out
      go_wp2
      go_ret
      exact ⟨_, rfl, HF.out, HW.out⟩

set_option maxRecDepth 100000 in
set_option maxHeartbeats 4000000 in
theorem kservice_any (A : TypeId → Prop) (hA : A 5 ∧ A 161) (lv : Int) (s0 : ByteArray) (a1 : Option Addr) (n1 k1 : Nat) (m1 : List Md) (a2 : Option Addr) (n2 k2 : Nat) (m2 : List Md) (a3 : Option Addr) (n3 k3 : Nat) (m3 : List Md) (w : World) (h1 : Hid (Src w 157 (.ls a1 n1 k1 m1))) (h2 : Hid (Src w 38 (.ls a2 n2 k2 m2))) (h3 : Hid (Src w 38 (.ls a3 n3 k3 m3))) (h0 : Hid (s0.size ≤ 140737488355328)) :
    Calls Tryz.prog 100 #[.agg #[.int .i64 lv, .bool false], .agg #[.string s0, .slice a1 n1 k1, .slice a2 n2 k2, .slice a3 n3 k3]] w fun e w' => ∃ p1 r1 p2 r2 p3 r3, e = .returned (.agg #[.string s0, .slice p1 n1 r1, .slice p2 n2 r2, .slice p3 n3 r3]) ∧ CpyL w' w.heap.size A [9, 157, 38, 38] [.str s0, .ls a1 n1 k1 m1, .ls a2 n2 k2 m2, .ls a3 n3 k3 m3] [.string s0, .slice p1 n1 r1, .slice p2 n2 r2, .slice p3 n3 r3] ∧ Below w.heap.size w w' := by
  obtain ⟨W, hW⟩ : ∃ W, ((w.alloc (.cells #[.int .i64 lv, .bool false] 100)).alloc (.cells #[.string s0, .slice a1 n1 k1, .slice a2 n2 k2, .slice a3 n3 k3] 159)).alloc (.cells #[.string ⟨#[]⟩, .slice none 0 0, .slice none 0 0, .slice none 0 0] 159) = W := ⟨_, rfl⟩
  have o0 : Ob W w.heap.size #[.int .i64 lv, .bool false] 100 := by rw [← hW]; exact ((Ob.new w _ _).alloc _).alloc _
  have o1 : Ob W (w.heap.size + 1) #[.string s0, .slice a1 n1 k1, .slice a2 n2 k2, .slice a3 n3 k3] 159 := by rw [← hW]; have := Ob.new (w.alloc (.cells #[.int .i64 lv, .bool false] 100)) #[.string s0, .slice a1 n1 k1, .slice a2 n2 k2, .slice a3 n3 k3] 159; rw [World.size_alloc] at this; exact this.alloc _
  have o2 : Ob W (w.heap.size + 1 + 1) #[.string ⟨#[]⟩, .slice none 0 0, .slice none 0 0, .slice none 0 0] 159 := by rw [← hW]; have := Ob.new ((w.alloc (.cells #[.int .i64 lv, .bool false] 100)).alloc (.cells #[.string s0, .slice a1 n1 k1, .slice a2 n2 k2, .slice a3 n3 k3] 159)) #[.string ⟨#[]⟩, .slice none 0 0, .slice none 0 0, .slice none 0 0] 159; simp only [World.size_alloc] at this; exact this
  have hb : Below w.heap.size w W := by rw [← hW]; exact (((Below.refl _ _).alloc (Nat.le_refl _) _).alloc (by simp) _).alloc (by simp; omega) _
  have HW : Hid _ := hW
  have O0 : Hid _ := o0
  have O1 : Hid _ := o1
  have O2 : Hid _ := o2
  have HB : Hid _ := hb
  have l0 := o0.lt
  have l1 := o1.lt
  have l2 := o2.lt
  clear hW o0 o1 o2 hb
  go_enter Tryz.func100, Tryz.ntmps100
  go_upto_region 1 with fail
  rw [HW.out]
  clear HW
  have HD : Hid (Below W.heap.size W W.drew) := (Below.refl _ _).drew
  refine wp_region_heldG 16 (S := fun V => Below W.heap.size W V) rfl ?_
  refine wpAnyG_take (i := 0) (v := ?_) rfl (by kernel_rfl) (by kernel_rfl) (by kernel_rfl) (by kernel_rfl) (fun _ _ _ h => h) (Or.inl ⟨by rfl, ?_⟩) HD.out ?_
  rotate_left
  · intro V HV
    go_simp
    try with_reducible rfl
  refine wpAnyG_take (i := 1) (v := ?_) rfl (by kernel_rfl) (by kernel_rfl) (by kernel_rfl) (by kernel_rfl) (fun _ _ _ h => h) (Or.inl ⟨by rfl, ?_⟩) HD.out ?_
  rotate_left
  · intro V HV
    have z0 := (HV.cell (p := ⟨w.heap.size + 1, 0, none⟩) l1).trans (O1.out.cell 0 rfl)
    go_simp
    try with_reducible rfl
  refine wpAnyG_take (i := 3) (v := ?_) rfl (by kernel_rfl) (by kernel_rfl) (by kernel_rfl) (by kernel_rfl) (fun _ _ _ h => h) (Or.inl ⟨by rfl, ?_⟩) HD.out ?_
  rotate_left
  · intro V HV
    go_simp
    try with_reducible rfl
  refine wpAnyG_take (i := 4) (v := ?_) rfl (by kernel_rfl) (by kernel_rfl) (by kernel_rfl) (by kernel_rfl) (fun _ _ _ h => h) (Or.inl ⟨by rfl, ?_⟩) HD.out ?_
  rotate_left
  · intro V HV
    have z0 := (HV.cell (p := ⟨w.heap.size + 1, 1, none⟩) l1).trans (O1.out.cell 1 rfl)
    go_simp
    try with_reducible rfl
  refine wpAnyG_take (i := 5) (v := ?_) rfl (by kernel_rfl) (by kernel_rfl) (by kernel_rfl) (by kernel_rfl) (fun _ _ _ h => h) (Or.inl ⟨by rfl, ?_⟩) HD.out ?_
  rotate_left
  · intro V HV
    have z0 := (HV.cell (p := ⟨w.heap.size, 0, none⟩) l0).trans (O0.out.cell 0 rfl)
    have z1 := (HV.cell (p := ⟨w.heap.size, 1, none⟩) l0).trans (O0.out.cell 1 rfl)
    go_simp
    try with_reducible rfl
  refine wpAnyG_take (i := 6) (v := ?_) rfl (by kernel_rfl) (by kernel_rfl) (by kernel_rfl) (by kernel_rfl) (fun _ _ _ h => h) (Or.inl ⟨by rfl, ?_⟩) HD.out ?_
  rotate_left
  · intro V HV
    go_simp
    try with_reducible rfl
  refine wpAnyG_take (i := 8) (v := ?_) rfl (by kernel_rfl) (by kernel_rfl) (by kernel_rfl) (by kernel_rfl) (fun _ _ _ h => h) (Or.inl ⟨by rfl, ?_⟩) HD.out ?_
  rotate_left
  · intro V HV
    go_simp
    try with_reducible rfl
  refine wpAnyG_take (i := 9) (v := ?_) rfl (by kernel_rfl) (by kernel_rfl) (by kernel_rfl) (by kernel_rfl) (fun _ _ _ h => h) (Or.inl ⟨by rfl, ?_⟩) HD.out ?_
  rotate_left
  · intro V HV
    have z0 := (HV.cell (p := ⟨w.heap.size + 1, 2, none⟩) l1).trans (O1.out.cell 2 rfl)
    go_simp
    try with_reducible rfl
  refine wpAnyG_take (i := 11) (v := ?_) rfl (by kernel_rfl) (by kernel_rfl) (by kernel_rfl) (by kernel_rfl) (fun _ _ _ h => h) (Or.inl ⟨by rfl, ?_⟩) HD.out ?_
  rotate_left
  · intro V HV
    have z0 := (HV.cell (p := ⟨w.heap.size, 0, none⟩) l0).trans (O0.out.cell 0 rfl)
    have z1 := (HV.cell (p := ⟨w.heap.size, 1, none⟩) l0).trans (O0.out.cell 1 rfl)
    go_simp
    try with_reducible rfl
  refine wpAnyG_take (i := 12) (v := ?_) rfl (by kernel_rfl) (by kernel_rfl) (by kernel_rfl) (by kernel_rfl) (fun _ _ _ h => h) (Or.inl ⟨by rfl, ?_⟩) HD.out ?_
  rotate_left
  · intro V HV
    go_simp
    try with_reducible rfl
  refine wpAnyG_take (i := 13) (v := ?_) rfl (by kernel_rfl) (by kernel_rfl) (by kernel_rfl) (by kernel_rfl) (fun _ _ _ h => h) (Or.inl ⟨by rfl, ?_⟩) HD.out ?_
  rotate_left
  · intro V HV
    have z0 := (HV.cell (p := ⟨w.heap.size + 1, 3, none⟩) l1).trans (O1.out.cell 3 rfl)
    go_simp
    try with_reducible rfl
  refine wpAnyG_all (rs := [2]) (by kernel_rfl) (by simp) ?_
  intro i hi
  obtain rfl : i = 2 := by simpa using hi
  clear hi
  refine wpOp_listV rfl ?_
  intro Q' hQ'
  have HQ : Hid _ := hQ'
  clear hQ'
  go_wp2_with fail
  refine Calls.mono (kclone_any s0 _ h0) ?_
  rintro e w4 ⟨rfl, hbl⟩
  have HB4 : Hid (Below W.heap.size W w4) := HD.out.trans (hbl.mono HD.out.size)
  clear hbl
  go_wp2
  refine HQ.out _ _ ⟨.inr HB4.out, ?_⟩
  clear HQ
  refine wpAnyG_all (rs := [7]) (by kernel_rfl) (by simp) ?_
  intro i hi
  obtain rfl : i = 7 := by simpa using hi
  clear hi
  refine wpOp_listV rfl ?_
  intro Q' hQ'
  have HQ : Hid _ := hQ'
  clear hQ'
  go_wp2_with fail
  refine Calls.mono (kmethods_any A hA lv a1 n1 k1 m1 _ (show Hid _ from Src.under (Src.under h1.out HB.out) HB4.out)) ?_
  rintro e w5 ⟨v, rfl, hcp, hbl⟩
  have HB5 : Hid (Below W.heap.size W w5) := HB4.out.trans (hbl.mono HB4.out.size)
  obtain ⟨p1, r1, rfl⟩ := cpy_ls hcp
  have C1_5 : Hid (Cpy w5 W.heap.size A 157 (.ls a1 n1 k1 m1) (.slice p1 n1 r1)) := hcp.from HB4.out.size
  clear hcp
  clear hbl
  go_wp2
  refine HQ.out _ _ ⟨.inr HB5.out, ?_⟩
  clear HQ
  refine wpAnyG_all (rs := [10]) (by kernel_rfl) (by simp) ?_
  intro i hi
  obtain rfl : i = 10 := by simpa using hi
  clear hi
  refine wpOp_listV rfl ?_
  intro Q' hQ'
  have HQ : Hid _ := hQ'
  clear hQ'
  go_wp2_with fail
  refine Calls.mono (kbytes_any A hA.1 a2 n2 k2 m2 _ (show Hid _ from ((h2.out.under HB.out).under HB5.out).1) (show Hid _ from h2.out.2)) ?_
  rintro e w6 ⟨v, rfl, hcp, hbl⟩
  have HB6 : Hid (Below W.heap.size W w6) := HB5.out.trans (hbl.mono HB5.out.size)
  have C1_6 : Hid (Cpy w6 W.heap.size A 157 (.ls a1 n1 k1 m1) (.slice p1 n1 r1)) := Cpy.under C1_5.out hbl
  clear C1_5
  obtain ⟨p2, r2, rfl⟩ := cpy_ls hcp
  have C2_6 : Hid (Cpy w6 W.heap.size A 38 (.ls a2 n2 k2 m2) (.slice p2 n2 r2)) := hcp.from HB5.out.size
  clear hcp
  clear hbl
  go_wp2
  refine HQ.out _ _ ⟨.inr HB6.out, ?_⟩
  clear HQ
  refine wpAnyG_all (rs := [14]) (by kernel_rfl) (by simp) ?_
  intro i hi
  obtain rfl : i = 14 := by simpa using hi
  clear hi
  refine wpOp_listV rfl ?_
  intro Q' hQ'
  have HQ : Hid _ := hQ'
  clear hQ'
  go_wp2_with fail
  refine Calls.mono (kunk_any A hA.1 (.int .i64 lv) a3 n3 k3 m3 _ (show Hid _ from ((h3.out.under HB.out).under HB6.out).1) (show Hid _ from h3.out.2)) ?_
  rintro e w7 ⟨v, rfl, hcp, hbl⟩
  have HB7 : Hid (Below W.heap.size W w7) := HB6.out.trans (hbl.mono HB6.out.size)
  have C1_7 : Hid (Cpy w7 W.heap.size A 157 (.ls a1 n1 k1 m1) (.slice p1 n1 r1)) := Cpy.under C1_6.out hbl
  have C2_7 : Hid (Cpy w7 W.heap.size A 38 (.ls a2 n2 k2 m2) (.slice p2 n2 r2)) := Cpy.under C2_6.out hbl
  clear C1_6 C2_6
  obtain ⟨p3, r3, rfl⟩ := cpy_ls hcp
  have C3_7 : Hid (Cpy w7 W.heap.size A 38 (.ls a3 n3 k3 m3) (.slice p3 n3 r3)) := hcp.from HB6.out.size
  clear hcp
  clear hbl
  go_wp2
  refine HQ.out _ _ ⟨.inr HB7.out, ?_⟩
  clear HQ
  refine wpAnyG_take (i := 15) (v := ?_) rfl (by kernel_rfl) (by kernel_rfl) (by kernel_rfl) (by kernel_rfl) (fun _ _ _ h => h) (Or.inl ⟨by rfl, ?_⟩) HB7.out ?_
  rotate_left
  · intro V HV
    go_simp
    try with_reducible rfl
  refine wpAnyG_all (rs := [16]) (by kernel_rfl) (by simp) ?_
  intro i hi
  obtain rfl : i = 16 := by simpa using hi
  clear hi
  refine wpOp_listV rfl ?_
  intro Q' hQ'
  have HQ : Hid _ := hQ'
  clear hQ'
  have O2' : Hid _ := O2.out.below HB7.out l2
  obtain ⟨⟨y0, y1, y2, y3⟩, ⟨g0, g1, g2, g3⟩, l2'⟩ := ob4 (show Ob w7 (w.heap.size + 1 + 1) #[.string ⟨#[]⟩, .slice none 0 0, .slice none 0 0, .slice none 0 0] 159 from O2'.out)
  go_wp2
  refine HQ.out _ _ ⟨.inl trivial, ?_⟩
  clear HQ
  refine wpAnyG_done (by kernel_rfl) ?_ _
  go_wp2
  refine bodyPost_ret (v := .agg #[.string s0, .slice p1 n1 r1, .slice p2 n2 r2, .slice p3 n3 r3]) (by simp [results, Tryz.results100, go_sem, y0, y1, y2, y3]) rfl ⟨_, _, _, _, _, _, rfl, ?_, ?_⟩
  · exact CpyL.cons (Cpy.str s0) (CpyL.cons (Cpy.from (Cpy.set (Cpy.set (Cpy.set (Cpy.set (C1_7.out) (b := w.heap.size + 1 + 1) l2 0 _) (b := w.heap.size + 1 + 1) l2 1 _) (b := w.heap.size + 1 + 1) l2 2 _) (b := w.heap.size + 1 + 1) l2 3 _) HB.out.size) (CpyL.cons (Cpy.from (Cpy.set (Cpy.set (Cpy.set (Cpy.set (C2_7.out) (b := w.heap.size + 1 + 1) l2 0 _) (b := w.heap.size + 1 + 1) l2 1 _) (b := w.heap.size + 1 + 1) l2 2 _) (b := w.heap.size + 1 + 1) l2 3 _) HB.out.size) (CpyL.cons (Cpy.from (Cpy.set (Cpy.set (Cpy.set (Cpy.set (C3_7.out) (b := w.heap.size + 1 + 1) l2 0 _) (b := w.heap.size + 1 + 1) l2 1 _) (b := w.heap.size + 1 + 1) l2 2 _) (b := w.heap.size + 1 + 1) l2 3 _) HB.out.size) (CpyL.nil _ _ _))))
  · exact ((((HB.out.trans (HB7.out.mono HB.out.size)).setCell (p := ⟨w.heap.size + 1 + 1, 0, none⟩) (by simp; omega) _).setCell (p := ⟨w.heap.size + 1 + 1, 1, none⟩) (by simp; omega) _).setCell (p := ⟨w.heap.size + 1 + 1, 2, none⟩) (by simp; omega) _).setCell (p := ⟨w.heap.size + 1 + 1, 3, none⟩) (by simp; omega) _

theorem flds_service : flds Tryz.prog 159 = [9, 157, 38, 38] := by kernel_rfl

theorem service_at {w : World} {a : Option Addr} {n c : Nat} {ms : List Md} (h : Src w 60 (.ls a n c ms)) (i : Nat) (hi : i < n) :
    ∃ b off s0 a1 n1 k1 m1 a2 n2 k2 m2 a3 n3 k3 m3, a = some ⟨b, off, none⟩ ∧ b < w.heap.size ∧ w.cell? ⟨b, off + i * 4, none⟩ = some (.string s0) ∧ w.cell? ⟨b, off + i * 4 + 1, none⟩ = some (.slice a1 n1 k1) ∧ w.cell? ⟨b, off + i * 4 + 2, none⟩ = some (.slice a2 n2 k2) ∧ w.cell? ⟨b, off + i * 4 + 3, none⟩ = some (.slice a3 n3 k3) ∧ Src w 157 (.ls a1 n1 k1 m1) ∧ Src w 38 (.ls a2 n2 k2 m2) ∧ Src w 38 (.ls a3 n3 k3 m3) ∧ s0.size ≤ 140737488355328 ∧ ms[i * 4 + 0]? = some (.str s0) ∧ ms[i * 4 + 1]? = some (.ls a1 n1 k1 m1) ∧ ms[i * 4 + 2]? = some (.ls a2 n2 k2 m2) ∧ ms[i * 4 + 3]? = some (.ls a3 n3 k3 m3) := by
  obtain ⟨h, hz⟩ := h
  cases h with
  | ls hT hnc hm hnil hlen hmem hk =>
    rename_i E
    have hE : E = 159 := by
      have := Tryz.underlying60
      rw [this] at hT
      cases hT
      rfl
    subst hE
    cases hz with
    | ls hT2 hb2 hk2 =>
    rename_i E
    have hE : E = 159 := by
      have := Tryz.underlying60
      rw [this] at hT2
      cases hT2
      rfl
    subst hE
    rw [flds_service] at hlen hk hk2
    obtain ⟨b, off, rfl, hb, hc⟩ := hmem (by omega)
    have hg : ∀ j, j < 4 → ∃ m, ms[i * 4 + j]? = some m := fun j hj => ⟨_, List.getElem?_eq_getElem (by simp at hlen; omega)⟩
    have hmod : ∀ j, j < 4 → (i * 4 + j) % 4 = j := fun j hj => by omega
    obtain ⟨q0, hq0⟩ := hg 0 (by omega)
    have ok0 := hk _ _ 9 hq0 (by rw [show ([9, 157, 38, 38] : List TypeId).length = 4 from rfl, hmod 0 (by omega)]; rfl)
    have sz0 := hk2 _ _ 9 hq0 (by rw [show ([9, 157, 38, 38] : List TypeId).length = 4 from rfl, hmod 0 (by omega)]; rfl)
    have cl0 := hc _ _ hq0
    obtain ⟨q1, hq1⟩ := hg 1 (by omega)
    have ok1 := hk _ _ 157 hq1 (by rw [show ([9, 157, 38, 38] : List TypeId).length = 4 from rfl, hmod 1 (by omega)]; rfl)
    have sz1 := hk2 _ _ 157 hq1 (by rw [show ([9, 157, 38, 38] : List TypeId).length = 4 from rfl, hmod 1 (by omega)]; rfl)
    have cl1 := hc _ _ hq1
    obtain ⟨q2, hq2⟩ := hg 2 (by omega)
    have ok2 := hk _ _ 38 hq2 (by rw [show ([9, 157, 38, 38] : List TypeId).length = 4 from rfl, hmod 2 (by omega)]; rfl)
    have sz2 := hk2 _ _ 38 hq2 (by rw [show ([9, 157, 38, 38] : List TypeId).length = 4 from rfl, hmod 2 (by omega)]; rfl)
    have cl2 := hc _ _ hq2
    obtain ⟨q3, hq3⟩ := hg 3 (by omega)
    have ok3 := hk _ _ 38 hq3 (by rw [show ([9, 157, 38, 38] : List TypeId).length = 4 from rfl, hmod 3 (by omega)]; rfl)
    have sz3 := hk2 _ _ 38 hq3 (by rw [show ([9, 157, 38, 38] : List TypeId).length = 4 from rfl, hmod 3 (by omega)]; rfl)
    have cl3 := hc _ _ hq3
    obtain ⟨s0, rfl, _⟩ := ok_str2 Tryz.underlying9 ok0
    obtain ⟨a1, n1, k1, m1, rfl⟩ := ok_ls2 Tryz.underlying157 ok1
    obtain ⟨a2, n2, k2, m2, rfl⟩ := ok_ls2 Tryz.underlying38 ok2
    obtain ⟨a3, n3, k3, m3, rfl⟩ := ok_ls2 Tryz.underlying38 ok3
    refine ⟨b, off, s0, a1, n1, k1, m1, a2, n2, k2, m2, a3, n3, k3, m3, rfl, hb, ?_, ?_, ?_, ?_, ⟨ok1, sz1⟩, ⟨ok2, sz2⟩, ⟨ok3, sz3⟩, sz_str sz0, hq0, hq1, hq2, hq3⟩
    · simpa [Md.val, Nat.add_assoc] using cl0
    · simpa [Md.val, Nat.add_assoc] using cl1
    · simpa [Md.val, Nat.add_assoc] using cl2
    · simpa [Md.val, Nat.add_assoc] using cl3

theorem Tryz.infservice : (Tryz.prog.info? 159).map (fun i => (i.zero, i.size, i.bytes)) = some (some (.agg #[.string ⟨#[]⟩, .slice none 0 0, .slice none 0 0, .slice none 0 0]), 4, 88) := by kernel_rfl

theorem new_service (w : World) (x0 : Value) (x1 : Value) (x2 : Value) (x3 : Value) (t : TypeId) : ∀ (j : Nat) (u : Value), [x0, x1, x2, x3][j]? = some u → (w.alloc (.cells #[x0, x1, x2, x3] t)).cell? (({ block := w.heap.size, off := 0 } : Addr).add j) = some u := by
  intro j u hj
  have hl : j < 4 := (List.getElem?_eq_some_iff.1 hj).1
  match j, hl with
  | 0, _ => simp at hj; subst hj; simp [Addr.add]
  | 1, _ => simp at hj; subst hj; simp [Addr.add]
  | 2, _ => simp at hj; subst hj; simp [Addr.add]
  | 3, _ => simp at hj; subst hj; simp [Addr.add]

theorem hes_service {ms : List Md} {k : Nat} {q0 q1 q2 q3 : Md} (h : ms[k * 4 + 0]? = some q0 ∧ ms[k * 4 + 1]? = some q1 ∧ ms[k * 4 + 2]? = some q2 ∧ ms[k * 4 + 3]? = some q3) : ∀ j, j < [9, 157, 38, 38].length → ms[k * 4 + j]? = [q0, q1, q2, q3][j]? := by
  intro j hj
  have hl : j < 4 := hj
  match j, hl with
  | 0, _ => exact h.1
  | 1, _ => exact h.2.1
  | 2, _ => exact h.2.2.1
  | 3, _ => exact h.2.2.2

set_option maxRecDepth 100000 in
set_option maxHeartbeats 4000000 in
theorem kservices_any (A : TypeId → Prop) (hA : A 5 ∧ A 161 ∧ A 159) (lv : Int) (a : Option Addr) (n c : Nat) (ms : List Md) (w : World) (hs : Hid (Src w 60 (.ls a n c ms))) :
    Calls Tryz.prog 99 #[.slice a n c, .func (.func 100) #[.agg #[.int .i64 lv, .bool false]] #[]] w fun e w' => ∃ v, e = .returned v ∧ Cpy w' w.heap.size A 60 (.ls a n c ms) v ∧ Below w.heap.size w w' := by
  obtain ⟨i0, hi, hz0, hz1, hz2⟩ := info_parts Tryz.infservice
  obtain ⟨hn, hby, hml⟩ : (n : Int) ≤ 9223372036854775807 ∧ n * 88 ≤ 140737488355328 ∧ ms.length = n * 4 := by
    obtain ⟨ok, sz⟩ := hs.out
    refine ⟨?_, ?_, ?_⟩
    · cases ok with
      | ls hT hnc hm => unfold maxLen at hm; omega
    · cases sz with
      | ls hT hb hk =>
        rw [Tryz.underlying60] at hT
        cases hT
        have : Tryz.prog.bytesOf 159 = 88 := by kernel_rfl
        rw [this] at hb
        exact hb
    · cases ok with
      | ls hT hnc hm hnil hlen hmem hk =>
        rw [Tryz.underlying60] at hT
        cases hT
        rw [flds_service] at hlen
        exact hlen
  have HML : Hid _ := hml
  clear hml
  have HA : Hid _ := hA
  clear hA
  go_enter Tryz.func99, Tryz.ntmps99
  go_wp2
  go_loopw [5, 10] (fun v i wr => ∃ k : Nat, k ≤ n ∧ i = .int .i64 (k : Int) ∧ Hid (Eac wr w.heap.size (fun X => A X ∧ X ≠ 159) 159 ms k v) ∧ Hid (Below w.heap.size w wr)) (fun _ i _ => n - (intOf i).toNat)
  case atStart => exact ⟨0, Nat.zero_le _, rfl, Eac.nil _ _ _ _ _, Below.refl _ _⟩
  case round =>
    obtain ⟨k, hk, rfl, HE, HW⟩ := hrel
    have hwz := HW.out.size
    by_cases hlk : k < n
    · obtain ⟨b, off, s0, a1, n1, k1, m1, a2, n2, k2, m2, a3, n3, k3, m3, rfl, hlt, d0, d1, d2, d3, S1, S2, S3, Z0, G0, G1, G2, G3⟩ := service_at (hs.out.under HW.out) k hlk
      have HS1 : Hid _ := S1
      have HS2 : Hid _ := S2
      have HS3 : Hid _ := S3
      have HZ0 : Hid _ := Z0
      have HG : Hid (ms[k * 4 + 0]? = some (.str s0) ∧ ms[k * 4 + 1]? = some (.ls a1 n1 k1 m1) ∧ ms[k * 4 + 2]? = some (.ls a2 n2 k2 m2) ∧ ms[k * 4 + 3]? = some (.ls a3 n3 k3 m3)) := ⟨G0, G1, G2, G3⟩
      clear S1 S2 S3 Z0 G0 G1 G2 G3 hs
      have HX : Hid (Below wr.heap.size wr (wr.alloc (.cells #[.string s0, .slice a1 n1 k1, .slice a2 n2 k2, .slice a3 n3 k3] 159))) := (Below.refl _ _).alloc (Nat.le_refl _) _
      have Q : Hid _ := kservice_any (fun X => A X ∧ X ≠ 159) (show _ from (by have hA := HA.out; exact ⟨⟨hA.1, by decide⟩, ⟨hA.2.1, by decide⟩⟩)) lv s0 a1 n1 k1 m1 a2 n2 k2 m2 a3 n3 k3 m3 (wr.alloc (.cells #[.string s0, .slice a1 n1 k1, .slice a2 n2 k2, .slice a3 n3 k3] 159)) (show Hid _ from Src.under HS1.out HX.out) (show Hid _ from Src.under HS2.out HX.out) (show Hid _ from Src.under HS3.out HX.out) (show Hid _ from HZ0.out)
      go_wp2_with fail
      refine Calls.mono Q.out ?_
      rintro e w2 ⟨p1, r1, p2, r2, p3, r3, rfl, hcp, hb2⟩
      have HB2 : Hid (Below wr.heap.size wr w2) := HX.out.trans (hb2.mono (by simp))
      have HC2 : Hid (CpyL w2 w.heap.size (fun X => A X ∧ X ≠ 159) [9, 157, 38, 38] [.str s0, .ls a1 n1 k1 m1, .ls a2 n2 k2 m2, .ls a3 n3 k3 m3] [.string s0, .slice p1 n1 r1, .slice p2 n2 r2, .slice p3 n3 r3]) := (show CpyL _ _ _ _ _ _ from hcp).from (by simp; omega)
      have HE2 : Hid (Eac w2 w.heap.size (fun X => A X ∧ X ≠ 159) 159 ms k u5) := Eac.under HE.out HB2.out
      clear hcp hb2 Q HX HE
      have hzz := HB2.out.size
      have HE3 : Hid (Eac (w2.alloc (.cells #[.string s0, .slice p1 n1 r1, .slice p2 n2 r2, .slice p3 n3 r3] 159)) w.heap.size (fun X => A X ∧ X ≠ 159) 159 ms k u5) := Eac.under HE2.out ((Below.refl _ _).alloc (Nat.le_refl _) _)
      have HC3 : Hid (CpyL (w2.alloc (.cells #[.string s0, .slice p1 n1 r1, .slice p2 n2 r2, .slice p3 n3 r3] 159)) w.heap.size (fun X => A X ∧ X ≠ 159) [9, 157, 38, 38] [.str s0, .ls a1 n1 k1 m1, .ls a2 n2 k2 m2, .ls a3 n3 k3 m3] [.string s0, .slice p1 n1 r1, .slice p2 n2 r2, .slice p3 n3 r3]) := CpyL.under HC2.out ((Below.refl _ _).alloc (Nat.le_refl _) _)
      obtain ⟨ms', hown0, hall0⟩ := HE3.out
      have HO : Hid ((w2.alloc (.cells #[.string s0, .slice p1 n1 r1, .slice p2 n2 r2, .slice p3 n3 r3] 159)).ownsRow w.heap.size 159 4 u5 k (ms'.map Md.val)) := by rw [flds_service] at hown0; exact hown0
      have HO0 : Hid _ := hown0
      have HALL : Hid _ := hall0
      clear hown0 hall0 HE3 HE2 HC2
      go_wp2_with (at_builtin; refine wpList_append_own_at _ rfl _ _ 60 rfl w.heap.size 159 i0 (.agg #[.string ⟨#[]⟩, .slice none 0 0, .slice none 0 0, .slice none 0 0]) 4 88 Tryz.underlying60 hi hz0 hz1 hz2 rfl (by decide) _ k _ rfl HO.out ⟨w2.heap.size, 0, none⟩ 1 1 [.string s0, .slice p1 n1 r1, .slice p2 n2 r2, .slice p3 n3 r3] rfl rfl (new_service _ _ _ _ _ _) (by intro u hu; simp at hu; rcases hu with rfl | rfl | rfl | rfl <;> rfl) (by unfold maxLen; omega) (by omega) (by simp; omega) ?_; intro v4 w4 hown4 hgrow4 hnil4 hat4; have HP4 : Hid (Eac w4 w.heap.size (fun X => A X ∧ X ≠ 159) 159 ms (k + 1) v4) := Eac.push (fun X h => h.2) HO0.out HALL.out (by rw [flds_service]; exact HC3.out) (by rw [flds_service]; rfl) (by rw [flds_service]; exact hes_service HG.out) hgrow4 (by rw [flds_service]; exact hown4); have HB4 : Hid (Below w.heap.size w w4) := (HW.out.trans ((HB2.out.alloc HB2.out.size _).mono HW.out.size)).grown hgrow4 (by simp; omega) (fun g hg => own_low HO.out hg); obtain ⟨a4, c4, rfl⟩ := own_slice hown4; clear hown4 hgrow4 hnil4 hat4 HO HO0 HALL HC3)
      go_roundw
      case rel => exact ⟨k + 1, by omega, by go_num, HP4.out, HB4.out⟩
      case measure => simp [intOf]; omega
    · have hkn : k = n := by omega
      subst hkn
      have HF : Hid (Cpy wr w.heap.size A 60 (.ls a k c ms) u5) := Eac.all Tryz.underlying60 (fun X h => h.1) HA.out.2.2 (by rw [flds_service]; exact HML.out) HE.out
      go_wp2
      go_ret
      exact ⟨_, rfl, HF.out, HW.out⟩

end Go.Proofs.YtafmoceinamcdaaGreat
