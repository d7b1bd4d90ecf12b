/- Put together by a program out of these texts of mine: VFx, VEx, VEx2. -/
import Derived.Test.YtafmoceinamcdaaGreatBunS4
import Derived.Test.YtafmoceinamcdaaGreatBunS5
import Derived.Test.YtafmoceinamcdaaGreatBunS8
import Derived.Test.YtafmoceinamcdaaGreatBunS9
import Derived.Test.YtafmoceinamcdaaGreatBunS13

namespace Go.Proofs.YtafmoceinamcdaaGreat
open Go.RowKit
set_option linter.unusedVariables false
set_option linter.unusedSimpArgs false

structure Fx (S : Nat → Prop) (w w' : World) : Prop where
  os : w'.os = w.os
  tape : w'.tape = w.tape
  output : w'.output = w.output
  size : w.heap.size ≤ w'.heap.size
  block : ∀ k, k < w.heap.size → ¬ S k → w'.heap[k]? = w.heap[k]?

theorem Fx.refl (S : Nat → Prop) (w : World) : Fx S w w := ⟨rfl, rfl, rfl, Nat.le_refl _, fun _ _ _ => rfl⟩

theorem Fx.trans {S S' : Nat → Prop} {w w1 w2 : World} (h : Fx S w w1) (k : Fx S' w1 w2) (hS : ∀ b, S' b → S b ∨ w.heap.size ≤ b) : Fx S w w2 :=
  ⟨k.os.trans h.os, k.tape.trans h.tape, k.output.trans h.output, Nat.le_trans h.size k.size, fun i hi hn => (k.block i (Nat.lt_of_lt_of_le hi h.size) (fun e => by
    rcases hS i e with e | e
    · exact hn e
    · omega)).trans (h.block i hi hn)⟩

theorem Fx.of_below {S : Nat → Prop} {w w' : World} (h : Below w.heap.size w w') : Fx S w w' := ⟨h.os, h.tape, h.output, h.size, fun k hk _ => h.block k hk⟩

theorem Fx.of_grown {S : Nat → Prop} {w w' : World} {b : Nat} (h : w.grownBy w' (some b)) (hS : S b) : Fx S w w' := ⟨h.os, h.tape, h.output, h.size, fun k hk hn => h.block k hk (fun e => by cases e; exact hn hS)⟩

theorem Fx.mono {S S' : Nat → Prop} {w w' : World} (h : Fx S w w') (hS : ∀ b, S b → S' b) : Fx S' w w' := ⟨h.os, h.tape, h.output, h.size, fun k hk hn => h.block k hk (fun e => hn (hS k e))⟩

theorem Fx.to_below {S : Nat → Prop} {w w' : World} (h : Fx S w w') {B : Nat} (hB : B ≤ w.heap.size) (hS : ∀ b, S b → B ≤ b) : Below B w w' := ⟨h.os, h.tape, h.output, h.size, fun k hk => h.block k (by omega) (fun e => by have := hS k e; omega)⟩

theorem Fx.ob {S : Nat → Prop} {w w' : World} (h : Fx S w w') {b : Nat} {c : Array Value} {T : TypeId} (ho : Ob w b c T) (hb : ¬ S b) : Ob w' b c T := ⟨(h.block b ho.lt hb).trans ho.eq⟩

inductive Blk : Md → Nat → Prop
  | here {x : Addr} {n c : Nat} {ms : List Md} : Blk (.ls (some x) n c ms) x.block
  | there {a : Option Addr} {n c : Nat} {ms : List Md} {i : Nat} {m : Md} {b : Nat} (hi : ms[i]? = some m) (h : Blk m b) : Blk (.ls a n c ms) b

theorem owns_fx {S : Nat → Prop} {w w' : World} (h : Fx S w w') {lo sz n : Nat} {E : TypeId} {v : Value} {xs : List Value} (ho : w.ownsRow lo E sz v n xs) (hb : ∀ b, v.ownBlock = some b → ¬ S b) : w'.ownsRow lo E sz v n xs := by
  refine ⟨ho.1, ?_⟩
  rcases ho.2 with h0 | ⟨g, cap, cur, rfl, h1, h2, h3⟩
  · exact .inl h0
  · exact .inr ⟨g, cap, cur, rfl, h1, (h.block g (Array.getElem?_eq_some_iff.1 h2).1 (hb g rfl)).trans h2, h3⟩

theorem Own.fx {P : Program} {S : Nat → Prop} {w w' : World} (hf : Fx S w w') {lo : Nat} {A : TypeId → Prop} {T : TypeId} {m : Md} (h : Own P w lo A T m) (hb : ∀ b, Blk m b → ¬ S b) : Own P w' lo A T m := by
  induction h with
  | str hT => exact .str hT
  | num hT => exact .num hT
  | tru hT => exact .tru hT
  | ls hT hA ho hk ih =>
    refine .ls hT hA (owns_fx hf ho (fun b e => hb b ?_)) (fun i m F hi hF => ih i m F hi hF (fun b hB => hb b (.there hi hB)))
    rcases ho.2 with ⟨h0, _⟩ | ⟨g, cap, cur, h0, _⟩
    · cases h0
      cases e
    · cases h0
      cases e
      exact .here

theorem Own.typed {P : Program} {w : World} {lo : Nat} {A : TypeId → Prop} {T : TypeId} {m : Md} (h : Own P w lo A T m) : ∀ b, Blk m b → lo ≤ b ∧ ∃ cs E, A E ∧ w.heap[b]? = some (.cells cs E (0, 0)) := by
  induction h with
  | str hT => intro b hb; cases hb
  | num hT => intro b hb; cases hb
  | tru hT => intro b hb; cases hb
  | ls hT hA ho hk ih =>
    rename_i T E a n c ms
    intro b hb
    cases hb with
    | here =>
      rcases ho.2 with ⟨h0, _⟩ | ⟨g, cap, cur, h0, h1, h2, _⟩
      · cases h0
      · cases h0
        exact ⟨h1, _, _, hA, h2⟩
    | there hi hB =>
      rename_i i m
      have hl : ms.length = n * (flds P E).length := by simpa using ho.1
      have hil := (List.getElem?_eq_some_iff.1 hi).1
      have hz : 0 < (flds P E).length := by
        rcases Nat.eq_zero_or_pos (flds P E).length with e | e
        · rw [e] at hl; omega
        · exact e
      exact ih i m _ hi (List.getElem?_eq_getElem (Nat.mod_lt _ hz)) b hB

theorem Own.fam {P : Program} {w : World} {lo : Nat} {A A' : TypeId → Prop} {L : List TypeId} (hL : famT P L = true) (hA' : ∀ T ∈ L, ∀ E, P.underlying T = some (.slice E) → A' E) {T : TypeId} {m : Md} (h : Own P w lo A T m) (hT : T ∈ L) : Own P w lo A' T m := by
  induction h with
  | str h => exact .str h
  | num h => exact .num h
  | tru h => exact .tru h
  | ls hu hA ho hk ih =>
    rename_i T E a n c ms
    refine .ls hu (hA' T hT E hu) ho (fun i m F hi hF => ih i m F hi hF ?_)
    have h1 := List.all_eq_true.1 hL T hT
    rw [hu] at h1
    simp only [memT, Bool.and_eq_true, List.all_eq_true, decide_eq_true_eq] at h1
    have := h1.1.2 F (List.mem_of_getElem? hF)
    simpa using this.1

structure Ex (w : World) (be : Nat) (D : Nat → Prop) (d0 c : Nat) (h : Sy) : Prop where
  low : ∀ b, D b → d0 ≤ b ∧ ∃ cs, w.heap[b]? = some (.cells cs 9 (0, 0))
  map : ∃ n ge, Mg w be n ge ∧
    (∀ k v, ge k = some v → ∃ (m : Nat) (xs : List ByteArray), w.ownsRow 0 9 1 v m (xs.map Value.string) ∧ m ≤ c ∧ (∀ x ∈ xs, ∃ H, h x = some (6, H)) ∧ ∀ b, v.ownBlock = some b → D b) ∧
    (∀ k k' v v' b, ge k = some v → ge k' = some v' → v.ownBlock = some b → v'.ownBlock = some b → k = k')

theorem Ex.fx {S : Nat → Prop} {w w' : World} (hf : Fx S w w') {be : Nat} {D : Nat → Prop} {d0 c : Nat} {h : Sy} (he : Ex w be D d0 c h) (hS : ∀ b, D b → ¬ S b) (hbe : ¬ S be) : Ex w' be D d0 c h := by
  obtain ⟨h1, n, ge, h2, h3, h4⟩ := he
  refine ⟨fun b hb => ⟨(h1 b hb).1, ?_⟩, n, ge, ?_, fun k v hk => ?_, h4⟩
  · obtain ⟨cs, hc⟩ := (h1 b hb).2
    exact ⟨cs, (hf.block b (Array.getElem?_eq_some_iff.1 hc).1 (hS b hb)).trans hc⟩
  · obtain ⟨es, clock, hb, r⟩ := h2
    exact ⟨es, clock, (hf.block be (Array.getElem?_eq_some_iff.1 hb).1 hbe).trans hb, r⟩
  · obtain ⟨m, xs, a1, a2, a3, a4⟩ := h3 k v hk
    exact ⟨m, xs, owns_fx hf a1 (fun b e => hS b (a4 b e)), a2, a3, a4⟩

theorem Ex.more {w : World} {be : Nat} {D : Nat → Prop} {d0 c c' : Nat} {h h' : Sy} (he : Ex w be D d0 c h) (hc : c ≤ c') (hh : ∀ x H, h x = some (6, H) → ∃ H', h' x = some (6, H')) : Ex w be D d0 c' h' := by
  obtain ⟨h1, n, ge, h2, h3, h4⟩ := he
  refine ⟨h1, n, ge, h2, fun k v hk => ?_, h4⟩
  obtain ⟨m, xs, a1, a2, a3, a4⟩ := h3 k v hk
  exact ⟨m, xs, a1, by omega, fun x hx => (a3 x hx).elim fun H e => hh x H e, a4⟩

def Zw (w : World) (Z : Nat → Nat → Prop) : Prop := ∀ b o, Z b o → (∃ cs, w.heap[b]? = some (.cells cs 45 (0, 0))) ∧ ∃ x, w.cell? ⟨b, o + 1, none⟩ = some (.int .i64 x)

def Rz (Z : Nat → Nat → Prop) (p : Option Addr) : Prop := ∃ b o, p = some ⟨b, o, none⟩ ∧ Z b o

theorem Zw.fx {S : Nat → Prop} {w w' : World} (hf : Fx S w w') {Z : Nat → Nat → Prop} (hz : Zw w Z) (hS : ∀ b cs, w.heap[b]? = some (.cells cs 45 (0, 0)) → ¬ S b) : Zw w' Z := by
  intro b o hb
  obtain ⟨⟨cs, h1⟩, x, h2⟩ := hz b o hb
  have h3 := hf.block b (Array.getElem?_eq_some_iff.1 h1).1 (hS b cs h1)
  exact ⟨⟨cs, h3.trans h1⟩, x, (World.cell?_of_block (a := ⟨b, o + 1, none⟩) h3).trans h2⟩

structure Pz (w : World) (bp bs be : Nat) (vf : Value) (h : Sy) (D : Nat → Prop) (d0 c : Nat) (Z : Nat → Nat → Prop) : Prop where
  px : Px (Rz Z) w bp bs be vf h
  ex : Ex w be D d0 c h
  zw : Zw w Z

def Pw (w : World) (bp bs be : Nat) (vf : Value) (h : Sy) (D : Nat → Prop) (d0 c : Nat) : Prop := ∃ Z, Pz w bp bs be vf h D d0 c Z

def Sp (bs be : Nat) (D : Nat → Prop) (b : Nat) : Prop := b = bs ∨ b = be ∨ D b

def Dg (W : World) (D D' : Nat → Prop) : Prop := ∀ b, D' b → D b ∨ W.heap.size ≤ b

theorem Px.be_map {R : Option Addr → Prop} {w : World} {bp bs be : Nat} {vf : Value} {h : Sy} (hp : Px R w bp bs be vf h) : be ≠ bs ∧ bp ≠ bs ∧ bp ≠ be := by
  obtain ⟨n, g, h1, _⟩ := hp
  exact ⟨h1.ne.2.1, h1.ne.1, h1.ne.2.2⟩

theorem Pw.not_row {w : World} {bp bs be : Nat} {vf : Value} {h : Sy} {D : Nat → Prop} {d0 c : Nat} (hp : Pw w bp bs be vf h D d0 c) : ¬ D bs ∧ ¬ D be ∧ ¬ D bp := by
  obtain ⟨Z, ⟨n, g, h1, _⟩, h2, h3⟩ := hp
  obtain ⟨es, clock, hb, _⟩ := h1.sym
  obtain ⟨n2, ge, ⟨es2, clock2, hb2, _⟩, _⟩ := h2.map
  refine ⟨fun e => ?_, fun e => ?_, fun e => ?_⟩
  · obtain ⟨cs, hc⟩ := (h2.low _ e).2
    rw [hb] at hc
    cases hc
  · obtain ⟨cs, hc⟩ := (h2.low _ e).2
    rw [hb2] at hc
    cases hc
  · obtain ⟨cs, hc⟩ := (h2.low _ e).2
    rw [h1.blk.eq] at hc
    cases hc

theorem Pw.other {w : World} {bp bs be : Nat} {vf : Value} {h : Sy} {D : Nat → Prop} {d0 c : Nat} (hp : Pw w bp bs be vf h D d0 c) {b : Nat} {cs : Array Value} {T : TypeId} (hb : w.heap[b]? = some (.cells cs T (0, 0))) (hT : T ≠ 9) : ¬ Sp bs be D b := by
  obtain ⟨Z, ⟨n, g, h1, _⟩, h2, h3⟩ := hp
  obtain ⟨es, clock, hbs, _⟩ := h1.sym
  obtain ⟨n2, ge, ⟨es2, clock2, hb2, _⟩, _⟩ := h2.map
  rintro (rfl | rfl | e)
  · rw [hbs] at hb; cases hb
  · rw [hb2] at hb; cases hb
  · obtain ⟨cs', hc⟩ := (h2.low _ e).2
    rw [hb] at hc
    cases hc
    exact hT rfl

theorem Pw.lt {w : World} {bp bs be : Nat} {vf : Value} {h : Sy} {D : Nat → Prop} {d0 c : Nat} (hp : Pw w bp bs be vf h D d0 c) : bp < w.heap.size ∧ bs < w.heap.size ∧ be < w.heap.size := by
  obtain ⟨Z, ⟨n, g, h1, _⟩, h2, h3⟩ := hp
  obtain ⟨n2, ge, h4, _⟩ := h2.map
  exact ⟨h1.blk.lt, h1.sym.lt, h4.lt⟩

theorem Pz.put {w w' : World} {bp bs be : Nat} {vf : Value} {h h' : Sy} {D : Nat → Prop} {d0 c : Nat} {Z : Nat → Nat → Prop} (hp : Pz w bp bs be vf h D d0 c Z) (hg : w.grownBy w' (some bs)) (hh : ∀ x H, h x = some (6, H) → ∃ H', h' x = some (6, H')) (hx : Px (Rz Z) w' bp bs be vf h') : Pz w' bp bs be vf h' D d0 c Z := by
  have hn := Pw.not_row ⟨Z, hp⟩
  have hne := fun b cs T hb hT => @Pw.other w bp bs be vf h D d0 c ⟨Z, hp⟩ b cs T hb hT
  have hf : Fx (fun b => b = bs) w w' := .of_grown hg rfl
  exact ⟨hx, (hp.ex.fx hf (fun b hb e => hn.1 (e ▸ hb)) hp.px.be_map.1).more (Nat.le_refl _) hh, hp.zw.fx hf (fun b cs hb e => hne b cs _ hb (by decide) (.inl e))⟩

theorem Pz.below {w w' : World} {bp bs be : Nat} {vf : Value} {h : Sy} {D : Nat → Prop} {d0 c : Nat} {Z : Nat → Nat → Prop} (hp : Pz w bp bs be vf h D d0 c Z) {B : Nat} (hb : Below B w w') (hB : w.heap.size ≤ B) : Pz w' bp bs be vf h D d0 c Z := by
  have hf : Fx (fun _ => False) w w' := .of_below (hb.mono hB)
  exact ⟨hp.px.below hb hB, hp.ex.fx hf (fun _ _ e => e) (fun e => e), hp.zw.fx hf (fun _ _ _ e => e)⟩

theorem Pw.below {w w' : World} {bp bs be : Nat} {vf : Value} {h : Sy} {D : Nat → Prop} {d0 c : Nat} (hp : Pw w bp bs be vf h D d0 c) {B : Nat} (hb : Below B w w') (hB : w.heap.size ≤ B) : Pw w' bp bs be vf h D d0 c := by
  obtain ⟨Z, hp⟩ := hp
  exact ⟨Z, hp.below hb hB⟩

theorem insl_keeps (H : ByteArray) : ∀ (l : List (ByteArray × Int)) (h h' : Sy), insl H h l = .ok h' → ∀ x y, h x = some y → h' x = some y
  | [], h, h', e, x, y, hx => by cases e; exact hx
  | (F, kd) :: r, h, h', e, x, y, hx => by
    unfold insl at e
    split at e
    · rename_i hF
      refine insl_keeps H r _ h' e x y ?_
      unfold syPut
      rw [if_neg]
      · exact hx
      · rintro rfl
        rw [hx] at hF
        cases hF
    · cases e

theorem pk_keeps (H : ByteArray) : ∀ (f : Nat) (s : List Int) (h h' : Sy), pk H f h s = .ok h' → ∀ x y, h x = some y → h' x = some y
  | 0, s, h, h', e, x, y, hx => by cases e; exact hx
  | f + 1, s, h, h', e, x, y, hx => by
    unfold pk at e
    split at e
    · cases e; exact hx
    · split at e
      · split at e
        · cases e; exact hx
        · cases e
      · rename_i hn
        refine pk_keeps H f _ _ h' e x y ?_
        unfold syPut
        rw [if_neg]
        · exact hx
        · rintro rfl
          rw [hx] at hn
          cases hn

theorem Fx.own {S : Nat → Prop} {w w' : World} (hf : Fx S w w') {bp bs be : Nat} {vf : Value} {h : Sy} {D : Nat → Prop} {d0 c : Nat} (hp : Pw w bp bs be vf h D d0 c) (hS : ∀ b, S b → Sp bs be D b) {lo : Nat} {A : TypeId → Prop} (hA : ∀ E, A E → E ≠ 9) {T : TypeId} {m : Md} (ho : Own Tryz.prog w lo A T m) : Own Tryz.prog w' lo A T m :=
  ho.fx hf (fun b hb e => by
    obtain ⟨_, cs, E, hE, hc⟩ := ho.typed b hb
    exact hp.other hc (hA E hE) (hS b e))

theorem wpList_append_eqX {w : World} {ops : Array Oper} {rest : List Oper} {o : Oper} {f : Act} {Q : Exit → Act → World → Prop} (hgd : o.guard = none) (s x : Operand) (T : TypeId)
    (ho : o.op = .call { callee := .builtin .append, args := #[s, x], argTypes := #[T, T] }) {vs vx v' : Value} {w' : World} (hs : f.eval s = vs) (hx : f.eval x = vx) (hrun : (Builtin.append_ #[T, T] o.type #[vs, vx]).run Tryz.prog w = .ok v' w') (h : wpList Tryz.prog ops Q rest (f.put o.dst v') w') :
    wpList Tryz.prog ops Q (o :: rest) f w := by
  refine wpList_plain hgd fun K hK => ?_
  unfold Oper.wp
  simp [execOp, ho, resolve, invoke, builtin, hs, hx, hrun, Result.andThen]
  exact hK _ _ h

theorem extMap : Tryz.prog.underlying 94 = some (.map 9 30) := by kernel_rfl

theorem zeroTxs (w : World) : (zeroValue 30).run Tryz.prog w = .ok (.slice none 0 0) w := by kernel_rfl

theorem Gs.px {R R' : Option Addr → Prop} (hR : ∀ p, R p → R' p) {w : World} {bp bs be : Nat} {vf : Value} {h : Sy} (hp : Px R w bp bs be vf h) : Px R' w bp bs be vf h := by
  obtain ⟨n, g, h1, h2⟩ := hp
  exact ⟨n, g, h1, h2.mono hR⟩

theorem own_field {w : World} {lo : Nat} {A : TypeId → Prop} {a : Option Addr} {n c : Nat} {ms : List Md} (h : Own Tryz.prog w lo A 33 (.ls a n c ms)) (hn : Nm (.ls a n c ms)) (i : Nat) (hi : i < n) :
    ∃ g s0 x1 x2 x3 s4 s5 s6 y7 x8 s9 y10 a11 n11 c11 a12 n12 c12, a = some ⟨g, 0, none⟩ ∧ g < w.heap.size ∧ (∃ cs, w.heap[g]? = some (.cells cs 45 (0, 0))) ∧ w.cell? ⟨g, i * 13, none⟩ = some (.string s0) ∧ w.cell? ⟨g, i * 13 + 1, none⟩ = some (.int .i64 x1) ∧ w.cell? ⟨g, i * 13 + 2, none⟩ = some (.int .i64 x2) ∧ w.cell? ⟨g, i * 13 + 3, none⟩ = some (.int .i64 x3) ∧ w.cell? ⟨g, i * 13 + 4, none⟩ = some (.string s4) ∧ w.cell? ⟨g, i * 13 + 5, none⟩ = some (.string s5) ∧ w.cell? ⟨g, i * 13 + 6, none⟩ = some (.string s6) ∧ w.cell? ⟨g, i * 13 + 7, none⟩ = some (.bool y7) ∧ w.cell? ⟨g, i * 13 + 8, none⟩ = some (.int .i64 x8) ∧ w.cell? ⟨g, i * 13 + 9, none⟩ = some (.string s9) ∧ w.cell? ⟨g, i * 13 + 10, none⟩ = some (.bool y10) ∧ w.cell? ⟨g, i * 13 + 11, none⟩ = some (.slice a11 n11 c11) ∧ w.cell? ⟨g, i * 13 + 12, none⟩ = some (.slice a12 n12 c12) ∧ s0.size ≤ 2000000 ∧ s5.size ≤ 2000000 ∧ strAt ms (i * 13) = s0 := by
  obtain ⟨_, hl, hm, hk⟩ := h.at Tryz.underlying33 (by rw [flds_field]; decide)
  rw [flds_field] at hl hk
  obtain ⟨g, rfl, hg, hcs, hc⟩ := hm (by omega)
  have hq : ∀ j, j < 13 → ∃ m, ms[i * 13 + j]? = some m := fun j hj => ⟨_, List.getElem?_eq_getElem (by simp at hl; omega)⟩
  have hmod : ∀ j, j < 13 → (i * 13 + j) % 13 = j := fun j hj => by omega
  obtain ⟨q0, h0⟩ := hq 0 (by omega)
  have o0 := hk _ _ 9 h0 (by rw [show ([9, 2, 3, 3, 9, 9, 9, 4, 3, 9, 4, 38, 38] : List TypeId).length = 13 from rfl, hmod 0 (by omega)]; rfl)
  obtain ⟨q1, h1⟩ := hq 1 (by omega)
  have o1 := hk _ _ 2 h1 (by rw [show ([9, 2, 3, 3, 9, 9, 9, 4, 3, 9, 4, 38, 38] : List TypeId).length = 13 from rfl, hmod 1 (by omega)]; rfl)
  obtain ⟨q2, h2⟩ := hq 2 (by omega)
  have o2 := hk _ _ 3 h2 (by rw [show ([9, 2, 3, 3, 9, 9, 9, 4, 3, 9, 4, 38, 38] : List TypeId).length = 13 from rfl, hmod 2 (by omega)]; rfl)
  obtain ⟨q3, h3⟩ := hq 3 (by omega)
  have o3 := hk _ _ 3 h3 (by rw [show ([9, 2, 3, 3, 9, 9, 9, 4, 3, 9, 4, 38, 38] : List TypeId).length = 13 from rfl, hmod 3 (by omega)]; rfl)
  obtain ⟨q4, h4⟩ := hq 4 (by omega)
  have o4 := hk _ _ 9 h4 (by rw [show ([9, 2, 3, 3, 9, 9, 9, 4, 3, 9, 4, 38, 38] : List TypeId).length = 13 from rfl, hmod 4 (by omega)]; rfl)
  obtain ⟨q5, h5⟩ := hq 5 (by omega)
  have o5 := hk _ _ 9 h5 (by rw [show ([9, 2, 3, 3, 9, 9, 9, 4, 3, 9, 4, 38, 38] : List TypeId).length = 13 from rfl, hmod 5 (by omega)]; rfl)
  obtain ⟨q6, h6⟩ := hq 6 (by omega)
  have o6 := hk _ _ 9 h6 (by rw [show ([9, 2, 3, 3, 9, 9, 9, 4, 3, 9, 4, 38, 38] : List TypeId).length = 13 from rfl, hmod 6 (by omega)]; rfl)
  obtain ⟨q7, h7⟩ := hq 7 (by omega)
  have o7 := hk _ _ 4 h7 (by rw [show ([9, 2, 3, 3, 9, 9, 9, 4, 3, 9, 4, 38, 38] : List TypeId).length = 13 from rfl, hmod 7 (by omega)]; rfl)
  obtain ⟨q8, h8⟩ := hq 8 (by omega)
  have o8 := hk _ _ 3 h8 (by rw [show ([9, 2, 3, 3, 9, 9, 9, 4, 3, 9, 4, 38, 38] : List TypeId).length = 13 from rfl, hmod 8 (by omega)]; rfl)
  obtain ⟨q9, h9⟩ := hq 9 (by omega)
  have o9 := hk _ _ 9 h9 (by rw [show ([9, 2, 3, 3, 9, 9, 9, 4, 3, 9, 4, 38, 38] : List TypeId).length = 13 from rfl, hmod 9 (by omega)]; rfl)
  obtain ⟨q10, h10⟩ := hq 10 (by omega)
  have o10 := hk _ _ 4 h10 (by rw [show ([9, 2, 3, 3, 9, 9, 9, 4, 3, 9, 4, 38, 38] : List TypeId).length = 13 from rfl, hmod 10 (by omega)]; rfl)
  obtain ⟨q11, h11⟩ := hq 11 (by omega)
  have o11 := hk _ _ 38 h11 (by rw [show ([9, 2, 3, 3, 9, 9, 9, 4, 3, 9, 4, 38, 38] : List TypeId).length = 13 from rfl, hmod 11 (by omega)]; rfl)
  obtain ⟨q12, h12⟩ := hq 12 (by omega)
  have o12 := hk _ _ 38 h12 (by rw [show ([9, 2, 3, 3, 9, 9, 9, 4, 3, 9, 4, 38, 38] : List TypeId).length = 13 from rfl, hmod 12 (by omega)]; rfl)
  obtain ⟨s0, rfl⟩ := own_str Tryz.underlying9 o0
  obtain ⟨x1, rfl⟩ := own_num Tryz.underlying2 o1
  obtain ⟨x2, rfl⟩ := own_num Tryz.underlying3 o2
  obtain ⟨x3, rfl⟩ := own_num Tryz.underlying3 o3
  obtain ⟨s4, rfl⟩ := own_str Tryz.underlying9 o4
  obtain ⟨s5, rfl⟩ := own_str Tryz.underlying9 o5
  obtain ⟨s6, rfl⟩ := own_str Tryz.underlying9 o6
  obtain ⟨y7, rfl⟩ := own_tru Tryz.underlying4 o7
  obtain ⟨x8, rfl⟩ := own_num Tryz.underlying3 o8
  obtain ⟨s9, rfl⟩ := own_str Tryz.underlying9 o9
  obtain ⟨y10, rfl⟩ := own_tru Tryz.underlying4 o10
  obtain ⟨a11, n11, c11, m11, rfl⟩ := own_ls Tryz.underlying38 o11
  obtain ⟨a12, n12, c12, m12, rfl⟩ := own_ls Tryz.underlying38 o12
  refine ⟨g, s0, x1, x2, x3, s4, s5, s6, y7, x8, s9, y10, a11, n11, c11, a12, n12, c12, rfl, hg, hcs, by simpa [Md.val] using hc _ _ h0, by simpa [Md.val] using hc _ _ h1, by simpa [Md.val] using hc _ _ h2, by simpa [Md.val] using hc _ _ h3, by simpa [Md.val] using hc _ _ h4, by simpa [Md.val] using hc _ _ h5, by simpa [Md.val] using hc _ _ h6, by simpa [Md.val] using hc _ _ h7, by simpa [Md.val] using hc _ _ h8, by simpa [Md.val] using hc _ _ h9, by simpa [Md.val] using hc _ _ h10, by simpa [Md.val] using hc _ _ h11, by simpa [Md.val] using hc _ _ h12, nm_str (nm_at hn h0), nm_str (nm_at hn h5), ?_⟩
  have : ms[i * 13]? = some (.str s0) := h0
  simp [strAt, this]

theorem run_append_tx (W : World) (v : Value) (m : Nat) (xs : List Value) (hown : W.ownsRow 0 9 1 v m xs) (hm : m ≤ 1000000000) (a : Nat) (F : ByteArray) (ha : Ob W a #[.string F] 9) (ty : TypeId) :
    ∃ v' w', (Builtin.append_ #[30, 30] ty #[v, .slice (some ⟨a, 0, none⟩) 1 1]).run Tryz.prog W = .ok v' w' ∧ w'.ownsRow 0 9 1 v' (m + 1) (xs ++ [.string F]) ∧ W.grownBy w' v.ownBlock ∧ (v'.ownBlock = v.ownBlock ∨ v'.ownBlock = some W.heap.size) ∧ ∃ ad n c, v' = .slice ad n c := by
  obtain ⟨i0, hi, z1, z2, z3⟩ : ∃ i, Tryz.prog.info? 9 = some i ∧ i.zero = some (.string ⟨#[]⟩) ∧ i.size = 1 ∧ i.bytes = 16 := by
    have : (Tryz.prog.info? 9).map (fun i => (i.zero, i.size, i.bytes)) = some (some (.string ⟨#[]⟩), 1, 16) := by kernel_rfl
    cases hq : Tryz.prog.info? 9 with
    | none => rw [hq] at this; cases this
    | some i =>
      rw [hq] at this
      have h := Option.some.inj this
      simp only [Prod.mk.injEq] at h
      exact ⟨i, rfl, h.1, h.2.1, h.2.2⟩
  obtain ⟨v', w', hr, ho, hg, _, hl⟩ := run_append_own_at (P := Tryz.prog) W 0 30 ty 9 i0 _ 1 16 Tryz.underlying30 hi z1 z2 z3 rfl (by omega) v m xs hown ⟨a, 0, none⟩ 1 1 [.string F] rfl (fun j u hj => by
    cases j with
    | zero => simp at hj; subst hj; exact ha.cell 0 rfl
    | succ j => simp at hj) (fun u hu => by simp at hu; subst hu; rfl) (by unfold maxLen; omega) (by omega) (Nat.zero_le _)
  refine ⟨v', w', hr, ho, hg, hl, ?_⟩
  rcases ho.2 with ⟨h0, _⟩ | ⟨g, cap, cur, h0, _⟩
  · exact ⟨_, _, _, h0⟩
  · exact ⟨_, _, _, h0⟩

theorem Ex.row {w : World} {D : Nat → Prop} {c : Nat} {h : Sy} {ge : ByteArray → Option Value}
    (h3 : ∀ k v, ge k = some v → ∃ (m : Nat) (xs : List ByteArray), w.ownsRow 0 9 1 v m (xs.map Value.string) ∧ m ≤ c ∧ (∀ x ∈ xs, ∃ H, h x = some (6, H)) ∧ ∀ b, v.ownBlock = some b → D b) (k : ByteArray) :
    ∃ (m : Nat) (xs : List ByteArray), w.ownsRow 0 9 1 (mlook (.slice none 0 0) (ge k) false) m (xs.map Value.string) ∧ m ≤ c ∧ (∀ x ∈ xs, ∃ H, h x = some (6, H)) ∧ ∀ b, (mlook (.slice none 0 0) (ge k) false).ownBlock = some b → D b := by
  cases hk : ge k with
  | none => exact ⟨0, [], World.ownsRow_nil _ _ _ _, Nat.zero_le _, (fun x hx => by cases hx), (fun b hb => by cases hb)⟩
  | some v => exact h3 k v hk

theorem ex_more {w w2 w3 : World} {be : Nat} {D : Nat → Prop} {d0 c n' : Nat} {h : Sy} {ge : ByteArray → Option Value} (hlow : ∀ b, D b → d0 ≤ b ∧ ∃ cs, w.heap[b]? = some (.cells cs 9 (0, 0)))
    (h3 : ∀ k v, ge k = some v → ∃ (m : Nat) (xs : List ByteArray), w.ownsRow 0 9 1 v m (xs.map Value.string) ∧ m ≤ c ∧ (∀ x ∈ xs, ∃ H, h x = some (6, H)) ∧ ∀ b, v.ownBlock = some b → D b)
    (h4 : ∀ k k' v v' b, ge k = some v → ge k' = some v' → v.ownBlock = some b → v'.ownBlock = some b → k = k')
    (hd : d0 ≤ w.heap.size) (hbe : ¬ D be) (hbel : be < w.heap.size) (k F : ByteArray) (hF : ∃ H, h F = some (6, H)) {m : Nat} {xs : List ByteArray} {v' : Value} (hxs : ∀ x ∈ xs, ∃ H, h x = some (6, H)) (hm : m ≤ c)
    (ho : w2.ownsRow 0 9 1 v' (m + 1) (xs.map Value.string ++ [.string F])) (hg : w.grownBy w2 (mlook (.slice none 0 0) (ge k) false).ownBlock) (hv : v'.ownBlock = (mlook (.slice none 0 0) (ge k) false).ownBlock ∨ v'.ownBlock = some w.heap.size) (hvD : ∀ b, (mlook (.slice none 0 0) (ge k) false).ownBlock = some b → D b)
    (hup : Mg w3 be n' (fun x => if x = k then some v' else ge x)) (hg3 : w2.grownBy w3 (some be)) :
    Ex w3 be (fun b => (D b ∧ (mlook (.slice none 0 0) (ge k) false).ownBlock ≠ some b) ∨ v'.ownBlock = some b) d0 (c + 1) h := by
  have hsz := hg.size
  have old : ∀ b, D b → (mlook (.slice none 0 0) (ge k) false).ownBlock ≠ some b → ∀ o, w.heap[b]? = some o → w3.heap[b]? = some o := fun b hb hne o ho => by
    have hlt := (Array.getElem?_eq_some_iff.1 ho).1
    rw [hg3.block b (by omega) (fun e => hbe (by cases e; exact hb)), hg.block b hlt (fun e => hne e.symm)]
    exact ho
  have new : ∀ b, v'.ownBlock = some b → ∃ cur, w3.heap[b]? = some (.cells cur 9 (0, 0)) := fun b hb => by
    rcases ho.2 with ⟨h0, _⟩ | ⟨g, cap, cur, h0, _, h2, _⟩
    · rw [h0] at hb; cases hb
    · rw [h0] at hb
      cases hb
      have hlt := (Array.getElem?_eq_some_iff.1 h2).1
      refine ⟨cur, (hg3.block g hlt (fun e => ?_)).trans h2⟩
      cases e
      have hv0 : v'.ownBlock = some be := by rw [h0]; rfl
      rcases hv with e | e
      · exact hbe (hvD be (e.symm.trans hv0))
      · rw [hv0] at e
        cases e
        omega
  have hbne : ∀ b, v'.ownBlock = some b → b ≠ be := fun b hb e => by
    subst e
    rcases hv with e | e
    · exact hbe (hvD b (e.symm.trans hb))
    · rw [hb] at e
      cases e
      omega
  refine ⟨fun b hb => ?_, n', _, hup, fun x u hx => ?_, fun x x' u u' b hx hx' hb hb' => ?_⟩
  · by_cases hb1 : v'.ownBlock = some b
    · refine ⟨?_, new b hb1⟩
      rcases hv with e | e
      · exact (hlow b (hvD b (e.symm.trans hb1))).1
      · rw [hb1] at e
        cases e
        exact hd
    · obtain ⟨hD, hk⟩ := hb.resolve_right hb1
      obtain ⟨hl, cs, hc⟩ := hlow b hD
      exact ⟨hl, cs, old b hD hk _ hc⟩
  · by_cases hxk : x = k
    · subst hxk
      rw [if_pos rfl] at hx
      cases hx
      refine ⟨m + 1, xs ++ [F], ?_, by omega, fun y hy => ?_, fun b hb => .inr hb⟩
      · rw [List.map_append]
        refine owns_fx (S := fun b => b = be) (.of_grown hg3 rfl) ho (fun b hb => hbne b hb)
      · rcases List.mem_append.1 hy with hy | hy
        · exact hxs y hy
        · simp at hy
          subst hy
          exact hF
    · rw [if_neg hxk] at hx
      obtain ⟨m2, ys, a1, a2, a3, a4⟩ := h3 x u hx
      have hxb : ∀ b, u.ownBlock = some b → (mlook (.slice none 0 0) (ge k) false).ownBlock ≠ some b := fun b hb e => by
        cases hk : ge k with
        | none => rw [hk] at e; cases e
        | some v => rw [hk] at e; exact hxk (h4 x k u v b hx hk hb e)
      refine ⟨m2, ys, ⟨a1.1, ?_⟩, by omega, a3, fun b hb => .inl ⟨a4 b hb, hxb b hb⟩⟩
      rcases a1.2 with h0 | ⟨g, cap, cur, h0, b1, b2, b3⟩
      · exact .inl h0
      · have hgb : u.ownBlock = some g := by rw [h0]; rfl
        exact .inr ⟨g, cap, cur, h0, b1, old g (a4 g hgb) (hxb g hgb) _ b2, b3⟩
  · by_cases hxk : x = k
    · by_cases hxk' : x' = k
      · rw [hxk, hxk']
      · rw [if_pos hxk] at hx
        rw [if_neg hxk'] at hx'
        cases hx
        exfalso
        rcases hv with e | e
        · cases hk : ge k with
          | none => rw [hk] at e; rw [e] at hb; cases hb
          | some v => rw [hk] at e; exact hxk' (h4 x' k u' v b hx' hk hb' (e.symm.trans hb))
        · rw [hb] at e
          cases e
          obtain ⟨_, _, a1, _, _, _⟩ := h3 x' u' hx'
          have := (a1.lt _ hb').2
          omega
    · by_cases hxk' : x' = k
      · rw [if_neg hxk] at hx
        rw [if_pos hxk'] at hx'
        cases hx'
        exfalso
        rcases hv with e | e
        · cases hk : ge k with
          | none => rw [hk] at e; rw [e] at hb'; cases hb'
          | some v => rw [hk] at e; exact hxk (h4 x k u v b hx hk hb (e.symm.trans hb'))
        · rw [hb'] at e
          cases e
          obtain ⟨_, _, a1, _, _, _⟩ := h3 x u hx
          have := (a1.lt _ hb).2
          omega
      · rw [if_neg hxk] at hx
        rw [if_neg hxk'] at hx'
        exact h4 x x' u u' b hx hx' hb hb'

def Xend (W : World) (bp bs be : Nat) (vf : Value) (D : Nat → Prop) (d0 c : Nat) (r : Except ByteArray Sy) (v : Value) (e : Ending) (W' : World) : Prop :=
  Fx (Sp bs be D) W W' ∧ match r with
  | .ok h' => e = .returned v ∧ ∃ D', Dg W D D' ∧ Pw W' bp bs be vf h' D' d0 c
  | .error F => e = .panicked [twi F]

theorem xend_err {W W' : World} {bp bs be : Nat} {vf v : Value} {D : Nat → Prop} {d0 c : Nat} {r : Except ByteArray Sy} {F : ByteArray} (hg : Fx (Sp bs be D) W W') (hr : r = .error F) : Xend W bp bs be vf D d0 c r v (.panicked [twi F]) W' := by
  subst hr
  exact ⟨hg, rfl⟩

theorem xend_ok {W W' : World} {bp bs be : Nat} {vf v : Value} {D D' : Nat → Prop} {d0 c : Nat} {r : Except ByteArray Sy} {h' : Sy} (hg : Fx (Sp bs be D) W W') (hr : r = .ok h') (hD : Dg W D D') (hp : Pw W' bp bs be vf h' D' d0 c) : Xend W bp bs be vf D d0 c r v (.returned v) W' := by
  subst hr
  exact ⟨hg, rfl, D', hD, hp⟩

theorem ex_next {H : ByteArray} {h hk : Sy} {sc : List Int} {ms : List Md} {k : Nat} {s0 : ByteArray} (hI : insl H h (valL sc 6 13 ms k) = .ok hk) (ex : strAt ms (k * 13) = s0) (hF : hk (jn sc s0) = none) : insl H h (valL sc 6 13 ms (k + 1)) = .ok (syPut hk (jn sc s0) (6, H)) := by
  rw [valL_succ, insl_append, hI, ex]
  show insl H hk [(jn sc s0, 6)] = _
  rw [insl_one H hk _ 6 _ hF]
  rfl

theorem ex_err {H : ByteArray} {h hk : Sy} {sc : List Int} {ms : List Md} {k n : Nat} {s0 : ByteArray} (hkn : k < n) (hI : insl H h (valL sc 6 13 ms k) = .ok hk) (ex : strAt ms (k * 13) = s0) (hF : hk (jn sc s0) ≠ none) : insl H h (valL sc 6 13 ms n) = .error (jn sc s0) := by
  obtain ⟨r, hr⟩ := valL_split sc 6 13 ms hkn
  rw [hr, valL_succ, insl_append, insl_append, hI, ex]
  show (match insl H hk [(jn sc s0, 6)] with | .ok h' => insl H h' r | .error F => .error F) = _
  rw [insl_dup H hk _ 6 _ hF]

theorem Pz.blk {w : World} {bp bs be : Nat} {vf : Value} {h : Sy} {D : Nat → Prop} {d0 c : Nat} {Z : Nat → Nat → Prop} (hp : Pz w bp bs be vf h D d0 c Z) : Ob w bp #[vf, .map (some bs), .map (some be)] 96 := by
  obtain ⟨n, g, h1, _⟩ := hp.px
  exact h1.blk

theorem Px.set_be {R : Option Addr → Prop} {w w' : World} {bp bs be : Nat} {vf : Value} {h : Sy} (hp : Px R w bp bs be vf h) {S : Nat → Prop} (hf : Fx S w w') (h1 : ¬ S bp) (h2 : ¬ S bs) : Px R w' bp bs be vf h := by
  obtain ⟨n, g, hq, hg⟩ := hp
  obtain ⟨es, clock, hb, r⟩ := hq.sym
  exact ⟨n, g, ⟨hf.ob hq.blk h1, ⟨es, clock, (hf.block bs hq.sym.lt h2).trans hb, r⟩, hq.ne, hq.sl⟩, hg⟩

set_option maxRecDepth 100000 in
set_option maxHeartbeats 8000000 in
theorem qextends (H : ByteArray) (sc : List Int) (hsb : Hid (byts sc)) (hsl : Hid (sc.length ≤ 400000000)) (a : Option Addr) (n c : Nat) (ms : List Md) (lo : Nat) (A : TypeId → Prop) (hA : Hid (∀ E, A E → E ≠ 9)) (W : World) (hE : Hid (Own Tryz.prog W lo A 33 (.ls a n c ms))) (hN : Hid (Nm (.ls a n c ms))) {bp bs be : Nat} {vf : Value} {h : Sy} {D : Nat → Prop} {d0 cc : Nat} (hcc : Hid (cc + n ≤ 900000000)) (hd0 : Hid (d0 ≤ W.heap.size)) (hP : Hid (Pw W bp bs be vf h D d0 cc)) :
    Calls Tryz.prog 149 #[.agg #[.pointer (some ⟨bp, 0, none⟩), .string H], .string (strOfNums sc), .slice a n c] W fun e W' => Xend W bp bs be vf D d0 (cc + n) (insl H h (valL sc 6 13 ms n)) (.tuple #[]) e W' := by
  obtain ⟨W1, hW1⟩ : ∃ W1, W.alloc (.cells #[.pointer (some ⟨bp, 0, none⟩), .string H] 204) = W1 := ⟨_, rfl⟩
  have hb1 : Below W.heap.size W W1 := by rw [← hW1]; exact (Below.refl _ _).alloc (Nat.le_refl _) _
  have ob1 : Ob W1 W.heap.size #[.pointer (some ⟨bp, 0, none⟩), .string H] 204 := by rw [← hW1]; exact Ob.new _ _ _
  have HW1 : Hid _ := hW1
  have OB1 : Hid _ := ob1
  have HB1 : Hid _ := hb1
  have P1 : Hid (Pw W1 bp bs be vf h D d0 cc) := hP.out.below hb1 (Nat.le_refl _)
  have E1 : Hid (Own Tryz.prog W1 lo A 33 (.ls a n c ms)) := hE.out.under hb1
  have HNS : Hid (¬ Sp bs be D W.heap.size) := P1.out.other ob1.eq (by decide)
  have HBP : Hid (¬ Sp bs be D bp) := by
    obtain ⟨Z, hz⟩ := P1.out
    exact P1.out.other hz.blk.eq (by decide)
  have hn63 : (n : Int) ≤ 9223372036854775807 := (hE.out.at Tryz.underlying33 (by rw [flds_field]; decide)).1
  have HSZ : Hid (W.heap.size ≤ W1.heap.size) := hb1.size
  clear hW1 hb1 ob1 hP hE
  generalize hS : strOfNums sc = S
  have HS : Hid _ := hS
  clear hS
  go_enter Tryz.func149, Tryz.ntmps149
  go_upto_region 1 with fail
  rw [HW1.out]
  go_wp2
  go_loopw [11] (fun i wr => ∃ (k : Nat) (hk : Sy) (Dk : Nat → Prop), k ≤ n ∧ i = .int .i64 (k : Int) ∧ Hid (insl H h (valL sc 6 13 ms k) = .ok hk) ∧ Hid (Pw wr bp bs be vf hk Dk d0 (cc + k)) ∧ Hid (Fx (Sp bs be D) W1 wr ∧ Dg W1 D Dk)) (fun i _ => n - (intOf i).toNat)
  case atStart => exact ⟨0, h, D, Nat.zero_le _, rfl, rfl, P1.out, Fx.refl _ _, fun b hb => .inl hb⟩
  case round =>
    obtain ⟨k, hk, Dk, hkn, rfl, HI, HP, HG⟩ := hrel
    have obr : Ob wr W.heap.size #[.pointer (some ⟨bp, 0, none⟩), .string H] 204 := HG.out.1.ob OB1.out HNS.out
    by_cases hlk : k < n
    · obtain ⟨g, s0, x1, x2, x3, s4, s5, s6, y7, x8, s9, y10, a11, n11, c11, a12, n12, c12, rfl, hlt, hgc, u0, u1, u2, u3, u4, u5, u6, u7, u8, u9, u10, u11, u12, z0, z5, exs⟩ := own_field (HG.out.1.own P1.out (fun _ e => e) hA.out E1.out) hN.out k hlk
      obtain ⟨w2, hw2⟩ : ∃ w2, wr.alloc (.cells #[.string s0, .int .i64 x1, .int .i64 x2, .int .i64 x3, .string s4, .string s5, .string s6, .bool y7, .int .i64 x8, .string s9, .bool y10, .slice a11 n11 c11, .slice a12 n12 c12] 45) = w2 := ⟨_, rfl⟩
      have hb2 : Below wr.heap.size wr w2 := by rw [← hw2]; exact (Below.refl _ _).alloc (Nat.le_refl _) _
      have ob2' : Ob w2 wr.heap.size #[.string s0, .int .i64 x1, .int .i64 x2, .int .i64 x3, .string s4, .string s5, .string s6, .bool y7, .int .i64 x8, .string s9, .bool y10, .slice a11 n11 c11, .slice a12 n12 c12] 45 := by rw [← hw2]; exact Ob.new _ _ _
      have obh := obr.below hb2 obr.lt
      obtain ⟨Z, hPz⟩ := HP.out
      have hPz2 := hPz.below hb2 (Nat.le_refl _)
      obtain ⟨gcs, hgc'⟩ := hgc
      have hgc2 : w2.heap[g]? = some (.cells gcs 45 (0, 0)) := (hb2.block g hlt).trans hgc'
      have hnum : w2.cell? ⟨g, k * 13 + 1, none⟩ = some (.int .i64 x1) := (hb2.cell (p := ⟨g, k * 13 + 1, none⟩) hlt).trans u1
      have P2 : Hid (Pz w2 bp bs be vf hk Dk d0 (cc + k) (fun b o => Z b o ∨ (b = g ∧ o = k * 13))) :=
        ⟨Gs.px (fun p ⟨b, o, h1, h2⟩ => ⟨b, o, h1, .inl h2⟩) hPz2.px, hPz2.ex, fun b o hbo => by
          rcases hbo with h1 | ⟨rfl, rfl⟩
          · exact hPz2.zw b o h1
          · exact ⟨⟨gcs, hgc2⟩, x1, hnum⟩⟩
      have HR : Hid (Rz (fun b o => Z b o ∨ (b = g ∧ o = k * 13)) (some ⟨g, k * 13, none⟩)) := ⟨g, k * 13, rfl, .inr ⟨rfl, rfl⟩⟩
      generalize (fun b o => Z b o ∨ (b = g ∧ o = k * 13)) = Z2 at P2 HR
      have f0 := fun x : Ext w2 => x.cell (p := ⟨W.heap.size, 0, none⟩) obh.lt (obh.cell 0 rfl)
      have f1 := fun x : Ext w2 => x.cell (p := ⟨W.heap.size, 1, none⟩) obh.lt (obh.cell 1 rfl)
      have g0 := fun x : Ext w2 => x.cell (p := ⟨wr.heap.size, 0, none⟩) ob2'.lt (ob2'.cell 0 rfl)
      have HW2 : Hid _ := hw2
      have HB2 : Hid _ := hb2
      have OBE : Hid _ := ob2'
      have OBH : Hid _ := obh
      have EX : Hid (strAt ms (k * 13) = s0) := exs
      have Z0 : Hid _ := z0
      have Z5 : Hid _ := z5
      have HD0 : Hid (d0 ≤ wr.heap.size) := Nat.le_trans hd0.out (Nat.le_trans HSZ.out HG.out.1.size)
      clear hw2 hb2 ob2' obh exs z0 z5 obr hPz hPz2 hgc' hgc2 hnum
      go_upto_region 4 with fail
      rw [HW2.out]
      clear HW2 u0 u1 u2 u3 u4 u5 u6 u7 u8 u9 u10 u11 u12
      refine wp_region_then w2 8 2 rfl (Below.refl _ _) (by kernel_rfl) (by kernel_rfl) (by kernel_rfl) (by kernel_rfl) ?_
      simp only [List.take]
      repeat (go_big_quiet_step (fail))
      refine wpQuiet_nil ?_
      rintro w3 ⟨⟨_, hb3⟩, rfl⟩
      have HB3 : Hid _ := hb3
      have P3 : Hid _ := P2.out.below hb3 (Nat.le_refl _)
      have Q3 : Hid _ := qput H sc s0 hsb hsl.out (by have := Z0.out; omega) 6 none none (some ⟨g, k * 13, none⟩) w3 (show Hid _ from P3.out.px) (fun _ => HR.out)
      rw [HS.out] at Q3
      clear hb3 f0 f1 g0
      refine wpAny_force (i := 8) (by kernel_rfl) rfl ?_
      intro Q' hQ' hPn
      have HQ : Hid _ := hQ'
      have HN : Hid _ := hPn
      clear hQ' hPn
      go_wp2_with fail
      refine Calls.mono Q3.out ?_
      rintro e w4 ⟨hg4, ⟨hn4, rfl, hp4⟩ | ⟨hn4, rfl⟩⟩
      · have hP4 : Pz w4 bp bs be vf (syPut hk (jn sc s0) (6, H)) Dk d0 (cc + k) Z2 := P3.out.put hg4 (fun x H' e => by
          unfold syPut
          by_cases hx : x = jn sc s0
          · exact ⟨H, by rw [if_pos hx]⟩
          · exact ⟨H', by rw [if_neg hx]; exact e⟩) hp4
        have HF : Hid (∃ H', (syPut hk (jn sc s0) (6, H)) (jn sc s0) = some (6, H')) := ⟨H, by unfold syPut; rw [if_pos rfl]⟩
        have HI4 : Hid _ := ex_next HI.out EX.out hn4
        have HF4 : Hid (Fx (Sp bs be Dk) wr w4) := ((Fx.of_below (S := Sp bs be Dk) HB2.out).trans (Fx.of_below (S := Sp bs be Dk) HB3.out) (fun _ e => .inl e)).trans (Fx.of_grown (S := Sp bs be Dk) hg4 (.inl rfl)) (fun _ e => .inl e)
        have ho3 : Ob w3 W.heap.size #[.pointer (some ⟨bp, 0, none⟩), .string H] 204 := OBH.out.below HB3.out OBH.out.lt
        have he3 : Ob w3 wr.heap.size #[.string s0, .int .i64 x1, .int .i64 x2, .int .i64 x3, .string s4, .string s5, .string s6, .bool y7, .int .i64 x8, .string s9, .bool y10, .slice a11 n11 c11, .slice a12 n12 c12] 45 := OBE.out.below HB3.out OBE.out.lt
        have hh4 : Ob w4 W.heap.size #[.pointer (some ⟨bp, 0, none⟩), .string H] 204 := (Fx.of_grown (S := Sp bs be Dk) hg4 (.inl rfl)).ob ho3 ((show Pw w3 bp bs be vf hk Dk d0 (cc + k) from ⟨Z2, P3.out⟩).other ho3.eq (by decide))
        have he4 : Ob w4 wr.heap.size #[.string s0, .int .i64 x1, .int .i64 x2, .int .i64 x3, .string s4, .string s5, .string s6, .bool y7, .int .i64 x8, .string s9, .bool y10, .slice a11 n11 c11, .slice a12 n12 c12] 45 := (Fx.of_grown (S := Sp bs be Dk) hg4 (.inl rfl)).ob he3 ((show Pw w3 bp bs be vf hk Dk d0 (cc + k) from ⟨Z2, P3.out⟩).other he3.eq (by decide))
        have OH4 : Hid _ := hh4
        have OE4 : Hid _ := he4
        have P4 : Hid _ := hP4
        clear hg4 hn4 hp4 ho3 he3 hh4 he4 hP4 Q3 HB2 HB3 OBE OBH P2 P3 HR
        go_wp2
        refine HQ.out _ _ ?_
        clear HQ HN
        refine wpAny_force (i := 9) (by kernel_rfl) rfl ?_
        intro Q' hQ' hPn
        have HQ : Hid _ := hQ'
        clear hQ' hPn
        go_wp2
        refine HQ.out _ _ ?_
        clear HQ
        refine wpAny_end (by kernel_rfl) ?_
        generalize hFn : jn sc s0 = F at *
        go_upto_region 5 with fail
        obtain ⟨nx, ge, hM4, h3, h4⟩ := P4.out.ex.map
        have HX3 : Hid _ := h3
        have HX4 : Hid _ := h4
        obtain ⟨m, xs, hrow, hmc, hxs, hvD⟩ := Ex.row (c := cc + k) (h := syPut hk F (6, H)) (D := Dk) h3 s5
        obtain ⟨cur, hcur⟩ : ∃ cur, cur = mlook (.slice none 0 0) (ge s5) false := ⟨_, rfl⟩
        rw [← hcur] at hrow hvD
        have HCUR : Hid _ := hcur
        have HROW : Hid _ := hrow
        have HMC : Hid _ := hmc
        have HXS : Hid _ := hxs
        have HVD : Hid _ := hvD
        clear h3 h4 hrow hmc hxs hvD hcur
        have HS0 : Hid (Ob w4 W.heap.size #[.pointer (some ⟨bp, 0, none⟩), .string H] 204 ∧ Ob w4 wr.heap.size #[.string s0, .int .i64 x1, .int .i64 x2, .int .i64 x3, .string s4, .string s5, .string s6, .bool y7, .int .i64 x8, .string s9, .bool y10, .slice a11 n11 c11, .slice a12 n12 c12] 45 ∧ Ob w4 bp #[vf, .map (some bs), .map (some be)] 96 ∧ Mg w4 be nx ge) := ⟨OH4.out, OE4.out, P4.out.blk, hM4⟩
        clear hM4
        refine wp_region_heldG 18 (S := fun V => Hid (Ob V W.heap.size #[.pointer (some ⟨bp, 0, none⟩), .string H] 204 ∧ Ob V wr.heap.size #[.string s0, .int .i64 x1, .int .i64 x2, .int .i64 x3, .string s4, .string s5, .string s6, .bool y7, .int .i64 x8, .string s9, .bool y10, .slice a11 n11 c11, .slice a12 n12 c12] 45 ∧ Ob V bp #[vf, .map (some bs), .map (some be)] 96 ∧ Mg V be nx ge)) (by kernel_rfl) ?_
        obtain ⟨w5, hw5⟩ : ∃ w5, w5 = w4.drew := ⟨_, rfl⟩
        have hb5 : Below w4.heap.size w4 w5 := by rw [hw5]; exact (Below.refl _ _).drew
        rw [← hw5]
        have hs5 : w5.heap.size = w4.heap.size := by rw [hw5]; rfl
        have HS5 : Hid (Ob w5 W.heap.size #[.pointer (some ⟨bp, 0, none⟩), .string H] 204 ∧ Ob w5 wr.heap.size #[.string s0, .int .i64 x1, .int .i64 x2, .int .i64 x3, .string s4, .string s5, .string s6, .bool y7, .int .i64 x8, .string s9, .bool y10, .slice a11 n11 c11, .slice a12 n12 c12] 45 ∧ Ob w5 bp #[vf, .map (some bs), .map (some be)] 96 ∧ Mg w5 be nx ge) := ⟨HS0.out.1.below hb5 HS0.out.1.lt, HS0.out.2.1.below hb5 HS0.out.2.1.lt, HS0.out.2.2.1.below hb5 HS0.out.2.2.1.lt, HS0.out.2.2.2.below hb5 HS0.out.2.2.2.lt⟩
        have P5 : Hid _ := P4.out.below hb5 (Nat.le_refl _)
        have HF5 : Hid (Fx (Sp bs be Dk) wr w5) := HF4.out.trans (Fx.of_below (S := Sp bs be Dk) hb5) (fun _ e => .inl e)
        have HROW5 : Hid _ := own_below HROW.out hb5
        have HX5 : Hid (∀ kx v, ge kx = some v → ∃ (m : Nat) (xs : List ByteArray), w5.ownsRow 0 9 1 v m (xs.map Value.string) ∧ m ≤ cc + k ∧ (∀ x ∈ xs, ∃ H', (syPut hk F (6, H)) x = some (6, H')) ∧ ∀ b, v.ownBlock = some b → Dk b) := fun k' v hkv => by
          obtain ⟨m', xs', b1, b2, b3, b4⟩ := HX3.out k' v hkv
          exact ⟨m', xs', own_below b1 hb5, b2, b3, b4⟩
        clear hw5 hb5 hs5 HROW P4 OH4 OE4 HF4 HS0 HX3

        refine wpAnyG_take (i := 0) (v := ?_) rfl (by kernel_rfl) (by kernel_rfl) (by kernel_rfl) (by kernel_rfl) (fun _ _ _ h => h) (Or.inl ⟨by rfl, ?_⟩) HS5.out ?_
        rotate_left
        · rintro V HV
          go_simp
          try with_reducible rfl
        refine wpAnyG_take (i := 1) (v := ?_) rfl (by kernel_rfl) (by kernel_rfl) (by kernel_rfl) (by kernel_rfl) (fun _ _ _ h => h) (Or.inl ⟨by rfl, ?_⟩) HS5.out ?_
        rotate_left
        · rintro V HV
          have z1 := HV.out.1.cell 0 rfl
          go_simp
          try with_reducible rfl
        refine wpAnyG_take (i := 2) (v := ?_) rfl (by kernel_rfl) (by kernel_rfl) (by kernel_rfl) (by kernel_rfl) (fun _ _ _ h => h) (Or.inl ⟨by rfl, ?_⟩) HS5.out ?_
        rotate_left
        · rintro V HV
          go_simp
          try with_reducible rfl
        refine wpAnyG_take (i := 3) (v := ?_) rfl (by kernel_rfl) (by kernel_rfl) (by kernel_rfl) (by kernel_rfl) (fun _ _ _ h => h) (Or.inl ⟨by rfl, ?_⟩) HS5.out ?_
        rotate_left
        · rintro V HV
          go_simp
          try with_reducible rfl
        refine wpAnyG_take (i := 4) (v := ?_) rfl (by kernel_rfl) (by kernel_rfl) (by kernel_rfl) (by kernel_rfl) (fun _ _ _ h => h) (Or.inl ⟨by rfl, ?_⟩) HS5.out ?_
        rotate_left
        · rintro V HV
          have z1 := HV.out.2.2.1.cell 2 rfl
          go_simp
          try with_reducible rfl
        refine wpAnyG_take (i := 5) (v := ?_) rfl (by kernel_rfl) (by kernel_rfl) (by kernel_rfl) (by kernel_rfl) (fun _ _ _ h => h) (Or.inl ⟨by rfl, ?_⟩) HS5.out ?_
        rotate_left
        · rintro V HV
          go_simp
          try with_reducible rfl
        refine wpAnyG_take (i := 6) (v := ?_) rfl (by kernel_rfl) (by kernel_rfl) (by kernel_rfl) (by kernel_rfl) (fun _ _ _ h => h) (Or.inl ⟨by rfl, ?_⟩) HS5.out ?_
        rotate_left
        · rintro V HV
          have z1 := HV.out.2.1.cell 5 rfl
          go_simp
          try with_reducible rfl
        refine wpAnyG_take (i := 7) (v := ?_) rfl (by kernel_rfl) (by kernel_rfl) (by kernel_rfl) (by kernel_rfl) (fun _ _ _ h => h) (Or.inl ⟨by rfl, ?_⟩) HS5.out ?_
        rotate_left
        · rintro V HV
          go_simp
          try with_reducible rfl
        refine wpAnyG_take (i := 8) (v := ?_) rfl (by kernel_rfl) (by kernel_rfl) (by kernel_rfl) (by kernel_rfl) (fun _ _ _ h => h) (Or.inl ⟨by rfl, ?_⟩) HS5.out ?_
        rotate_left
        · rintro V HV
          have z1 := HV.out.1.cell 0 rfl
          go_simp
          try with_reducible rfl
        refine wpAnyG_take (i := 9) (v := ?_) rfl (by kernel_rfl) (by kernel_rfl) (by kernel_rfl) (by kernel_rfl) (fun _ _ _ h => h) (Or.inl ⟨by rfl, ?_⟩) HS5.out ?_
        rotate_left
        · rintro V HV
          go_simp
          try with_reducible rfl
        refine wpAnyG_take (i := 10) (v := ?_) rfl (by kernel_rfl) (by kernel_rfl) (by kernel_rfl) (by kernel_rfl) (fun _ _ _ h => h) (Or.inl ⟨by rfl, ?_⟩) HS5.out ?_
        rotate_left
        · rintro V HV
          go_simp
          try with_reducible rfl
        refine wpAnyG_take (i := 11) (v := ?_) rfl (by kernel_rfl) (by kernel_rfl) (by kernel_rfl) (by kernel_rfl) (fun _ _ _ h => h) (Or.inl ⟨by rfl, ?_⟩) HS5.out ?_
        rotate_left
        · rintro V HV
          have z1 := HV.out.2.2.1.cell 2 rfl
          go_simp
          try with_reducible rfl
        refine wpAnyG_take (i := 12) (v := ?_) rfl (by kernel_rfl) (by kernel_rfl) (by kernel_rfl) (by kernel_rfl) (fun _ _ _ h => h) (Or.inl ⟨by rfl, ?_⟩) HS5.out ?_
        rotate_left
        · rintro V HV
          go_simp
          try with_reducible rfl
        refine wpAnyG_take (i := 13) (v := ?_) rfl (by kernel_rfl) (by kernel_rfl) (by kernel_rfl) (by kernel_rfl) (fun _ _ _ h => h) (Or.inl ⟨by rfl, ?_⟩) HS5.out ?_
        rotate_left
        · rintro V HV
          have z1 := HV.out.2.1.cell 5 rfl
          go_simp
          try with_reducible rfl
        refine wpAnyG_take (i := 14) (v := ?_) rfl (by kernel_rfl) (by kernel_rfl) (by kernel_rfl) (by kernel_rfl) (fun _ _ _ h => h) (Or.inl ⟨by rfl, ?_⟩) HS5.out ?_
        rotate_left
        · rintro V HV
          have z1 := HV.out.2.2.2.look extMap (zeroTxs V) s5 (by have := Z5.out; unfold maxLen; omega) false
          rw [← HCUR.out] at z1
          go_simp
          try with_reducible rfl
        refine wpAnyG_take (i := 15) (v := ?_) rfl (by kernel_rfl) (by kernel_rfl) (by kernel_rfl) (by kernel_rfl) (fun _ _ _ h => h) (Or.inl ⟨by rfl, ?_⟩) HS5.out ?_
        rotate_left
        · rintro V HV
          go_simp
          try with_reducible rfl
        refine wpAnyG_all (rs := [16]) (by kernel_rfl) (by simp) ?_
        intro i hi
        obtain rfl : i = 16 := by simpa using hi
        clear hi
        refine wpOp_listV rfl ?_
        intro Q' hQ'
        have HQ : Hid _ := hQ'
        clear hQ'
        obtain ⟨w6, hw6⟩ : ∃ w6, w6 = w5.alloc (.cells #[.string F] 9) := ⟨_, rfl⟩
        have hb6 : Below w5.heap.size w5 w6 := by rw [hw6]; exact (Below.refl _ _).alloc (Nat.le_refl _) _
        have n6 : Ob w6 w5.heap.size #[.string F] 9 := by rw [hw6]; exact Ob.new _ _ _
        have hs6 : w6.heap.size = w5.heap.size + 1 := by rw [hw6]; simp
        have HS6 : Hid (Ob w6 W.heap.size #[.pointer (some ⟨bp, 0, none⟩), .string H] 204 ∧ Ob w6 wr.heap.size #[.string s0, .int .i64 x1, .int .i64 x2, .int .i64 x3, .string s4, .string s5, .string s6, .bool y7, .int .i64 x8, .string s9, .bool y10, .slice a11 n11 c11, .slice a12 n12 c12] 45 ∧ Ob w6 bp #[vf, .map (some bs), .map (some be)] 96 ∧ Mg w6 be nx ge) := ⟨HS5.out.1.below hb6 HS5.out.1.lt, HS5.out.2.1.below hb6 HS5.out.2.1.lt, HS5.out.2.2.1.below hb6 HS5.out.2.2.1.lt, HS5.out.2.2.2.below hb6 HS5.out.2.2.2.lt⟩
        have hp6 := P5.out.below hb6 (Nat.le_refl _)
        have hrow6 := own_below HROW5.out hb6
        obtain ⟨v7, w7, hr7, ho7, hg7, hl7, ad7, nn7, cp7, rfl⟩ := run_append_tx w6 cur m (xs.map Value.string) hrow6 (by have := HMC.out; have := hcc.out; omega) w5.heap.size F n6 30
        have hbe6 : ¬ Dk be := (show Pw w6 bp bs be vf (syPut hk F (6, H)) Dk d0 (cc + k) from ⟨Z2, hp6⟩).not_row.2.1
        have hf7 : Fx Dk w6 w7 := ⟨hg7.os, hg7.tape, hg7.output, hg7.size, fun b hb hn => hg7.block b hb (fun e => hn (HVD.out b e.symm))⟩
        have hP6 : Pw w6 bp bs be vf (syPut hk F (6, H)) Dk d0 (cc + k) := ⟨Z2, hp6⟩
        have HS7 : Hid (Ob w7 W.heap.size #[.pointer (some ⟨bp, 0, none⟩), .string H] 204 ∧ Ob w7 wr.heap.size #[.string s0, .int .i64 x1, .int .i64 x2, .int .i64 x3, .string s4, .string s5, .string s6, .bool y7, .int .i64 x8, .string s9, .bool y10, .slice a11 n11 c11, .slice a12 n12 c12] 45 ∧ Ob w7 bp #[vf, .map (some bs), .map (some be)] 96 ∧ Mg w7 be nx ge) := ⟨hf7.ob HS6.out.1 (fun e => hP6.other HS6.out.1.eq (by decide) (.inr (.inr e))), hf7.ob HS6.out.2.1 (fun e => hP6.other HS6.out.2.1.eq (by decide) (.inr (.inr e))), hf7.ob HS6.out.2.2.1 (fun e => hP6.other HS6.out.2.2.1.eq (by decide) (.inr (.inr e))), by
          obtain ⟨es, clock, hb, r⟩ := HS6.out.2.2.2
          exact ⟨es, clock, (hf7.block be (Array.getElem?_eq_some_iff.1 hb).1 hbe6).trans hb, r⟩⟩
        obtain ⟨w8, hup8, hm8, hg8⟩ := HS7.out.2.2.2.put extMap s5 (by have := Z5.out; unfold maxLen; omega) (.slice ad7 nn7 cp7)
        have hx8 := ex_more (n' := (match ge s5 with | none => nx + 1 | some _ => nx)) (w3 := w8) (be := be) (h := syPut hk F (6, H)) hp6.ex.low (fun k' v hkv => by
          obtain ⟨m', xs', b1, b2, b3, b4⟩ := HX5.out k' v hkv
          exact ⟨m', xs', own_below b1 hb6, b2, b3, b4⟩) HX4.out (by have := HF5.out.size; have := HD0.out; omega) hbe6 (by have := HS6.out.2.2.2.lt; exact this) s5 F HF.out HXS.out HMC.out ho7 (by rw [← HCUR.out]; exact hg7) (by rw [← HCUR.out]; exact hl7) (by rw [← HCUR.out]; exact HVD.out) hm8 hg8
        have hf8 : Fx (fun b => Dk b ∨ b = be) w6 w8 := (hf7.mono (fun _ e => .inl e)).trans (Fx.of_grown (S := fun b => Dk b ∨ b = be) hg8 (.inr rfl)) (fun _ e => .inl e)
        have hnr := hP6.not_row
        have hbm := hp6.px.be_map
        have HP8 : Hid (Pw w8 bp bs be vf (syPut hk F (6, H)) (fun b => (Dk b ∧ (mlook (.slice none 0 0) (ge s5) false).ownBlock ≠ some b) ∨ (Value.slice ad7 nn7 cp7).ownBlock = some b) d0 (cc + (k + 1))) :=
          ⟨Z2, hp6.px.set_be hf8 (fun e => e.elim hnr.2.2 (fun e => hbm.2.2 e)) (fun e => e.elim hnr.1 (fun e => hbm.1 e.symm)), hx8, hp6.zw.fx hf8 (fun b cs hb e => hP6.other hb (by decide) (e.elim (fun e => .inr (.inr e)) (fun e => .inr (.inl e))))⟩
        have HF8 : Hid (Fx (Sp bs be D) W1 w8 ∧ Dg W1 D (fun b => (Dk b ∧ (mlook (.slice none 0 0) (ge s5) false).ownBlock ≠ some b) ∨ (Value.slice ad7 nn7 cp7).ownBlock = some b)) := by
          have hDk : ∀ b, Sp bs be Dk b → Sp bs be D b ∨ W1.heap.size ≤ b := fun b e => by
            rcases e with e | e | e
            · exact .inl (.inl e)
            · exact .inl (.inr (.inl e))
            · exact (HG.out.2 b e).imp (fun e => .inr (.inr e)) id
          refine ⟨HG.out.1.trans ((HF5.out.trans (Fx.of_below (S := Sp bs be Dk) hb6) (fun _ e => .inl e)).trans (hf8.mono (S' := Sp bs be Dk) (fun b e => e.elim (fun e => .inr (.inr e)) (fun e => .inr (.inl e)))) (fun _ e => .inl e)) hDk, fun b e => ?_⟩
          rcases e with ⟨e, _⟩ | e
          · exact HG.out.2 b e
          · rcases hl7 with h | h
            · exact HG.out.2 b (HVD.out b (h.symm.trans e))
            · rw [h] at e
              cases e
              exact .inr (by have h1 := HG.out.1.size; have h2 := HF5.out.size; omega)
        have HW6 : Hid _ := hw6
        have HR7 : Hid _ := hr7
        have HU8 : Hid _ := hup8
        clear hw6 hr7 hup8 hb6 n6 hs6 hp6 hrow6 ho7 hg7 hl7 hbe6 hf7 hP6 hm8 hg8 hx8 hf8 hnr hbm P5 HF5 HX5 HROW5 HXS HMC HVD
        go_wp2
        rw [← HW6.out]
        refine HQ.out _ _ ⟨.inr HS6, ?_⟩
        clear HQ HW6
        refine wpAnyG_all (rs := [17]) (by kernel_rfl) (by simp) ?_
        intro i hi
        obtain rfl : i = 17 := by simpa using hi
        clear hi
        refine wpOp_listV rfl ?_
        intro Q' hQ'
        have HQ : Hid _ := hQ'
        clear hQ'
        refine wpList_append_eqX rfl _ _ 30 rfl rfl rfl HR7.out ?_
        refine HQ.out _ _ ⟨.inr HS7, ?_⟩
        clear HQ HR7
        refine wpAnyG_all (rs := [18]) (by kernel_rfl) (by simp) ?_
        intro i hi
        obtain rfl : i = 18 := by simpa using hi
        clear hi
        refine wpOp_listV rfl ?_
        intro Q' hQ'
        have HQ : Hid _ := hQ'
        clear hQ'
        have hup := HU8.out
        go_wp2
        refine HQ.out _ _ ⟨.inl (by first | trivial | rfl), ?_⟩
        clear HQ hup HU8
        refine wpAnyG_done (by kernel_rfl) ?_ _
        clear HS5 HS6 HS7
        go_wp2
        go_roundw
        case rel => exact ⟨k + 1, _, _, by omega, by go_num, HI4.out, HP8.out, HF8.out⟩
        case measure => simp [intOf]; omega

      · have HE4 : Hid (insl H h (valL sc 6 13 ms n) = .error (jn sc s0)) := ex_err hlk HI.out EX.out hn4
        have hDk : ∀ b, Sp bs be Dk b → Sp bs be D b ∨ W1.heap.size ≤ b := fun b e => by
          rcases e with e | e | e
          · exact .inl (.inl e)
          · exact .inl (.inr (.inl e))
          · exact (HG.out.2 b e).imp (fun e => .inr (.inr e)) id
        have HF4 : Hid (Fx (Sp bs be D) W w4) := (Fx.of_below (S := Sp bs be D) HB1.out).trans (HG.out.1.trans (((Fx.of_below (S := Sp bs be Dk) HB2.out).trans (Fx.of_below (S := Sp bs be Dk) HB3.out) (fun _ e => .inl e)).trans (Fx.of_grown (S := Sp bs be Dk) hg4 (.inl rfl)) (fun _ e => .inl e)) hDk) (fun _ e => .inl e)
        refine HN.out _ _ _ ?_
        exact ⟨rfl, xend_err HF4.out HE4.out⟩
    · have hkk : k = n := by omega
      subst hkk
      go_wp2
      go_end0
      exact xend_ok ((Fx.of_below (S := Sp bs be D) HB1.out).trans HG.out.1 (fun _ e => .inl e)) HI.out (fun b hb => (HG.out.2 b hb).imp id (fun e => Nat.le_trans HSZ.out e)) HP.out

end Go.Proofs.YtafmoceinamcdaaGreat
