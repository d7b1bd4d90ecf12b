/- Put together by a program out of these texts of mine: VLay2. -/
import Derived.Test.YtafmoceinamcdaaGreatBunS8
import Derived.Test.YtafmoceinamcdaaGreatBunS24

namespace Go.Proofs.YtafmoceinamcdaaGreat
open Go.RowKit
set_option linter.unusedVariables false
set_option linter.unusedSimpArgs false

def Tab2 (H : ByteArray) (s : List Int) (n : Nat) (g : ByteArray → Option Value) : Prop :=
  (s = [97, 46, 98] ∧ n = 0 ∧ g = fun _ => none) ∨ (s = [97] ∧ n = 1 ∧ g = gput (fun _ => none) (strOfNums [97, 46, 98]) (pkgV H)) ∨ (s = [] ∧ n = 2 ∧ g = gput (gput (fun _ => none) (strOfNums [97, 46, 98]) (pkgV H)) (strOfNums [97]) (pkgV H))

theorem str_inj {a b : List Int} (ha : byts a) (hb : byts b) (h : strOfNums a = strOfNums b) : a = b := by
  have h1 := congrArg (fun x : ByteArray => x.data.toList) h
  simp only [strOfNums_data] at h1
  clear h
  induction a generalizing b with
  | nil => cases b with
    | nil => rfl
    | cons y r => simp at h1
  | cons x l ih => cases b with
    | nil => simp at h1
    | cons y r =>
      simp only [List.map_cons, List.cons.injEq] at h1
      rw [u8_inj (ha x (by simp)) (hb y (by simp)) h1.1, ih (fun z hz => ha z (by simp [hz])) (fun z hz => hb z (by simp [hz])) h1.2]

theorem tab2_step (H : ByteArray) : ∀ s n g, Tab2 H s n g → s ≠ [] → byts s ∧ (∀ i, 0 ≤ s.getD i 0 ∧ s.getD i 0 ≤ 255) ∧ s.length ≤ 10000 ∧ g (strOfNums s) = none ∧ Tab2 H (nparent s).1 (n + 1) (gput g (strOfNums s) (pkgV H)) := by
  intro s n g h hs
  have z3 : ∀ i, 0 ≤ ([97, 46, 98] : List Int).getD i 0 ∧ ([97, 46, 98] : List Int).getD i 0 ≤ 255 := by
    intro i
    match i with
    | 0 => decide
    | 1 => decide
    | 2 => decide
    | i + 3 => simp [List.getD]
  have z1 : ∀ i, 0 ≤ ([97] : List Int).getD i 0 ∧ ([97] : List Int).getD i 0 ≤ 255 := by
    intro i
    match i with
    | 0 => decide
    | i + 1 => simp [List.getD]
  rcases h with ⟨rfl, rfl, rfl⟩ | ⟨rfl, rfl, rfl⟩ | ⟨rfl, rfl, rfl⟩
  · exact ⟨by unfold byts; decide, z3, by decide, rfl, .inr (.inl ⟨by decide, rfl, rfl⟩)⟩
  · refine ⟨by unfold byts; decide, z1, by decide, ?_, .inr (.inr ⟨by decide, rfl, rfl⟩)⟩
    unfold gput
    rw [if_neg]
    intro e
    have := str_inj (a := [97]) (b := [97, 46, 98]) (by unfold byts; decide) (by unfold byts; decide) e
    cases this
  · exact absurd rfl hs

theorem wpList_append_eqV {w : World} {ops : Array Oper} {rest : List Oper} {o : Oper} {f : Act} {Q : Exit → Act → World → Prop} (hgd : o.guard = none) (s x : Operand) (T : TypeId)
    (ho : o.op = .call { callee := .builtin .append, args := #[s, x], argTypes := #[T, T] }) {vs vx v' : Value} {w' : World} (hs : f.eval s = vs) (hx : f.eval x = vx) (hrun : (Builtin.append_ #[T, T] o.type #[vs, vx]).run Tryz.prog w = .ok v' w') (h : wpList Tryz.prog ops Q rest (f.put o.dst v') w') :
    wpList Tryz.prog ops Q (o :: rest) f w := by
  refine wpList_plain hgd fun K hK => ?_
  unfold Oper.wp
  simp [execOp, ho, resolve, invoke, builtin, hs, hx, hrun, Result.andThen]
  exact hK _ _ h

theorem infoFileV : (Tryz.prog.info? 62).map (fun i => (i.zero, i.size, i.bytes)) = some (some (.agg #[.string ⟨#[]⟩, .string ⟨#[]⟩, .slice none 0 0, .slice none 0 0, .slice none 0 0, .slice none 0 0, .slice none 0 0, .slice none 0 0, .string ⟨#[]⟩, .slice none 0 0, .slice none 0 0]), 11, ((Tryz.prog.info? 62).map (fun i => i.bytes)).getD 0) := by kernel_rfl

theorem infoFileB : ((Tryz.prog.info? 62).map (fun i => i.bytes)).getD 0 ≤ 1000 := of_decide_eq_true (by kernel_rfl)

theorem run_append_file (W : World) (a : Nat) (c : Nat) (cs : Array Value) (hc : cs.size = 11) (h : Ob W a cs 62) (h1 : ∀ u ∈ cs.toList, u.oneCell' = true) (ty : TypeId) :
    ∃ v w', (Builtin.append_ #[22, 22] ty #[.slice none 0 0, .slice (some ⟨a, 0, none⟩) 1 c]).run Tryz.prog W = .ok v w' ∧ W.grownBy w' none ∧ ∃ ad n cp, v = .slice ad n cp := by
  obtain ⟨i0, hi, h2⟩ : ∃ i, Tryz.prog.info? 62 = some i ∧ (i.zero, i.size, i.bytes) = (some (.agg #[.string ⟨#[]⟩, .string ⟨#[]⟩, .slice none 0 0, .slice none 0 0, .slice none 0 0, .slice none 0 0, .slice none 0 0, .slice none 0 0, .string ⟨#[]⟩, .slice none 0 0, .slice none 0 0]), 11, ((Tryz.prog.info? 62).map (fun i => i.bytes)).getD 0) := by
    have := infoFileV
    cases hq : Tryz.prog.info? 62 with
    | none => rw [hq] at this; cases this
    | some i => rw [hq] at this; exact ⟨i, rfl, Option.some.inj this⟩
  simp only [Prod.mk.injEq] at h2
  obtain ⟨z1, z2, z3⟩ := h2
  have hB := infoFileB
  obtain ⟨v, w', hr, ho, hg, _, _⟩ := run_append_own_at (P := Tryz.prog) W 0 22 ty 62 i0 _ 11 i0.bytes Tryz.underlying22 hi z1 z2 rfl rfl (by omega) (.slice none 0 0) 0 [] (World.ownsRow_nil W 0 62 11) ⟨a, 0, none⟩ 1 c cs.toList (by simpa using hc) (fun j u hj => by
    have := h.cell j (v := u) (by simpa using hj)
    simp only [Addr.add]
    split
    · rename_i h0; rw [h0] at this; exact this
    · simpa using this) h1 (by unfold maxLen; omega) (by rw [z3]; omega) (Nat.zero_le _)
  refine ⟨v, w', hr, hg, ?_⟩
  rcases ho.2 with ⟨rfl, _⟩ | ⟨g, cp, cur, rfl, _⟩
  · exact ⟨_, _, _, rfl⟩
  · exact ⟨_, _, _, rfl⟩

structure Kp (W w : World) (bp bs : Nat) : Prop where
  os : w.os = W.os
  tape : w.tape = W.tape
  output : w.output = W.output
  size : W.heap.size ≤ w.heap.size
  block : ∀ k, k < W.heap.size → k ≠ bp → k ≠ bs → w.heap[k]? = W.heap[k]?

theorem Kp.ob {W w : World} {bp bs : Nat} (h : Kp W w bp bs) {b : Nat} {c : Array Value} {T : TypeId} (ho : Ob W b c T) (h1 : b ≠ bp) (h2 : b ≠ bs) : Ob w b c T := ⟨(h.block b ho.lt h1 h2).trans ho.eq⟩

set_option maxRecDepth 100000 in
set_option maxHeartbeats 8000000 in
theorem playF (A Y : ByteArray) (hA : A.size ≤ 1000000) (hY : Y.size ≤ 1000000) (gm : Nat) (W : World) {bp bs be : Nat} (hP : Hid (Po W bp bs be (.slice none 0 0) 0 (fun _ => none))) (hgm : Ob W gm (msg0 (strOfNums [77])) 40) (hgn : gm ≠ bs) :
    Calls Tryz.prog 120 #[.pointer (some ⟨bp, 0, none⟩), .agg (fil1 A (strOfNums [97, 46, 98]) Y gm)] W fun e W' => e = .returned (.tuple #[]) ∧ Kp W W' bp bs ∧ ∃ vf ad, Po W' bp bs be vf 3 (gput (gput (gput (fun _ => none) (strOfNums [97, 46, 98]) (pkgV A)) (strOfNums [97]) (pkgV A)) (strOfNums [97, 46, 98, 46, 77]) (.agg #[.int .i64 2, .string A, .pointer ad, .pointer none, .pointer none])) := by
  obtain ⟨K, hK⟩ : ∃ K, K = strOfNums [97, 46, 98] := ⟨_, rfl⟩
  have HK : Hid _ := hK
  rw [← hK]
  obtain ⟨w1, hw1⟩ : ∃ w1, w1 = W.alloc (.cells (fil1 A K Y gm) 62) := ⟨_, rfl⟩
  have hb1 : Below W.heap.size W w1 := by rw [hw1]; exact (Below.refl _ _).alloc (Nat.le_refl _) _
  have f1 : Ob w1 W.heap.size (fil1 A K Y gm) 62 := by rw [hw1]; exact Ob.new _ _ _
  have P1 : Hid _ := hP.out.below hb1 (Nat.le_refl _)
  have g1 := hgm.below hb1 hgm.lt
  have hl := hP.out.blk.lt
  have hl2 := hP.out.sym.lt
  have hl3 := hP.out.ext.lt
  have QF : Hid _ := pwfile0 A K Y hA (by rw [hK, strOfNums_size]; decide) hY (.slice (some ⟨gm, 0, none⟩) 1 1) ⟨_, _, _, rfl⟩ w1
  unfold fil1 at *
  obtain ⟨⟨c0, c1, c2, c3, c4, c5, c6, c7, c8, c9, c10⟩, _, cl⟩ := ob11 f1
  have F1 : Hid _ := f1
  have G1 : Hid _ := g1
  have HB1 : Hid _ := hb1
  have HW1 : Hid _ := hw1
  have hgl : gm < W.heap.size := hgm.lt
  have HK3 : Hid (byts [97, 46, 98]) := by show byts _; unfold byts; decide
  clear f1 g1 hb1 hw1 hgm hP hK
  go_enter Tryz.func120, Tryz.ntmps120
  go_upto_region 1 with fail
  rw [← HW1.out]
  clear HW1
  go_wp2_with fail
  refine Calls.mono QF.out ?_
  rintro e w2 ⟨rfl, hb2⟩
  have P2 : Hid _ := P1.out.below hb2 (Nat.le_refl _)
  have F2 : Hid _ := F1.out.below hb2 F1.out.lt
  have G2 : Hid _ := G1.out.below hb2 G1.out.lt
  have HB2 : Hid (Below W.heap.size W w2) := HB1.out.trans (hb2.mono HB1.out.size)
  obtain ⟨w3, hw3⟩ : ∃ w3, w3 = ((w2.alloc (.cells #[.string A, .string K, .slice none 0 0, .slice none 0 0, .slice none 0 0, .slice none 0 0, .slice none 0 0, .slice none 0 0, .string Y, .slice none 0 0, .slice none 0 0] 62)).alloc (.cells #[.int .i64 1, .bool false] 100)).alloc (.cells #[.pointer (some ⟨bp, 0, none⟩), .string A] 204) := ⟨_, rfl⟩
  have hb3 : Below w2.heap.size w2 w3 := by rw [hw3]; exact (((Below.refl _ _).alloc (Nat.le_refl _) _).alloc (by simp) _).alloc (by simp; omega) _
  have o3 : Ob w3 w2.heap.size #[.string A, .string K, .slice none 0 0, .slice none 0 0, .slice none 0 0, .slice none 0 0, .slice none 0 0, .slice none 0 0, .string Y, .slice none 0 0, .slice none 0 0] 62 := by rw [hw3]; exact ((Ob.new _ _ _).alloc _).alloc _
  have a3 : Ob w3 (w2.heap.size + 1) #[.int .i64 1, .bool false] 100 := by
    rw [hw3]
    have := (Ob.new (w2.alloc (.cells #[.string A, .string K, .slice none 0 0, .slice none 0 0, .slice none 0 0, .slice none 0 0, .slice none 0 0, .slice none 0 0, .string Y, .slice none 0 0, .slice none 0 0] 62)) #[.int .i64 1, .bool false] 100).alloc (.cells #[.pointer (some ⟨bp, 0, none⟩), .string A] 204)
    simpa using this
  have h3 : Ob w3 (w2.heap.size + 1 + 1) #[.pointer (some ⟨bp, 0, none⟩), .string A] 204 := by
    rw [hw3]
    have := Ob.new ((w2.alloc (.cells #[.string A, .string K, .slice none 0 0, .slice none 0 0, .slice none 0 0, .slice none 0 0, .slice none 0 0, .slice none 0 0, .string Y, .slice none 0 0, .slice none 0 0] 62)).alloc (.cells #[.int .i64 1, .bool false] 100)) #[.pointer (some ⟨bp, 0, none⟩), .string A] 204
    simpa using this
  have P3 : Hid _ := P2.out.below hb3 (Nat.le_refl _)
  have F3 : Hid _ := F2.out.below hb3 F2.out.lt
  have G3 : Hid _ := G2.out.below hb3 G2.out.lt
  have HB3 : Hid (Below W.heap.size W w3) := HB2.out.trans (hb3.mono HB2.out.size)
  have QK : Hid _ := ppkg_gen A (Tab2 A) (show Hid _ from tab2_step A) [97, 46, 98] 0 (fun _ => none) (show Hid _ from .inl ⟨rfl, rfl, rfl⟩) w3 P3
  rw [← HK.out] at QK
  obtain ⟨⟨x0, x1⟩, _, xl⟩ := ob2 h3
  have y1 : w3.cell? ⟨w2.heap.size, 1, none⟩ = some (.string K) := o3.cell 1 rfl
  have yl := o3.lt
  have O3 : Hid _ := o3
  have A3 : Hid _ := a3
  have H3 : Hid _ := h3
  have HW3 : Hid _ := hw3
  have HS2 : Hid (W.heap.size < w2.heap.size) := Nat.lt_of_lt_of_le F1.out.lt hb2.size
  clear hb2 hb3 o3 a3 h3 hw3 P1 P2 F1 F2 G1 G2 HB1 HB2 QF c0 c1 c2 c3 c4 c5 c6 c7 c8 c9 c10 cl
  go_upto_region 4 with fail
  rw [← HW3.out]
  clear HW3
  go_wp2_with fail
  refine Calls.mono QK.out ?_
  rintro e w4 ⟨rfl, hg4, n4, g4, ht4, hP4⟩
  obtain ⟨rfl, rfl⟩ : n4 = 2 ∧ g4 = (gput (gput (fun _ => none) K (pkgV A)) (strOfNums [97]) (pkgV A)) := by
    rcases ht4 with ⟨h, _⟩ | ⟨h, _⟩ | ⟨_, h1, h2⟩
    · cases h
    · cases h
    · exact ⟨h1, by rw [h2, HK.out]⟩
  have hs2 := HS2.out
  have hbs : bs < W.heap.size := hl2
  have o4 := O3.out.grown hg4 (fun e => by have := Option.some.inj e; omega)
  have a4 := A3.out.grown hg4 (fun e => by have := Option.some.inj e; omega)
  have h4 := H3.out.grown hg4 (fun e => by have := Option.some.inj e; omega)
  have f4 := F3.out.grown hg4 (fun e => by have := Option.some.inj e; omega)
  have gg4 := G3.out.grown hg4 (fun e => by have := Option.some.inj e; exact hgn this)
  have HG4 : Hid (W.grownBy w4 (some bs)) := grown_transV (grown_ofV HB3.out) hg4
  obtain ⟨w5, hw5⟩ : ∃ w5, w5 = w4.alloc (.cells #[layV (w2.heap.size + 1 + 1) (w2.heap.size + 1) w4.heap.size] 206) := ⟨_, rfl⟩
  have hb5 : Below w4.heap.size w4 w5 := by rw [hw5]; exact (Below.refl _ _).alloc (Nat.le_refl _) _
  have q5 : Ob w5 w4.heap.size #[layV (w2.heap.size + 1 + 1) (w2.heap.size + 1) w4.heap.size] 206 := by rw [hw5]; exact Ob.new _ _ _
  have o5 := o4.below hb5 o4.lt
  have a5 := a4.below hb5 a4.lt
  have h5 := h4.below hb5 h4.lt
  have f5 := f4.below hb5 f4.lt
  have gg5 := gg4.below hb5 gg4.lt
  have P5 := hP4.below hb5 (Nat.le_refl _)
  have L5 : Hid (Lz w5 w5 (w2.heap.size + 1 + 1) (w2.heap.size + 1) w4.heap.size bp bs be (.slice none 0 0) A 2 (gput (gput (fun _ => none) K (pkgV A)) (strOfNums [97]) (pkgV A))) :=
    ⟨P5, h5, a5, q5, ⟨h5.lt, a5.lt, q5.lt, P5.blk.lt, P5.sym.lt, P5.ext.lt⟩, ⟨by omega, by omega, fun e => by have := hP4.sym.lt; omega⟩, World.grownBy.refl _ _⟩
  have QL : Hid _ := play1 [97, 46, 98] [77] HK3 (show Hid _ from by show byts _; unfold byts; decide) (by decide) (by decide) A w5 L5 gg5 (by
    rw [show njoin [97, 46, 98] [77] = [97, 46, 98, 46, 77] from by decide, HK.out]
    unfold gput
    rw [if_neg, if_neg]
    · intro e; have := str_inj (by unfold byts; decide) (by unfold byts; decide) e; cases this
    · intro e; have := str_inj (by unfold byts; decide) (by unfold byts; decide) e; cases this)
  rw [show njoin [97, 46, 98] [77] = [97, 46, 98, 46, 77] from by decide, ← HK.out] at QL
  have HG5 : Hid (W.grownBy w5 (some bs)) := grown_transV HG4.out (grown_ofV hb5)
  have e5 : (w4.alloc (.cells #[.nilFunc] 206)).heap[w4.heap.size]? = some (.cells #[.nilFunc] 206 (0, 0)) := heap_alloc_new _ _
  obtain ⟨r1, r2, r3⟩ := ob1 (Ob.mk e5)
  obtain ⟨s1, _, sl⟩ := ob1 q5
  have t1 : w5.cell? ⟨w2.heap.size, 1, none⟩ = some (.string K) := o5.cell 1 rfl
  have tl := o5.lt
  have u4 : w5.cell? ⟨W.heap.size, 4, none⟩ = some (.slice (some ⟨gm, 0, none⟩) 1 1) := f5.cell 4 rfl
  have ul := f5.lt
  have hmf : ∀ (fn : Fn) (first cap : Array Value) (w : World), (Instr.makeFunc fn first cap).run Tryz.prog w = .ok (.func fn first cap) w := fun _ _ _ _ => rfl
  unfold layV at s1 hw5
  have O5 : Hid _ := o5
  have H5 : Hid _ := h5
  have HW5 : Hid _ := hw5
  clear hg4 ht4 hP4 o4 a4 h4 f4 gg4 hw5 hb5 q5 o5 a5 h5 f5 gg5 P5 e5 QK O3 A3 H3 F3 G3 P3 HB3 HG4 x0 x1 xl y1 yl hs2 hbs L5
  go_upto_region 7 with fail
  rw [← HW5.out]
  clear HW5 r1 r2 r3
  go_wp2_with fail
  refine Calls.mono QL.out ?_
  rintro e w6 ⟨rfl, hL6⟩
  have hs2 := HS2.out
  have hbs : bs < W.heap.size := hl2
  have o6 := O5.out.grown hL6.gr (fun e => by have := Option.some.inj e; omega)
  have HG6 : Hid (W.grownBy w6 (some bs)) := grown_transV HG5.out hL6.gr
  obtain ⟨w7, hw7⟩ : ∃ w7, w7 = w6.setCell ⟨w2.heap.size, 4, none⟩ (.slice (some ⟨w5.heap.size, 0, none⟩) 1 1) := ⟨_, rfl⟩
  have hb7 : Below w2.heap.size w6 w7 := by rw [hw7]; exact (Below.refl _ _).setCell (p := ⟨w2.heap.size, 4, none⟩) (Nat.le_refl _) _
  have o7 : Ob w7 w2.heap.size #[.string A, .string K, .slice none 0 0, .slice none 0 0, .slice (some ⟨w5.heap.size, 0, none⟩) 1 1, .slice none 0 0, .slice none 0 0, .slice none 0 0, .string Y, .slice none 0 0, .slice none 0 0] 62 := by rw [hw7]; have := o6.set 4 (.slice (some ⟨w5.heap.size, 0, none⟩) 1 1); simpa using this
  have h7 : Ob w7 (w2.heap.size + 1 + 1) #[.pointer (some ⟨bp, 0, none⟩), .string A] 204 := by rw [hw7]; exact hL6.hb.other (by omega) _ _
  have p6 := hL6.po
  have P7 : Hid (Po w7 bp bs be (.slice none 0 0) 3 (gput (gput (gput (fun _ => none) K (pkgV A)) (strOfNums [97]) (pkgV A)) (strOfNums [97, 46, 98, 46, 77]) (.agg #[.int .i64 2, .string A, .pointer (some ⟨w5.heap.size, 0, none⟩), .pointer none, .pointer none]))) := ⟨p6.blk.below hb7 (by omega), p6.sym.below hb7 (by omega), p6.ext.below hb7 (by omega), p6.ne, p6.sl⟩
  have HK7 : Hid (Kp W w7 bp bs) := by
    obtain ⟨a1, a2, a3, a4, a5⟩ := HG6.out
    rw [hw7]
    exact ⟨a1, a2, a3, by simpa using a4, fun k hk h1 h2 => (heap_setCell_other _ _ _ _ (by simp; omega)).trans (a5 k hk (fun e => h2 (Option.some.inj e)))⟩
  have v1 : w6.cell? ⟨w2.heap.size, 4, none⟩ = some (.slice none 0 0) := o6.cell 4 rfl
  have v2 : w6.frozen? ⟨w2.heap.size, 4, none⟩ = false := o6.frozen 4
  have v3 : w2.heap.size < w6.heap.size := o6.lt
  obtain ⟨⟨x0, x1⟩, _, xl⟩ := ob2 h7
  have y1 : w7.cell? ⟨w2.heap.size, 1, none⟩ = some (.string K) := o7.cell 1 rfl
  have y2 : w7.cell? ⟨w2.heap.size, 5, none⟩ = some (.slice none 0 0) := o7.cell 5 rfl
  have yl := o7.lt
  have O7 : Hid _ := o7
  have H7 : Hid _ := h7
  have HW7 : Hid _ := hw7
  clear hL6 o6 hb7 o7 h7 p6 hw7 QL s1 sl t1 tl u4 ul O5 H5 HG5 HG6 hs2 hbs
  go_upto_region 8 with fail
  rw [← HW7.out]
  clear HW7 v1 v2 v3
  go_wp2_with fail
  refine Calls.mono (penums0 _ _ _ _ _ _) ?_
  rintro e w8 ⟨rfl, hb8⟩
  have O8 : Hid _ := O7.out.below hb8 O7.out.lt
  have H8 : Hid _ := H7.out.below hb8 H7.out.lt
  have P8 : Hid _ := P7.out.below hb8 (Nat.le_refl _)
  have HK8 : Hid (Kp W w8 bp bs) := ⟨hb8.os.trans HK7.out.os, hb8.tape.trans HK7.out.tape, hb8.output.trans HK7.out.output, Nat.le_trans HK7.out.size hb8.size, fun k hk h1 h2 => (hb8.block k (Nat.lt_of_lt_of_le hk HK7.out.size)).trans (HK7.out.block k hk h1 h2)⟩
  clear hb8 O7 H7 P7 HK7 x0 x1 xl y1 y2 yl
  obtain ⟨⟨x0, x1⟩, _, xl⟩ := ob2 H8.out
  have y1 : w8.cell? ⟨w2.heap.size, 1, none⟩ = some (.string K) := O8.out.cell 1 rfl
  have y2 : w8.cell? ⟨w2.heap.size, 6, none⟩ = some (.slice none 0 0) := O8.out.cell 6 rfl
  have yl := O8.out.lt
  go_wp2_with fail
  refine Calls.mono (pservs0 _ _ _ _ _ _) ?_
  rintro e w9 ⟨rfl, hb9⟩
  have O9 : Hid _ := O8.out.below hb9 O8.out.lt
  have H9 : Hid _ := H8.out.below hb9 H8.out.lt
  have P9 : Hid _ := P8.out.below hb9 (Nat.le_refl _)
  have HK9 : Hid (Kp W w9 bp bs) := ⟨hb9.os.trans HK8.out.os, hb9.tape.trans HK8.out.tape, hb9.output.trans HK8.out.output, Nat.le_trans HK8.out.size hb9.size, fun k hk h1 h2 => (hb9.block k (Nat.lt_of_lt_of_le hk HK8.out.size)).trans (HK8.out.block k hk h1 h2)⟩
  clear hb9 O8 H8 P8 HK8 x0 x1 xl y1 y2 yl
  obtain ⟨⟨x0, x1⟩, _, xl⟩ := ob2 H9.out
  have y1 : w9.cell? ⟨w2.heap.size, 1, none⟩ = some (.string K) := O9.out.cell 1 rfl
  have y2 : w9.cell? ⟨w2.heap.size, 7, none⟩ = some (.slice none 0 0) := O9.out.cell 7 rfl
  have yl := O9.out.lt
  go_wp2_with fail
  refine Calls.mono (pexts0 _ _ _ _ _ _) ?_
  rintro e w10 ⟨rfl, hb10⟩
  have O10 : Hid _ := O9.out.below hb10 O9.out.lt
  have H10 : Hid _ := H9.out.below hb10 H9.out.lt
  have P10 : Hid _ := P9.out.below hb10 (Nat.le_refl _)
  have HK10 : Hid (Kp W w10 bp bs) := ⟨hb10.os.trans HK9.out.os, hb10.tape.trans HK9.out.tape, hb10.output.trans HK9.out.output, Nat.le_trans HK9.out.size hb10.size, fun k hk h1 h2 => (hb10.block k (Nat.lt_of_lt_of_le hk HK9.out.size)).trans (HK9.out.block k hk h1 h2)⟩
  clear hb10 O9 H9 P9 HK9 x0 x1 xl y1 y2 yl
  obtain ⟨⟨x0, x1⟩, _, xl⟩ := ob2 H10.out
  have y1 : w10.cell? ⟨w2.heap.size, 1, none⟩ = some (.string K) := O10.out.cell 1 rfl
  have y2 : w10.cell? ⟨w2.heap.size, 7, none⟩ = some (.slice none 0 0) := O10.out.cell 7 rfl
  have yl := O10.out.lt
  clear x0 x1 xl y1 y2 yl H10
  go_upto_region 11 with fail
  refine wp_region_heldG 10 (S := fun V => Hid (Ob V bp #[.slice none 0 0, .map (some bs), .map (some be)] 96 ∧ Ob V w2.heap.size #[.string A, .string K, .slice none 0 0, .slice none 0 0, .slice (some ⟨w5.heap.size, 0, none⟩) 1 1, .slice none 0 0, .slice none 0 0, .slice none 0 0, .string Y, .slice none 0 0, .slice none 0 0] 62)) (by kernel_rfl) ?_
  obtain ⟨w11, hw11⟩ : ∃ w11, w11 = w10.drew := ⟨_, rfl⟩
  have P11 : Hid _ := (show Po w11 bp bs be (.slice none 0 0) 3 _ by rw [hw11]; exact P10.out.below (Below.refl _ _).drew (Nat.le_refl _))
  have O11 : Hid _ := (show Ob w11 w2.heap.size #[.string A, .string K, .slice none 0 0, .slice none 0 0, .slice (some ⟨w5.heap.size, 0, none⟩) 1 1, .slice none 0 0, .slice none 0 0, .slice none 0 0, .string Y, .slice none 0 0, .slice none 0 0] 62 by rw [hw11]; exact O10.out.drew)
  have HK11 : Hid (Kp W w11 bp bs) := by rw [hw11]; exact ⟨HK10.out.os, HK10.out.tape, HK10.out.output, HK10.out.size, HK10.out.block⟩
  rw [← hw11]
  clear hw11 P10 O10 HK10
  have HS0 : Hid (Ob w11 bp #[.slice none 0 0, .map (some bs), .map (some be)] 96 ∧ Ob w11 w2.heap.size #[.string A, .string K, .slice none 0 0, .slice none 0 0, .slice (some ⟨w5.heap.size, 0, none⟩) 1 1, .slice none 0 0, .slice none 0 0, .slice none 0 0, .string Y, .slice none 0 0, .slice none 0 0] 62) := ⟨P11.out.blk, O11.out⟩
  refine wpAnyG_take (i := 0) (v := ?_) rfl (by kernel_rfl) (by kernel_rfl) (by kernel_rfl) (by kernel_rfl) (fun _ _ _ h => h) (Or.inl ⟨by rfl, ?_⟩) HS0.out ?_
  rotate_left
  · rintro V HV
    go_simp
    try with_reducible rfl
  refine wpAnyG_take (i := 1) (v := ?_) rfl (by kernel_rfl) (by kernel_rfl) (by kernel_rfl) (by kernel_rfl) (fun _ _ _ h => h) (Or.inl ⟨by rfl, ?_⟩) HS0.out ?_
  rotate_left
  · rintro V HV
    go_simp
    try with_reducible rfl
  refine wpAnyG_take (i := 2) (v := ?_) rfl (by kernel_rfl) (by kernel_rfl) (by kernel_rfl) (by kernel_rfl) (fun _ _ _ h => h) (Or.inl ⟨by rfl, ?_⟩) HS0.out ?_
  rotate_left
  · rintro V HV
    go_simp
    try with_reducible rfl
  refine wpAnyG_take (i := 3) (v := ?_) rfl (by kernel_rfl) (by kernel_rfl) (by kernel_rfl) (by kernel_rfl) (fun _ _ _ h => h) (Or.inl ⟨by rfl, ?_⟩) HS0.out ?_
  rotate_left
  · rintro V HV
    go_simp
    try with_reducible rfl
  refine wpAnyG_take (i := 4) (v := ?_) rfl (by kernel_rfl) (by kernel_rfl) (by kernel_rfl) (by kernel_rfl) (fun _ _ _ h => h) (Or.inl ⟨by rfl, ?_⟩) HS0.out ?_
  rotate_left
  · rintro V HV
    have z1 := HV.out.1.cell 0 rfl
    go_simp
    try with_reducible rfl
  refine wpAnyG_take (i := 5) (v := ?_) rfl (by kernel_rfl) (by kernel_rfl) (by kernel_rfl) (by kernel_rfl) (fun _ _ _ h => h) (Or.inl ⟨by rfl, ?_⟩) HS0.out ?_
  rotate_left
  · rintro V HV
    obtain ⟨⟨z0, z1, z2, z3, z4, z5, z6, z7, z8, z9, z10⟩, _, zl⟩ := ob11 HV.out.2
    go_simp
    try with_reducible rfl
  refine wpAnyG_all (rs := [6]) (by kernel_rfl) (by simp) ?_
  intro i hi
  obtain rfl : i = 6 := by simpa using hi
  clear hi
  refine wpOp_listV rfl ?_
  intro Q' hQ'
  have HQ : Hid _ := hQ'
  clear hQ'
  obtain ⟨w12, hw12⟩ : ∃ w12, w12 = w11.alloc (.cells #[.string A, .string K, .slice none 0 0, .slice none 0 0, .slice (some ⟨w5.heap.size, 0, none⟩) 1 1, .slice none 0 0, .slice none 0 0, .slice none 0 0, .string Y, .slice none 0 0, .slice none 0 0] 62) := ⟨_, rfl⟩
  have hb12 : Below w11.heap.size w11 w12 := by rw [hw12]; exact (Below.refl _ _).alloc (Nat.le_refl _) _
  have n12 : Ob w12 w11.heap.size #[.string A, .string K, .slice none 0 0, .slice none 0 0, .slice (some ⟨w5.heap.size, 0, none⟩) 1 1, .slice none 0 0, .slice none 0 0, .slice none 0 0, .string Y, .slice none 0 0, .slice none 0 0] 62 := by rw [hw12]; exact Ob.new _ _ _
  have P12 : Hid _ := P11.out.below hb12 (Nat.le_refl _)
  have O12 : Hid _ := O11.out.below hb12 O11.out.lt
  have HK12 : Hid (Kp W w12 bp bs) := ⟨hb12.os.trans HK11.out.os, hb12.tape.trans HK11.out.tape, hb12.output.trans HK11.out.output, Nat.le_trans HK11.out.size hb12.size, fun k hk h1 h2 => (hb12.block k (Nat.lt_of_lt_of_le hk HK11.out.size)).trans (HK11.out.block k hk h1 h2)⟩
  obtain ⟨v13, w13, hr13, hg13, ad13, nn13, cp13, rfl⟩ := run_append_file w12 w11.heap.size 1 #[.string A, .string K, .slice none 0 0, .slice none 0 0, .slice (some ⟨w5.heap.size, 0, none⟩) 1 1, .slice none 0 0, .slice none 0 0, .slice none 0 0, .string Y, .slice none 0 0, .slice none 0 0] rfl n12 (by intro u hu; simp only [List.mem_cons, List.not_mem_nil, or_false] at hu; rcases hu with rfl | rfl | rfl | rfl | rfl | rfl | rfl | rfl | rfl | rfl | rfl <;> rfl) 22
  have hb13 : Below w12.heap.size w12 w13 := ⟨hg13.os, hg13.tape, hg13.output, hg13.size, fun k hk => hg13.block k hk (by simp)⟩
  have p13 := P12.out.below hb13 (Nat.le_refl _)
  have o13 := O12.out.below hb13 O12.out.lt
  have HK13 : Hid (Kp W w13 bp bs) := ⟨hb13.os.trans HK12.out.os, hb13.tape.trans HK12.out.tape, hb13.output.trans HK12.out.output, Nat.le_trans HK12.out.size hb13.size, fun k hk h1 h2 => (hb13.block k (Nat.lt_of_lt_of_le hk HK12.out.size)).trans (HK12.out.block k hk h1 h2)⟩
  have HS12 : Hid (Ob w12 bp #[.slice none 0 0, .map (some bs), .map (some be)] 96 ∧ Ob w12 w2.heap.size #[.string A, .string K, .slice none 0 0, .slice none 0 0, .slice (some ⟨w5.heap.size, 0, none⟩) 1 1, .slice none 0 0, .slice none 0 0, .slice none 0 0, .string Y, .slice none 0 0, .slice none 0 0] 62) := ⟨P12.out.blk, O12.out⟩
  have HS13 : Hid (Ob w13 bp #[.slice none 0 0, .map (some bs), .map (some be)] 96 ∧ Ob w13 w2.heap.size #[.string A, .string K, .slice none 0 0, .slice none 0 0, .slice (some ⟨w5.heap.size, 0, none⟩) 1 1, .slice none 0 0, .slice none 0 0, .slice none 0 0, .string Y, .slice none 0 0, .slice none 0 0] 62) := ⟨p13.blk, o13⟩
  obtain ⟨⟨q0, q1, q2⟩, ⟨q3, q4, q5⟩, ql⟩ := ob3 p13.blk
  have P13 : Hid _ := p13
  have HW12 : Hid _ := hw12
  have HR13 : Hid _ := hr13
  clear hb12 n12 hw12 hr13 hg13 hb13 p13 o13 P11 P12 O11 O12 HK11 HK12
  go_wp2
  rw [← HW12.out]
  refine HQ.out _ _ ⟨.inr HS12, ?_⟩
  clear HQ HW12
  refine wpAnyG_all (rs := [7]) (by kernel_rfl) (by simp) ?_
  intro i hi
  obtain rfl : i = 7 := by simpa using hi
  clear hi
  refine wpOp_listV rfl ?_
  intro Q' hQ'
  have HQ : Hid _ := hQ'
  clear hQ'
  refine wpList_append_eqV rfl _ _ 22 rfl rfl rfl HR13.out ?_
  refine HQ.out _ _ ⟨.inr HS13, ?_⟩
  clear HQ HR13
  refine wpAnyG_all (rs := [8]) (by kernel_rfl) (by simp) ?_
  intro i hi
  obtain rfl : i = 8 := by simpa using hi
  clear hi
  refine wpOp_listV rfl ?_
  intro Q' hQ'
  have HQ : Hid _ := hQ'
  clear hQ'
  go_wp2
  refine HQ.out _ _ ⟨.inr HS13, ?_⟩
  clear HQ
  refine wpAnyG_all (rs := [9]) (by kernel_rfl) (by simp) ?_
  intro i hi
  obtain rfl : i = 9 := by simpa using hi
  clear hi
  refine wpOp_listV rfl ?_
  intro Q' hQ'
  have HQ : Hid _ := hQ'
  clear hQ'
  go_wp2
  refine HQ.out _ _ ⟨.inr HS13, ?_⟩
  clear HQ
  refine wpAnyG_all (rs := [10]) (by kernel_rfl) (by simp) ?_
  intro i hi
  obtain rfl : i = 10 := by simpa using hi
  clear hi
  refine wpOp_listV rfl ?_
  intro Q' hQ'
  have HQ : Hid _ := hQ'
  clear hQ'
  go_wp2
  refine HQ.out _ _ ⟨.inl (by first | trivial | rfl), ?_⟩
  clear HQ
  refine wpAnyG_done (by kernel_rfl) ?_ _
  have b14 := P13.out.blk.set 0 (.slice ad13 nn13 cp13)
  have e14 : ∀ k, k ≠ bp → (w13.setCell ⟨bp, 0, none⟩ (.slice ad13 nn13 cp13)).heap[k]? = w13.heap[k]? := fun k hk => heap_setCell_other _ _ _ _ (by simpa using hk)
  have P14 : Hid (∃ vf ad, Po (w13.setCell ⟨bp, 0, none⟩ (.slice ad13 nn13 cp13)) bp bs be vf 3 (gput (gput (gput (fun _ => none) K (pkgV A)) (strOfNums [97]) (pkgV A)) (strOfNums [97, 46, 98, 46, 77]) (.agg #[.int .i64 2, .string A, .pointer ad, .pointer none, .pointer none]))) := by
    have p := P13.out
    obtain ⟨es, clock, h1, h2⟩ := p.sym
    obtain ⟨es2, clock2, h3, h4⟩ := p.ext
    exact ⟨.slice ad13 nn13 cp13, some ⟨w5.heap.size, 0, none⟩, ⟨by simpa using b14, ⟨es, clock, (e14 bs (Ne.symm p.ne.1)).trans h1, h2⟩, ⟨es2, clock2, (e14 be (Ne.symm p.ne.2.2)).trans h3, h4⟩, p.ne, ⟨_, _, _, rfl⟩⟩⟩
  have HK14 : Hid (Kp W (w13.setCell ⟨bp, 0, none⟩ (.slice ad13 nn13 cp13)) bp bs) := ⟨HK13.out.os, HK13.out.tape, HK13.out.output, by simpa using HK13.out.size, fun k hk h1 h2 => (e14 k h1).trans (HK13.out.block k hk h1 h2)⟩
  clear b14 e14 P13 HK13 HS13 HS12 HS0 q0 q1 q2 q3 q4 q5 ql
  go_wp2
  go_end0
  exact ⟨rfl, HK14.out, P14.out⟩

end Go.Proofs.YtafmoceinamcdaaGreat
