/- Put together by a program out of these texts of mine: CkX. -/
import Derived.Test.YtcnjjhdmnagkgaaGreatDoorBunC23

namespace Go.Proofs.YtcnjjhdmnagkgaaGreatDoor
open Go.RowKit
set_option linter.unusedVariables false
set_option linter.unusedSimpArgs false

set_option maxRecDepth 10000 in
set_option maxHeartbeats 1000000 in
theorem cpk0 (bp : Nat) (A K : ByteArray) (hK : K = ⟨#[]⟩) (w : World) :
    Calls Tryz.prog 145 #[.agg #[.pointer (some ⟨bp, 0, none⟩), .string A], .string K] w fun e w' => e = .returned (.tuple #[]) ∧ Below w.heap.size w w' := by
  subst hK
  obtain ⟨w3, hw3⟩ : ∃ w3, w3 = w.alloc (.cells #[.pointer (some ⟨bp, 0, none⟩), .string A] 224) := ⟨_, rfl⟩
  have HB : Hid (Below w.heap.size w w3) := by rw [hw3]; exact (Below.refl _ _).alloc (Nat.le_refl _) _
  have HW : Hid _ := hw3
  clear hw3
  go_enter Tryz.func145, Tryz.ntmps145
  go_upto_region 1 with fail
  rw [← HW.out]
  clear HW
  go_loopw [1] (fun v wr => v = .string ⟨#[]⟩ ∧ w3 = wr) (fun _ _ => 0)
  case atStart => exact ⟨rfl, rfl⟩
  case round =>
    obtain ⟨rfl, rfl⟩ := hrel
    go_wp2
    go_end0
    exact ⟨rfl, HB.out⟩

def Fx (w : World) (lo bp bs be : Nat) (A K : ByteArray) : Prop := ∃ gx cx ga gb gc n g, Po w bp bs be (.slice (some ⟨gx, 0, none⟩) 1 cx) n g ∧ gx < w.heap.size ∧ lo ≤ gx ∧ ∀ j v, (#[.string A, .string K, .slice none 0 0, .slice none 0 0, .slice ga gb gc, .slice none 0 0, .slice none 0 0, .slice none 0 0, .string K, .slice none 0 0, .slice none 0 0] : Array Value)[j]? = some v → w.cell? ⟨gx, j, none⟩ = some v

theorem Fx.below {w w' : World} {lo bp bs be : Nat} {A K : ByteArray} (h : Fx w lo bp bs be A K) {B : Nat} (hb : Below B w w') (hB : w.heap.size ≤ B) : Fx w' lo bp bs be A K := by
  obtain ⟨gx, cx, ga, gb, gc, n, g, h1, h2, h3, h4⟩ := h
  exact ⟨gx, cx, ga, gb, gc, n, g, h1.below hb hB, Nat.lt_of_lt_of_le h2 hb.size, h3, fun j v hj => (hb.cell (p := ⟨gx, j, none⟩) (by show gx < B; omega)).trans (h4 j v hj)⟩

theorem Fx.from {w : World} {lo lo' bp bs be : Nat} {A K : ByteArray} (h : Fx w lo bp bs be A K) (hl : lo' ≤ lo) : Fx w lo' bp bs be A K := by
  obtain ⟨gx, cx, ga, gb, gc, n, g, h1, h2, h3, h4⟩ := h
  exact ⟨gx, cx, ga, gb, gc, n, g, h1, h2, Nat.le_trans hl h3, h4⟩

theorem Fx.ext {w : World} {lo bp bs be : Nat} {A K : ByteArray} (h : Fx w lo bp bs be A K) : Mg w be 0 (fun _ => none) ∧ w.cell? ⟨bp, 2, none⟩ = some (.map (some be)) ∧ bp < w.heap.size := by
  obtain ⟨gx, cx, ga, gb, gc, n, g, h1, h2, h3, h4⟩ := h
  exact ⟨h1.ext, h1.blk.cell 2 rfl, h1.blk.lt⟩

theorem Fx.set {w : World} {lo bp bs be : Nat} {A K : ByteArray} (h : Fx w lo bp bs be A K) {b : Nat} (j : Nat) (v : Value) (h1 : b ≠ bp) (h2 : b ≠ bs) (h3 : b ≠ be) (h4 : b < lo) : Fx (w.setCell ⟨b, j, none⟩ v) lo bp bs be A K := by
  obtain ⟨gx, cx, ga, gb, gc, n, g, p, l1, l2, l3⟩ := h
  have e : ∀ k, k ≠ b → (w.setCell ⟨b, j, none⟩ v).heap[k]? = w.heap[k]? := fun k hk => heap_setCell_other _ _ _ _ (by simpa using hk)
  obtain ⟨es, clock, m1, m2⟩ := p.sym
  obtain ⟨es2, clock2, m3, m4⟩ := p.ext
  exact ⟨gx, cx, ga, gb, gc, n, g, ⟨p.blk.other (Ne.symm h1) j v, ⟨es, clock, (e bs (Ne.symm h2)).trans m1, m2⟩, ⟨es2, clock2, (e be (Ne.symm h3)).trans m3, m4⟩, p.ne, p.sl⟩, by simpa using l1, l2, fun k u hk => (World.cell?_of_block (e gx (by omega))).trans (l3 k u hk)⟩

theorem run_append_fileX (W : World) (a : Nat) (c : Nat) (cs : Array Value) (hc : cs.size = 11) (h : Ob W a cs 46) (h1 : ∀ u ∈ cs.toList, u.oneCell' = true) (ty : TypeId) :
    ∃ w' gx cp, (Builtin.append_ #[22, 22] ty #[.slice none 0 0, .slice (some ⟨a, 0, none⟩) 1 c]).run Tryz.prog W = .ok (.slice (some ⟨gx, 0, none⟩) 1 cp) w' ∧ W.grownBy w' none ∧ (W.heap.size ≤ gx ∧ gx < w'.heap.size) ∧ ∀ j v, cs[j]? = some v → w'.cell? ⟨gx, j, none⟩ = some v := by
  obtain ⟨i0, hi, h2⟩ : ∃ i, Tryz.prog.info? 46 = some i ∧ (i.zero, i.size, i.bytes) = (some (.agg #[.string ⟨#[]⟩, .string ⟨#[]⟩, .slice none 0 0, .slice none 0 0, .slice none 0 0, .slice none 0 0, .slice none 0 0, .slice none 0 0, .string ⟨#[]⟩, .slice none 0 0, .slice none 0 0]), 11, ((Tryz.prog.info? 46).map (fun i => i.bytes)).getD 0) := by
    have := infoFileV
    cases hq : Tryz.prog.info? 46 with
    | none => rw [hq] at this; cases this
    | some i => rw [hq] at this; exact ⟨i, rfl, Option.some.inj this⟩
  simp only [Prod.mk.injEq] at h2
  obtain ⟨z1, z2, z3⟩ := h2
  have hB := infoFileB
  obtain ⟨v, w', hr, ho, hg, _, _⟩ := run_append_own_at (P := Tryz.prog) W W.heap.size 22 ty 46 i0 _ 11 i0.bytes Tryz.underlying22 hi z1 z2 rfl rfl (by omega) (.slice none 0 0) 0 [] (World.ownsRow_nil W W.heap.size 46 11) ⟨a, 0, none⟩ 1 c cs.toList (by simpa using hc) (fun j u hj => by
    have := h.cell j (v := u) (by simpa using hj)
    simp only [Addr.add]
    split
    · rename_i h0; rw [h0] at this; exact this
    · simpa using this) h1 (by unfold maxLen; omega) (by rw [z3]; omega) (Nat.le_refl _)
  rcases ho.2 with ⟨e, h0⟩ | ⟨g, cp, cur, e, _⟩
  · omega
  · subst e
    have hlt := ho.lt g rfl
    refine ⟨w', g, cp, hr, hg, ⟨hlt.1, hlt.2⟩, fun j v hj => ?_⟩
    have hjl : j < 11 := by rw [← hc]; exact (Array.getElem?_eq_some_iff.1 hj).1
    rw [ho.cellAt j (by simpa using hjl)]
    simpa using hj

set_option maxRecDepth 100000 in
set_option maxHeartbeats 8000000 in
theorem clayF1 (A K : ByteArray) (HK : Hid (K = ⟨#[]⟩)) (hA : A.size ≤ 1000000) (nm s t : List Int) (hnb : Hid (byts nm)) (hsb : Hid (byts s)) (htb : Hid (byts t)) (hnl : nm.length ≤ 1000) (hsl : s.length ≤ 1000) (htl : t.length ≤ 1000) (hf1 : strOfNums (njoin nm s) ≠ strOfNums nm) (hf2 : strOfNums (njoin nm t) ≠ strOfNums nm) (hf3 : strOfNums (njoin nm t) ≠ strOfNums (njoin nm s)) (gm gf : Nat) (W : World) {bp bs be : Nat} (hP : Hid (Po W bp bs be (.slice none 0 0) 0 (fun _ => none))) (hgm : Ob W gm (exG (strOfNums nm) gf 1) 42) (hgn : gm ≠ bs) (hgf : Hid (Ob W gf (exF (strOfNums s)) 34 ∧ gf ≠ bs)) :
    Calls Tryz.prog 105 #[.pointer (some ⟨bp, 0, none⟩), .agg (fil1 A K K gm)] W fun e W' => e = .returned (.tuple #[]) ∧ Kp W W' bp bs ∧ Fx W' W.heap.size bp bs be A K := by
  have hKs : K.size ≤ 1000000 := by rw [HK.out]; decide
  obtain ⟨w1, hw1⟩ : ∃ w1, w1 = W.alloc (.cells (fil1 A K K gm) 46) := ⟨_, rfl⟩
  have hb1 : Below W.heap.size W w1 := by rw [hw1]; exact (Below.refl _ _).alloc (Nat.le_refl _) _
  have f1 : Ob w1 W.heap.size (fil1 A K K gm) 46 := by rw [hw1]; exact Ob.new _ _ _
  have P1 : Hid _ := hP.out.below hb1 (Nat.le_refl _)
  have g1 := hgm.below hb1 hgm.lt
  have hl := hP.out.blk.lt
  have hl2 := hP.out.sym.lt
  have hl3 := hP.out.ext.lt
  have QF : Hid _ := pwfile0 A K K hA hKs hKs (.slice (some ⟨gm, 0, none⟩) 1 1) ⟨_, _, _, rfl⟩ w1
  unfold fil1 at *
  obtain ⟨⟨c0, c1, c2, c3, c4, c5, c6, c7, c8, c9, c10⟩, _, cl⟩ := ob11 f1
  have F1 : Hid _ := f1
  have G1 : Hid _ := g1
  have HB1 : Hid _ := hb1
  have HW1 : Hid _ := hw1
  have hgl : gm < W.heap.size := hgm.lt
  clear f1 g1 hb1 hw1 hgm hP
  go_enter Tryz.func105, Tryz.ntmps105
  go_upto_region 1 with fail
  rw [← HW1.out]
  clear HW1
  go_wp2_with fail
  refine Calls.mono QF.out ?_
  rintro e w2 ⟨rfl, hb2⟩
  have P2 : Hid _ := P1.out.below hb2 (Nat.le_refl _)
  have F2 : Hid _ := F1.out.below hb2 F1.out.lt
  have G2 : Hid _ := G1.out.below hb2 G1.out.lt
  have HB2 : Hid (Below W.heap.size W w2) := HB1.out.trans (hb2.mono HB1.out.size)
  obtain ⟨w3, hw3⟩ : ∃ w3, w3 = ((w2.alloc (.cells #[.string A, .string K, .slice none 0 0, .slice none 0 0, .slice none 0 0, .slice none 0 0, .slice none 0 0, .slice none 0 0, .string K, .slice none 0 0, .slice none 0 0] 46)).alloc (.cells #[.int .i64 1, .bool false] 221)).alloc (.cells #[.pointer (some ⟨bp, 0, none⟩), .string A] 224) := ⟨_, rfl⟩
  have hb3 : Below w2.heap.size w2 w3 := by rw [hw3]; exact (((Below.refl _ _).alloc (Nat.le_refl _) _).alloc (by simp) _).alloc (by simp; omega) _
  have o3 : Ob w3 w2.heap.size #[.string A, .string K, .slice none 0 0, .slice none 0 0, .slice none 0 0, .slice none 0 0, .slice none 0 0, .slice none 0 0, .string K, .slice none 0 0, .slice none 0 0] 46 := by rw [hw3]; exact ((Ob.new _ _ _).alloc _).alloc _
  have a3 : Ob w3 (w2.heap.size + 1) #[.int .i64 1, .bool false] 221 := by
    rw [hw3]
    have := (Ob.new (w2.alloc (.cells #[.string A, .string K, .slice none 0 0, .slice none 0 0, .slice none 0 0, .slice none 0 0, .slice none 0 0, .slice none 0 0, .string K, .slice none 0 0, .slice none 0 0] 46)) #[.int .i64 1, .bool false] 221).alloc (.cells #[.pointer (some ⟨bp, 0, none⟩), .string A] 224)
    simpa using this
  have h3 : Ob w3 (w2.heap.size + 1 + 1) #[.pointer (some ⟨bp, 0, none⟩), .string A] 224 := by
    rw [hw3]
    have := Ob.new ((w2.alloc (.cells #[.string A, .string K, .slice none 0 0, .slice none 0 0, .slice none 0 0, .slice none 0 0, .slice none 0 0, .slice none 0 0, .string K, .slice none 0 0, .slice none 0 0] 46)).alloc (.cells #[.int .i64 1, .bool false] 221)) #[.pointer (some ⟨bp, 0, none⟩), .string A] 224
    simpa using this
  have P3 : Hid _ := P2.out.below hb3 (Nat.le_refl _)
  have F3 : Hid _ := F2.out.below hb3 F2.out.lt
  have G3 : Hid _ := G2.out.below hb3 G2.out.lt
  have HB3 : Hid (Below W.heap.size W w3) := HB2.out.trans (hb3.mono HB2.out.size)
  have QK : Hid _ := cpk0 bp A K HK.out w3
  obtain ⟨⟨x0, x1⟩, _, xl⟩ := ob2 h3
  have y1 : w3.cell? ⟨w2.heap.size, 1, none⟩ = some (.string K) := o3.cell 1 rfl
  have yl := o3.lt
  have O3 : Hid _ := o3
  have A3 : Hid _ := a3
  have H3 : Hid _ := h3
  have HW3 : Hid _ := hw3
  have HS2 : Hid (W.heap.size < w2.heap.size) := Nat.lt_of_lt_of_le F1.out.lt hb2.size
  clear hb2 hb3 o3 a3 h3 hw3 P1 P2 F1 F2 G1 G2 HB1 HB2 QF c0 c1 c2 c3 c4 c5 c6 c7 c8 c9 c10 cl
  go_upto_region 4 with fail
  rw [← HW3.out]
  clear HW3
  go_wp2_with fail
  refine Calls.mono QK.out ?_
  rintro e w4 ⟨rfl, hb4⟩
  have hg4 : w3.grownBy w4 (some bs) := grown_ofV hb4
  have hP4 := P3.out.below hb4 (Nat.le_refl _)
  have hs2 := HS2.out
  have hbs : bs < W.heap.size := hl2
  have o4 := O3.out.grown hg4 (fun e => by have := Option.some.inj e; omega)
  have a4 := A3.out.grown hg4 (fun e => by have := Option.some.inj e; omega)
  have h4 := H3.out.grown hg4 (fun e => by have := Option.some.inj e; omega)
  have f4 := F3.out.grown hg4 (fun e => by have := Option.some.inj e; omega)
  have gg4 := G3.out.grown hg4 (fun e => by have := Option.some.inj e; exact hgn this)
  have HG4 : Hid (W.grownBy w4 (some bs)) := grown_transV (grown_ofV HB3.out) hg4
  obtain ⟨w5, hw5⟩ : ∃ w5, w5 = w4.alloc (.cells #[layV (w2.heap.size + 1 + 1) (w2.heap.size + 1) w4.heap.size] 226) := ⟨_, rfl⟩
  have hb5 : Below w4.heap.size w4 w5 := by rw [hw5]; exact (Below.refl _ _).alloc (Nat.le_refl _) _
  have q5 : Ob w5 w4.heap.size #[layV (w2.heap.size + 1 + 1) (w2.heap.size + 1) w4.heap.size] 226 := by rw [hw5]; exact Ob.new _ _ _
  have o5 := o4.below hb5 o4.lt
  have a5 := a4.below hb5 a4.lt
  have h5 := h4.below hb5 h4.lt
  have f5 := f4.below hb5 f4.lt
  have gg5 := gg4.below hb5 gg4.lt
  have P5 := hP4.below hb5 (Nat.le_refl _)
  have L5 : Hid (Lz w5 w5 (w2.heap.size + 1 + 1) (w2.heap.size + 1) w4.heap.size bp bs be (.slice none 0 0) A 0 (fun _ => none)) :=
    ⟨P5, h5, a5, q5, ⟨h5.lt, a5.lt, q5.lt, P5.blk.lt, P5.sym.lt, P5.ext.lt⟩, ⟨by omega, by omega, fun e => by have := hP4.sym.lt; omega⟩, World.grownBy.refl _ _⟩
  have HG5 : Hid (W.grownBy w5 (some bs)) := grown_transV HG4.out (grown_ofV hb5)
  have QL : Hid _ := clay1 nm s t hnb hsb htb hnl hsl htl hf1 hf2 hf3 A w5 L5 gg5 (show Hid _ from ⟨hgf.out.1.grown HG5.out (fun e => hgf.out.2 (Option.some.inj e)), hgf.out.2⟩)
  rw [show strOfNums [] = K from HK.out.symm ▸ rfl] at QL
  have e5 : (w4.alloc (.cells #[.nilFunc] 226)).heap[w4.heap.size]? = some (.cells #[.nilFunc] 226 (0, 0)) := heap_alloc_new _ _
  obtain ⟨r1, r2, r3⟩ := ob1 (Ob.mk e5)
  obtain ⟨s1, _, sl⟩ := ob1 q5
  have t1 : w5.cell? ⟨w2.heap.size, 1, none⟩ = some (.string K) := o5.cell 1 rfl
  have tl := o5.lt
  have u4 : w5.cell? ⟨W.heap.size, 4, none⟩ = some (.slice (some ⟨gm, 0, none⟩) 1 1) := f5.cell 4 rfl
  have ul := f5.lt
  have hmf : ∀ (fn : Fn) (first cap : Array Value) (w : World), (Instr.makeFunc fn first cap).run Tryz.prog w = .ok (.func fn first cap) w := fun _ _ _ _ => rfl
  unfold layV at s1 hw5
  have O5 : Hid _ := o5
  have H5 : Hid _ := h5
  have HW5 : Hid _ := hw5
  clear hg4 hb4 hP4 o4 a4 h4 f4 gg4 hw5 hb5 q5 o5 a5 h5 f5 gg5 P5 e5 QK O3 A3 H3 F3 G3 P3 HB3 HG4 x0 x1 xl y1 yl hs2 hbs L5
  go_upto_region 7 with fail
  rw [← HW5.out]
  clear HW5 r1 r2 r3
  go_wp2_with fail
  refine Calls.mono QL.out ?_
  rintro e w6 ⟨rfl, nq, gq, hL6⟩
  have hs2 := HS2.out
  have hbs : bs < W.heap.size := hl2
  have o6 := O5.out.grown hL6.gr (fun e => by have := Option.some.inj e; omega)
  have HG6 : Hid (W.grownBy w6 (some bs)) := grown_transV HG5.out hL6.gr
  obtain ⟨w7, hw7⟩ : ∃ w7, w7 = w6.setCell ⟨w2.heap.size, 4, none⟩ (.slice (some ⟨w5.heap.size, 0, none⟩) 1 1) := ⟨_, rfl⟩
  have hb7 : Below w2.heap.size w6 w7 := by rw [hw7]; exact (Below.refl _ _).setCell (p := ⟨w2.heap.size, 4, none⟩) (Nat.le_refl _) _
  have o7 : Ob w7 w2.heap.size #[.string A, .string K, .slice none 0 0, .slice none 0 0, .slice (some ⟨w5.heap.size, 0, none⟩) 1 1, .slice none 0 0, .slice none 0 0, .slice none 0 0, .string K, .slice none 0 0, .slice none 0 0] 46 := by rw [hw7]; have := o6.set 4 (.slice (some ⟨w5.heap.size, 0, none⟩) 1 1); simpa using this
  have h7 : Ob w7 (w2.heap.size + 1 + 1) #[.pointer (some ⟨bp, 0, none⟩), .string A] 224 := by rw [hw7]; exact hL6.hb.other (by omega) _ _
  have p6 := hL6.po
  have P7 : Hid (Po w7 bp bs be (.slice none 0 0) nq gq) := ⟨p6.blk.below hb7 (by omega), p6.sym.below hb7 (by omega), p6.ext.below hb7 (by omega), p6.ne, p6.sl⟩
  have HK7 : Hid (Kp W w7 bp bs) := by
    obtain ⟨a1, a2, a3, a4, a5⟩ := HG6.out
    rw [hw7]
    exact ⟨a1, a2, a3, by simpa using a4, fun k hk h1 h2 => (heap_setCell_other _ _ _ _ (by simp; omega)).trans (a5 k hk (fun e => h2 (Option.some.inj e)))⟩
  have v1 : w6.cell? ⟨w2.heap.size, 4, none⟩ = some (.slice none 0 0) := o6.cell 4 rfl
  have v2 : w6.frozen? ⟨w2.heap.size, 4, none⟩ = false := o6.frozen 4
  have v3 : w2.heap.size < w6.heap.size := o6.lt
  obtain ⟨⟨x0, x1⟩, _, xl⟩ := ob2 h7
  have y1 : w7.cell? ⟨w2.heap.size, 1, none⟩ = some (.string K) := o7.cell 1 rfl
  have y2 : w7.cell? ⟨w2.heap.size, 5, none⟩ = some (.slice none 0 0) := o7.cell 5 rfl
  have yl := o7.lt
  have O7 : Hid _ := o7
  have H7 : Hid _ := h7
  have HW7 : Hid _ := hw7
  clear hL6 o6 hb7 o7 h7 p6 hw7 QL s1 sl t1 tl u4 ul O5 H5 HG5 HG6 hs2 hbs
  go_upto_region 8 with fail
  rw [← HW7.out]
  clear HW7 v1 v2 v3
  go_wp2_with fail
  refine Calls.mono (penums0 _ _ _ _ _ _) ?_
  rintro e w8 ⟨rfl, hb8⟩
  have O8 : Hid _ := O7.out.below hb8 O7.out.lt
  have H8 : Hid _ := H7.out.below hb8 H7.out.lt
  have P8 : Hid _ := P7.out.below hb8 (Nat.le_refl _)
  have HK8 : Hid (Kp W w8 bp bs) := ⟨hb8.os.trans HK7.out.os, hb8.tape.trans HK7.out.tape, hb8.output.trans HK7.out.output, Nat.le_trans HK7.out.size hb8.size, fun k hk h1 h2 => (hb8.block k (Nat.lt_of_lt_of_le hk HK7.out.size)).trans (HK7.out.block k hk h1 h2)⟩
  clear hb8 O7 H7 P7 HK7 x0 x1 xl y1 y2 yl
  obtain ⟨⟨x0, x1⟩, _, xl⟩ := ob2 H8.out
  have y1 : w8.cell? ⟨w2.heap.size, 1, none⟩ = some (.string K) := O8.out.cell 1 rfl
  have y2 : w8.cell? ⟨w2.heap.size, 6, none⟩ = some (.slice none 0 0) := O8.out.cell 6 rfl
  have yl := O8.out.lt
  go_wp2_with fail
  refine Calls.mono (pservs0 _ _ _ _ _ _) ?_
  rintro e w9 ⟨rfl, hb9⟩
  have O9 : Hid _ := O8.out.below hb9 O8.out.lt
  have H9 : Hid _ := H8.out.below hb9 H8.out.lt
  have P9 : Hid _ := P8.out.below hb9 (Nat.le_refl _)
  have HK9 : Hid (Kp W w9 bp bs) := ⟨hb9.os.trans HK8.out.os, hb9.tape.trans HK8.out.tape, hb9.output.trans HK8.out.output, Nat.le_trans HK8.out.size hb9.size, fun k hk h1 h2 => (hb9.block k (Nat.lt_of_lt_of_le hk HK8.out.size)).trans (HK8.out.block k hk h1 h2)⟩
  clear hb9 O8 H8 P8 HK8 x0 x1 xl y1 y2 yl
  obtain ⟨⟨x0, x1⟩, _, xl⟩ := ob2 H9.out
  have y1 : w9.cell? ⟨w2.heap.size, 1, none⟩ = some (.string K) := O9.out.cell 1 rfl
  have y2 : w9.cell? ⟨w2.heap.size, 7, none⟩ = some (.slice none 0 0) := O9.out.cell 7 rfl
  have yl := O9.out.lt
  go_wp2_with fail
  refine Calls.mono (pexts0 _ _ _ _ _ _) ?_
  rintro e w10 ⟨rfl, hb10⟩
  have O10 : Hid _ := O9.out.below hb10 O9.out.lt
  have H10 : Hid _ := H9.out.below hb10 H9.out.lt
  have P10 : Hid _ := P9.out.below hb10 (Nat.le_refl _)
  have HK10 : Hid (Kp W w10 bp bs) := ⟨hb10.os.trans HK9.out.os, hb10.tape.trans HK9.out.tape, hb10.output.trans HK9.out.output, Nat.le_trans HK9.out.size hb10.size, fun k hk h1 h2 => (hb10.block k (Nat.lt_of_lt_of_le hk HK9.out.size)).trans (HK9.out.block k hk h1 h2)⟩
  clear hb10 O9 H9 P9 HK9 x0 x1 xl y1 y2 yl
  obtain ⟨⟨x0, x1⟩, _, xl⟩ := ob2 H10.out
  have y1 : w10.cell? ⟨w2.heap.size, 1, none⟩ = some (.string K) := O10.out.cell 1 rfl
  have y2 : w10.cell? ⟨w2.heap.size, 7, none⟩ = some (.slice none 0 0) := O10.out.cell 7 rfl
  have yl := O10.out.lt
  clear x0 x1 xl y1 y2 yl H10
  go_upto_region 11 with fail
  refine wp_region_heldG 10 (S := fun V => Hid (Ob V bp #[.slice none 0 0, .map (some bs), .map (some be)] 143 ∧ Ob V w2.heap.size #[.string A, .string K, .slice none 0 0, .slice none 0 0, .slice (some ⟨w5.heap.size, 0, none⟩) 1 1, .slice none 0 0, .slice none 0 0, .slice none 0 0, .string K, .slice none 0 0, .slice none 0 0] 46)) (by kernel_rfl) ?_
  obtain ⟨w11, hw11⟩ : ∃ w11, w11 = w10.drew := ⟨_, rfl⟩
  have P11 : Hid _ := (show Po w11 bp bs be (.slice none 0 0) nq gq by rw [hw11]; exact P10.out.below (Below.refl _ _).drew (Nat.le_refl _))
  have O11 : Hid _ := (show Ob w11 w2.heap.size #[.string A, .string K, .slice none 0 0, .slice none 0 0, .slice (some ⟨w5.heap.size, 0, none⟩) 1 1, .slice none 0 0, .slice none 0 0, .slice none 0 0, .string K, .slice none 0 0, .slice none 0 0] 46 by rw [hw11]; exact O10.out.drew)
  have HK11 : Hid (Kp W w11 bp bs) := by rw [hw11]; exact ⟨HK10.out.os, HK10.out.tape, HK10.out.output, HK10.out.size, HK10.out.block⟩
  rw [← hw11]
  clear hw11 P10 O10 HK10
  have HS0 : Hid (Ob w11 bp #[.slice none 0 0, .map (some bs), .map (some be)] 143 ∧ Ob w11 w2.heap.size #[.string A, .string K, .slice none 0 0, .slice none 0 0, .slice (some ⟨w5.heap.size, 0, none⟩) 1 1, .slice none 0 0, .slice none 0 0, .slice none 0 0, .string K, .slice none 0 0, .slice none 0 0] 46) := ⟨P11.out.blk, O11.out⟩
  refine wpAnyG_take (i := 0) (v := ?_) rfl (by kernel_rfl) (by kernel_rfl) (by kernel_rfl) (by kernel_rfl) (fun _ _ _ h => h) (Or.inl ⟨by rfl, ?_⟩) HS0.out ?_
  rotate_left
  · rintro V HV
    go_simp
    try with_reducible rfl
  refine wpAnyG_take (i := 1) (v := ?_) rfl (by kernel_rfl) (by kernel_rfl) (by kernel_rfl) (by kernel_rfl) (fun _ _ _ h => h) (Or.inl ⟨by rfl, ?_⟩) HS0.out ?_
  rotate_left
  · rintro V HV
    go_simp
    try with_reducible rfl
  refine wpAnyG_take (i := 2) (v := ?_) rfl (by kernel_rfl) (by kernel_rfl) (by kernel_rfl) (by kernel_rfl) (fun _ _ _ h => h) (Or.inl ⟨by rfl, ?_⟩) HS0.out ?_
  rotate_left
  · rintro V HV
    go_simp
    try with_reducible rfl
  refine wpAnyG_take (i := 3) (v := ?_) rfl (by kernel_rfl) (by kernel_rfl) (by kernel_rfl) (by kernel_rfl) (fun _ _ _ h => h) (Or.inl ⟨by rfl, ?_⟩) HS0.out ?_
  rotate_left
  · rintro V HV
    go_simp
    try with_reducible rfl
  refine wpAnyG_take (i := 4) (v := ?_) rfl (by kernel_rfl) (by kernel_rfl) (by kernel_rfl) (by kernel_rfl) (fun _ _ _ h => h) (Or.inl ⟨by rfl, ?_⟩) HS0.out ?_
  rotate_left
  · rintro V HV
    have z1 := HV.out.1.cell 0 rfl
    go_simp
    try with_reducible rfl
  refine wpAnyG_take (i := 5) (v := ?_) rfl (by kernel_rfl) (by kernel_rfl) (by kernel_rfl) (by kernel_rfl) (fun _ _ _ h => h) (Or.inl ⟨by rfl, ?_⟩) HS0.out ?_
  rotate_left
  · rintro V HV
    obtain ⟨⟨z0, z1, z2, z3, z4, z5, z6, z7, z8, z9, z10⟩, _, zl⟩ := ob11 HV.out.2
    go_simp
    try with_reducible rfl
  refine wpAnyG_all (rs := [6]) (by kernel_rfl) (by simp) ?_
  intro i hi
  obtain rfl : i = 6 := by simpa using hi
  clear hi
  refine wpOp_listV rfl ?_
  intro Q' hQ'
  have HQ : Hid _ := hQ'
  clear hQ'
  obtain ⟨w12, hw12⟩ : ∃ w12, w12 = w11.alloc (.cells #[.string A, .string K, .slice none 0 0, .slice none 0 0, .slice (some ⟨w5.heap.size, 0, none⟩) 1 1, .slice none 0 0, .slice none 0 0, .slice none 0 0, .string K, .slice none 0 0, .slice none 0 0] 46) := ⟨_, rfl⟩
  have hb12 : Below w11.heap.size w11 w12 := by rw [hw12]; exact (Below.refl _ _).alloc (Nat.le_refl _) _
  have n12 : Ob w12 w11.heap.size #[.string A, .string K, .slice none 0 0, .slice none 0 0, .slice (some ⟨w5.heap.size, 0, none⟩) 1 1, .slice none 0 0, .slice none 0 0, .slice none 0 0, .string K, .slice none 0 0, .slice none 0 0] 46 := by rw [hw12]; exact Ob.new _ _ _
  have P12 : Hid _ := P11.out.below hb12 (Nat.le_refl _)
  have O12 : Hid _ := O11.out.below hb12 O11.out.lt
  have HK12 : Hid (Kp W w12 bp bs) := ⟨hb12.os.trans HK11.out.os, hb12.tape.trans HK11.out.tape, hb12.output.trans HK11.out.output, Nat.le_trans HK11.out.size hb12.size, fun k hk h1 h2 => (hb12.block k (Nat.lt_of_lt_of_le hk HK11.out.size)).trans (HK11.out.block k hk h1 h2)⟩
  obtain ⟨w13, gx, cp13, hr13, hg13, hgxl, hgx⟩ := run_append_fileX w12 w11.heap.size 1 #[.string A, .string K, .slice none 0 0, .slice none 0 0, .slice (some ⟨w5.heap.size, 0, none⟩) 1 1, .slice none 0 0, .slice none 0 0, .slice none 0 0, .string K, .slice none 0 0, .slice none 0 0] rfl n12 (by intro u hu; simp only [List.mem_cons, List.not_mem_nil, or_false] at hu; rcases hu with rfl | rfl | rfl | rfl | rfl | rfl | rfl | rfl | rfl | rfl | rfl <;> rfl) 22
  have HX13 : Hid (w12.heap.size ≤ gx ∧ gx < w13.heap.size) := ⟨hgxl.1, hgxl.2⟩
  have HC13 : Hid _ := hgx
  have HN13 : Hid (bp < w12.heap.size) := P12.out.blk.lt
  have HW13 : Hid (W.heap.size ≤ w12.heap.size) := HK12.out.size
  clear hgxl hgx
  have hb13 : Below w12.heap.size w12 w13 := ⟨hg13.os, hg13.tape, hg13.output, hg13.size, fun k hk => hg13.block k hk (by simp)⟩
  have p13 := P12.out.below hb13 (Nat.le_refl _)
  have o13 := O12.out.below hb13 O12.out.lt
  have HK13 : Hid (Kp W w13 bp bs) := ⟨hb13.os.trans HK12.out.os, hb13.tape.trans HK12.out.tape, hb13.output.trans HK12.out.output, Nat.le_trans HK12.out.size hb13.size, fun k hk h1 h2 => (hb13.block k (Nat.lt_of_lt_of_le hk HK12.out.size)).trans (HK12.out.block k hk h1 h2)⟩
  have HS12 : Hid (Ob w12 bp #[.slice none 0 0, .map (some bs), .map (some be)] 143 ∧ Ob w12 w2.heap.size #[.string A, .string K, .slice none 0 0, .slice none 0 0, .slice (some ⟨w5.heap.size, 0, none⟩) 1 1, .slice none 0 0, .slice none 0 0, .slice none 0 0, .string K, .slice none 0 0, .slice none 0 0] 46) := ⟨P12.out.blk, O12.out⟩
  have HS13 : Hid (Ob w13 bp #[.slice none 0 0, .map (some bs), .map (some be)] 143 ∧ Ob w13 w2.heap.size #[.string A, .string K, .slice none 0 0, .slice none 0 0, .slice (some ⟨w5.heap.size, 0, none⟩) 1 1, .slice none 0 0, .slice none 0 0, .slice none 0 0, .string K, .slice none 0 0, .slice none 0 0] 46) := ⟨p13.blk, o13⟩
  obtain ⟨⟨q0, q1, q2⟩, ⟨q3, q4, q5⟩, ql⟩ := ob3 p13.blk
  have P13 : Hid _ := p13
  have HW12 : Hid _ := hw12
  have HR13 : Hid _ := hr13
  clear hb12 n12 hw12 hr13 hg13 hb13 p13 o13 P11 P12 O11 O12 HK11 HK12
  go_wp2
  rw [← HW12.out]
  refine HQ.out _ _ ⟨.inr HS12, ?_⟩
  clear HQ HW12
  refine wpAnyG_all (rs := [7]) (by kernel_rfl) (by simp) ?_
  intro i hi
  obtain rfl : i = 7 := by simpa using hi
  clear hi
  refine wpOp_listV rfl ?_
  intro Q' hQ'
  have HQ : Hid _ := hQ'
  clear hQ'
  refine wpList_append_eqV rfl _ _ 22 rfl rfl rfl HR13.out ?_
  refine HQ.out _ _ ⟨.inr HS13, ?_⟩
  clear HQ HR13
  refine wpAnyG_all (rs := [8]) (by kernel_rfl) (by simp) ?_
  intro i hi
  obtain rfl : i = 8 := by simpa using hi
  clear hi
  refine wpOp_listV rfl ?_
  intro Q' hQ'
  have HQ : Hid _ := hQ'
  clear hQ'
  go_wp2
  refine HQ.out _ _ ⟨.inr HS13, ?_⟩
  clear HQ
  refine wpAnyG_all (rs := [9]) (by kernel_rfl) (by simp) ?_
  intro i hi
  obtain rfl : i = 9 := by simpa using hi
  clear hi
  refine wpOp_listV rfl ?_
  intro Q' hQ'
  have HQ : Hid _ := hQ'
  clear hQ'
  go_wp2
  refine HQ.out _ _ ⟨.inr HS13, ?_⟩
  clear HQ
  refine wpAnyG_all (rs := [10]) (by kernel_rfl) (by simp) ?_
  intro i hi
  obtain rfl : i = 10 := by simpa using hi
  clear hi
  refine wpOp_listV rfl ?_
  intro Q' hQ'
  have HQ : Hid _ := hQ'
  clear hQ'
  go_wp2
  refine HQ.out _ _ ⟨.inl (by first | trivial | rfl), ?_⟩
  clear HQ
  refine wpAnyG_done (by kernel_rfl) ?_ _
  have b14 := P13.out.blk.set 0 (.slice (some ⟨gx, 0, none⟩) 1 cp13)
  have e14 : ∀ k, k ≠ bp → (w13.setCell ⟨bp, 0, none⟩ (.slice (some ⟨gx, 0, none⟩) 1 cp13)).heap[k]? = w13.heap[k]? := fun k hk => heap_setCell_other _ _ _ _ (by simpa using hk)
  have P14 : Hid (Po (w13.setCell ⟨bp, 0, none⟩ (.slice (some ⟨gx, 0, none⟩) 1 cp13)) bp bs be (.slice (some ⟨gx, 0, none⟩) 1 cp13) nq gq) := by
    have p := P13.out
    obtain ⟨es, clock, h1, h2⟩ := p.sym
    obtain ⟨es2, clock2, h3, h4⟩ := p.ext
    exact ⟨by simpa using b14, ⟨es, clock, (e14 bs (Ne.symm p.ne.1)).trans h1, h2⟩, ⟨es2, clock2, (e14 be (Ne.symm p.ne.2.2)).trans h3, h4⟩, p.ne, ⟨_, _, _, rfl⟩⟩
  have HC14 : Hid (∀ j v, (#[.string A, .string K, .slice none 0 0, .slice none 0 0, .slice (some ⟨w5.heap.size, 0, none⟩) 1 1, .slice none 0 0, .slice none 0 0, .slice none 0 0, .string K, .slice none 0 0, .slice none 0 0] : Array Value)[j]? = some v → (w13.setCell ⟨bp, 0, none⟩ (.slice (some ⟨gx, 0, none⟩) 1 cp13)).cell? ⟨gx, j, none⟩ = some v) := fun j v hj => by
    rw [World.cell?_of_block (e14 gx (by have h1 := HX13.out.1; have h2 := HN13.out; omega))]
    exact HC13.out j v hj
  have HL14 : Hid (gx < (w13.setCell ⟨bp, 0, none⟩ (.slice (some ⟨gx, 0, none⟩) 1 cp13)).heap.size) := by show _ < _; simpa using HX13.out.2
  have HK14 : Hid (Kp W (w13.setCell ⟨bp, 0, none⟩ (.slice (some ⟨gx, 0, none⟩) 1 cp13)) bp bs) := ⟨HK13.out.os, HK13.out.tape, HK13.out.output, by simpa using HK13.out.size, fun k hk h1 h2 => (e14 k h1).trans (HK13.out.block k hk h1 h2)⟩
  clear b14 e14 P13 HK13 HS13 HS12 HS0 q0 q1 q2 q3 q4 q5 ql
  go_wp2
  go_end0
  exact ⟨rfl, HK14.out, gx, cp13, _, _, _, nq, gq, P14.out, HL14.out, Nat.le_trans HW13.out HX13.out.1, HC14.out⟩

end Go.Proofs.YtcnjjhdmnagkgaaGreatDoor
