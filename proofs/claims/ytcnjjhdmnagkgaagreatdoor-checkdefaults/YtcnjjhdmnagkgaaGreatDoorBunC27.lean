/- Put together by a program out of these texts of mine: CkFc, CkFd, CkSe. -/
import Derived.Test.YtcnjjhdmnagkgaaGreatDoorBunC26

namespace Go.Proofs.YtcnjjhdmnagkgaaGreatDoor
open Go.RowKit
set_option linter.unusedVariables false
set_option linter.unusedSimpArgs false

def QnC (N : Act → World → Prop) : Exit → Act → World → Prop
  | .normal, a, w => N a w
  | _, _, _ => False

theorem wp_strongC {c : Code} {a : Act} {w : World} {N : Act → World → Prop} {Q : Exit → Act → World → Prop} (h : c.wp Tryz.prog (QnC N) a w) (hN : ∀ a w, N a w → Q .normal a w) : c.wp Tryz.prog Q a w := fun b k cs => by
  obtain ⟨e, a', w', q, r⟩ := h b k cs
  refine ⟨e, a', w', ?_, r⟩
  cases e with
  | normal => exact hN a' w' q
  | _ => exact q.elim

theorem wp_strongN {c : Code} {a : Act} {w : World} {Q : Exit → Act → World → Prop} (h : c.wp Tryz.prog (QnC (fun a w => Q .normal a w)) a w) : c.wp Tryz.prog Q a w := wp_strongC h (fun _ _ h => h)

set_option maxRecDepth 100000 in
set_option maxHeartbeats 8000000 in
theorem cfb1 (A : ByteArray) (hA : A.size ≤ 1000) (hA0 : (A.toList == []) = false) (nm s t : List Int) (hnb : Hid (byts nm)) (hsb : Hid (byts s)) (htb : Hid (byts t)) (hnl : nm.length ≤ 1000) (hsl : s.length ≤ 1000) (htl : t.length ≤ 1000) (hf1 : strOfNums (njoin nm s) ≠ strOfNums nm) (hf2 : strOfNums (njoin nm t) ≠ strOfNums nm) (hf3 : strOfNums (njoin nm t) ≠ strOfNums (njoin nm s)) (hm : nident nm = true) (hs : nident s = true) (ht : nident t = true) (gm gf gl : Nat) (W : World) (hT : Hid (LoTab W)) (hgm : Hid (Ob W gm (exG (strOfNums nm) gf 1) 42)) (hgl : Hid (Ob W gl (exFile A gm) 46)) (hgf : Hid (Ob W gf (exF (strOfNums s)) 34)) :
    Calls Tryz.prog 15 #[.slice (some ⟨gl, 0, none⟩) 1 1] W fun e W' => e = .returned (.agg #[.string ⟨#[]⟩, .int .i64 0]) ∧ Below W.heap.size W W' := by
  have hmf : ∀ (fn : Fn) (first cap : Array Value) (w : World), (Instr.makeFunc fn first cap).run Tryz.prog w = .ok (.func fn first cap) w := fun _ _ _ _ => rfl
  have hmm := @run_makeMap Tryz.prog
  obtain ⟨w1, hw1⟩ : ∃ w1, W.alloc (.cells #[.string ⟨#[]⟩, .int .i64 0] 50) = w1 := ⟨_, rfl⟩
  have hb1 : Below W.heap.size W w1 := by rw [← hw1]; exact (Below.refl _ _).alloc (Nat.le_refl _) _
  have R1 : Hid (Ob w1 W.heap.size #[.string ⟨#[]⟩, .int .i64 0] 50) := by rw [← hw1]; exact Ob.new _ _ _
  have HB1 : Hid _ := hb1
  have HW1 : Hid _ := hw1
  have QP : Hid _ := ckPlaces A hA0 (by omega) gm gl w1 (hgl.out.below hb1 hgl.out.lt)
  have QN : Hid _ := fun V (hV : Below W.heap.size W V) => cnew1 A ⟨#[]⟩ (show Hid _ from (show (⟨#[]⟩ : ByteArray) = ⟨#[]⟩ from rfl)) (by omega) nm s t hnb hsb htb hnl hsl htl hf1 hf2 hf3 gm gf gl V (hgm.out.below hV hgm.out.lt) (hgl.out.below hV hgl.out.lt) (show Hid _ from hgf.out.below hV hgf.out.lt)
  have QF : Hid _ := fun V (hV : Below W.heap.size W V) bc hc => ckFile1 A nm s t hnb hsb htb hnl hsl htl hm hs ht V (show Hid _ from hT.out.below hV (Nat.le_refl _)) (gm := gm) (gf := gf) (bc := bc) (show Hid _ from hgm.out.below hV hgm.out.lt) (show Hid _ from hgf.out.below hV hgf.out.lt) hc
  have HA : Hid (A.size ≤ 1000000) := by show _ ≤ _; omega
  have HGL : Hid (Ob W gl #[.string A, .string ⟨#[]⟩, .slice none 0 0, .slice none 0 0, .slice (some ⟨gm, 0, none⟩) 1 1, .slice none 0 0, .slice none 0 0, .slice none 0 0, .string ⟨#[]⟩, .slice none 0 0, .slice none 0 0] 46) := hgl.out
  clear hb1 hw1 hT hgm hgf hA hA0 hf1 hf2 hf3 hm hs ht hnl hsl htl hnb hsb htb hgl
  generalize strOfNums (njoin nm t) = N2 at *
  generalize strOfNums (njoin nm s) = N1 at *
  go_enter_defers Tryz.func15, Tryz.ntmps15
  go_upto_region 2 with fail
  rw [HW1.out]
  clear HW1
  go_wp2_with fail
  refine Calls.mono QP.out ?_
  rintro e w2 ⟨bpl, rfl, hb2⟩
  have HB2 : Hid (Below W.heap.size W w2) := HB1.out.trans (hb2.mono HB1.out.size)
  have R2 : Hid (Ob w2 W.heap.size #[.string ⟨#[]⟩, .int .i64 0] 50) := R1.out.below hb2 R1.out.lt
  have QN2 : Hid _ := QN.out w2 HB2.out
  clear hb2 QP QN R1 HB1
  go_wp2_with fail
  refine Calls.mono QN2.out ?_
  rintro e w3 ⟨bp, bs, be, rfl, hb3, hfx⟩
  have HB3 : Hid (Below W.heap.size W w3) := HB2.out.trans (hb3.mono HB2.out.size)
  have R3 : Hid (Ob w3 W.heap.size #[.string ⟨#[]⟩, .int .i64 0] 50) := R2.out.below hb3 R2.out.lt
  have FX3 : Hid (Fx w3 w2.heap.size bp bs be A ⟨#[]⟩) := hfx
  clear hb3 hfx QN2 R2 HB2
  go_wp2_with fail
  refine Calls.mono (ckKeeps _ _ _) ?_
  rintro e w4 ⟨rfl, rfl⟩
  obtain ⟨w4, hw4⟩ : ∃ w4, ((w3.alloc (.map #[] 0)).alloc (.map #[] 0)).alloc (.cells #[.slice (some ⟨gl, 0, none⟩) 1 1, .map (some bpl), .pointer (some ⟨bp, 0, none⟩), .map (some w3.heap.size), .map (some (w3.heap.size + 1)), .slice none 0 0, .bool false] 94) = w4 := ⟨_, rfl⟩
  have hb4 : Below w3.heap.size w3 w4 := by rw [← hw4]; exact (((Below.refl _ _).alloc (Nat.le_refl _) _).alloc (by simp) _).alloc (by simp; omega) _
  have c4 : Ob w4 (w3.heap.size + 1 + 1) #[.slice (some ⟨gl, 0, none⟩) 1 1, .map (some bpl), .pointer (some ⟨bp, 0, none⟩), .map (some w3.heap.size), .map (some (w3.heap.size + 1)), .slice none 0 0, .bool false] 94 := by
    rw [← hw4]
    have := Ob.new ((w3.alloc (.map #[] 0)).alloc (.map #[] 0)) #[.slice (some ⟨gl, 0, none⟩) 1 1, .map (some bpl), .pointer (some ⟨bp, 0, none⟩), .map (some w3.heap.size), .map (some (w3.heap.size + 1)), .slice none 0 0, .bool false] 94
    simpa using this
  have HB4 : Hid (Below W.heap.size W w4) := HB3.out.trans (hb4.mono HB3.out.size)
  have R4 : Hid (Ob w4 W.heap.size #[.string ⟨#[]⟩, .int .i64 0] 50) := R3.out.below hb4 R3.out.lt
  have FX4 : Hid (Fx w4 w2.heap.size bp bs be A ⟨#[]⟩) := FX3.out.below hb4 (Nat.le_refl _)
  have C4 : Hid _ := c4
  have HW4 : Hid _ := hw4
  have NB : Hid (W.heap.size < w3.heap.size ∧ gl < W.heap.size) := ⟨R3.out.lt, HGL.out.lt⟩
  have QU : Hid _ := cunits A ⟨#[]⟩ HA.out w4 FX4
  clear hw4 hb4 c4 R3 FX3 HB3
  go_upto_region 6 with fail
  rw [HW4.out]
  clear HW4
  go_wp2_with fail
  refine Calls.mono QU.out ?_
  rintro e w5 ⟨gu, cu, rfl, hb5, hul, hcu, huc⟩
  have HB5 : Hid (Below W.heap.size W w5) := HB4.out.trans (hb5.mono HB4.out.size)
  have R5 : Hid (Ob w5 W.heap.size #[.string ⟨#[]⟩, .int .i64 0] 50) := R4.out.below hb5 R4.out.lt
  have C5 : Hid _ := C4.out.below hb5 C4.out.lt
  have HU5 : Hid (gu < w5.heap.size ∧ 1 ≤ cu ∧ ∀ (j : Nat) (v : Value), [.string A, .slice none 0 0, .slice none 0 0][j]? = some v → w5.cell? ⟨gu, j, none⟩ = some v) := ⟨hul, hcu, huc⟩
  have NC : Hid (w3.heap.size + 1 + 1 < w5.heap.size) := Nat.lt_of_lt_of_le C4.out.lt hb5.size
  clear hb5 hul hcu huc QU HB4 R4 FX4 C4
  go_wp2
  go_loopw [34] (fun v wr => (v = .int .i64 0 ∧ w5 = wr) ∨ (v = .int .i64 1 ∧ Hid (Below W.heap.size W wr ∧ Ob wr W.heap.size #[.string ⟨#[]⟩, .int .i64 0] 50))) (fun v _ => 2 - (intOf v).toNat)
  case atStart => exact .inl ⟨rfl, rfl⟩
  case round =>
    rcases hrel with ⟨rfl, rfl⟩ | ⟨rfl, HF⟩
    · have g5 := HGL.out.below HB5.out HGL.out.lt
      obtain ⟨⟨d0, d1, d2, d3, d4, d5, d6, d7, d8, d9, d10⟩, _, dl⟩ := ob11 g5
      obtain ⟨w6, hw6⟩ : ∃ w6, w5.alloc (.cells #[.string A, .string ⟨#[]⟩, .slice none 0 0, .slice none 0 0, .slice (some ⟨gm, 0, none⟩) 1 1, .slice none 0 0, .slice none 0 0, .slice none 0 0, .string ⟨#[]⟩, .slice none 0 0, .slice none 0 0] 46) = w6 := ⟨_, rfl⟩
      have hb6 : Below w5.heap.size w5 w6 := by rw [← hw6]; exact (Below.refl _ _).alloc (Nat.le_refl _) _
      have o6 : Ob w6 w5.heap.size #[.string A, .string ⟨#[]⟩, .slice none 0 0, .slice none 0 0, .slice (some ⟨gm, 0, none⟩) 1 1, .slice none 0 0, .slice none 0 0, .slice none 0 0, .string ⟨#[]⟩, .slice none 0 0, .slice none 0 0] 46 := by rw [← hw6]; exact Ob.new _ _ _
      obtain ⟨w7, hw7⟩ : ∃ w7, w6.drew = w7 := ⟨_, rfl⟩
      have hb7 : Below w6.heap.size w6 w7 := by rw [← hw7]; exact (Below.refl _ _).drew
      have hb57 : Below w5.heap.size w5 w7 := hb6.trans (hb7.mono hb6.size)
      have O7 : Hid (Ob w7 w5.heap.size #[.string A, .string ⟨#[]⟩, .slice none 0 0, .slice none 0 0, .slice (some ⟨gm, 0, none⟩) 1 1, .slice none 0 0, .slice none 0 0, .slice none 0 0, .string ⟨#[]⟩, .slice none 0 0, .slice none 0 0] 46) := o6.below hb7 o6.lt
      have HB7 : Hid (Below W.heap.size W w7) := HB5.out.trans (hb57.mono HB5.out.size)
      have R7 : Hid (Ob w7 W.heap.size #[.string ⟨#[]⟩, .int .i64 0] 50) := R5.out.below hb57 R5.out.lt
      have C7 : Hid _ := C5.out.below hb57 C5.out.lt
      have QV : Hid _ := cvisible A HA.out gu cu w7 (Nat.lt_of_lt_of_le HU5.out.1 hb57.size) HU5.out.2.1 (fun j v hj => (hb57.cell (p := ⟨gu, j, none⟩) HU5.out.1).trans (HU5.out.2.2 j v hj))
      have HW6 : Hid _ := hw6
      have HW7 : Hid _ := hw7
      clear g5 hw6 hw7 hb6 hb7 hb57 o6 HU5 HB5 R5 C5
      go_upto_region 10 with fail
      rw [HW6.out]
      clear HW6 d0 d1 d2 d3 d4 d5 d6 d7 d8 d9 d10 dl
      refine wp_strongN ?_
      refine wp_region_heldG 10 (S := fun V => Hid (Ob V w5.heap.size #[.string A, .string ⟨#[]⟩, .slice none 0 0, .slice none 0 0, .slice (some ⟨gm, 0, none⟩) 1 1, .slice none 0 0, .slice none 0 0, .slice none 0 0, .string ⟨#[]⟩, .slice none 0 0, .slice none 0 0] 46)) (by kernel_rfl) ?_
      rw [HW7.out]
      clear HW7
      refine wpAnyG_take (i := 0) (v := ?_) rfl (by kernel_rfl) (by kernel_rfl) (by kernel_rfl) (by kernel_rfl) (fun _ _ _ h => h) (Or.inl ⟨by rfl, ?_⟩) O7 ?_
      rotate_left
      · rintro V HV
        go_simp
        try with_reducible rfl
      refine wpAnyG_take (i := 1) (v := ?_) rfl (by kernel_rfl) (by kernel_rfl) (by kernel_rfl) (by kernel_rfl) (fun _ _ _ h => h) (Or.inl ⟨by rfl, ?_⟩) O7 ?_
      rotate_left
      · rintro V HV
        go_simp
        try with_reducible rfl
      refine wpAnyG_take (i := 2) (v := ?_) rfl (by kernel_rfl) (by kernel_rfl) (by kernel_rfl) (by kernel_rfl) (fun _ _ _ h => h) (Or.inl ⟨by rfl, ?_⟩) O7 ?_
      rotate_left
      · rintro V HV
        obtain ⟨⟨z0, z1, z2, z3, z4, z5, z6, z7, z8, z9, z10⟩, _, zl⟩ := ob11 HV.out
        go_simp
        try with_reducible rfl
      refine wpAnyG_take (i := 4) (v := ?_) rfl (by kernel_rfl) (by kernel_rfl) (by kernel_rfl) (by kernel_rfl) (fun _ _ _ h => h) (Or.inl ⟨by rfl, ?_⟩) O7 ?_
      rotate_left
      · rintro V HV
        go_simp
        try with_reducible rfl
      refine wpAnyG_take (i := 5) (v := ?_) rfl (by kernel_rfl) (by kernel_rfl) (by kernel_rfl) (by kernel_rfl) (fun _ _ _ h => h) (Or.inl ⟨by rfl, ?_⟩) O7 ?_
      rotate_left
      · rintro V HV
        obtain ⟨⟨z0, z1, z2, z3, z4, z5, z6, z7, z8, z9, z10⟩, _, zl⟩ := ob11 HV.out
        go_simp
        try with_reducible rfl
      refine wpAnyG_take (i := 6) (v := ?_) rfl (by kernel_rfl) (by kernel_rfl) (by kernel_rfl) (by kernel_rfl) (fun _ _ _ h => h) (Or.inl ⟨by rfl, ?_⟩) O7 ?_
      rotate_left
      · rintro V HV
        go_simp
        try with_reducible rfl
      refine wpAnyG_all (rs := [3]) (by kernel_rfl) (by simp) ?_
      intro i hi
      obtain rfl : i = 3 := by simpa using hi
      clear hi
      refine wpOp_listV rfl ?_
      intro Q' hQ'
      have HQ : Hid _ := hQ'
      clear hQ'
      go_wp2_with fail
      refine Calls.mono QV.out ?_
      rintro e w8 ⟨⟨va, vn, vc, rfl⟩, hb8⟩
      have O8 : Hid (Ob w8 w5.heap.size #[.string A, .string ⟨#[]⟩, .slice none 0 0, .slice none 0 0, .slice (some ⟨gm, 0, none⟩) 1 1, .slice none 0 0, .slice none 0 0, .slice none 0 0, .string ⟨#[]⟩, .slice none 0 0, .slice none 0 0] 46) := O7.out.below hb8 O7.out.lt
      have HB8 : Hid (Below W.heap.size W w8) := HB7.out.trans (hb8.mono HB7.out.size)
      have R8 : Hid (Ob w8 W.heap.size #[.string ⟨#[]⟩, .int .i64 0] 50) := R7.out.below hb8 R7.out.lt
      have C8 := C7.out.below hb8 C7.out.lt
      obtain ⟨w9, hw9⟩ : ∃ w9, w8.setCell ⟨w3.heap.size + 1 + 1, 5, none⟩ (.slice va vn vc) = w9 := ⟨_, rfl⟩
      have C9 := C8.set 5 (.slice va vn vc)
      have O9 : Hid (Ob w9 w5.heap.size #[.string A, .string ⟨#[]⟩, .slice none 0 0, .slice none 0 0, .slice (some ⟨gm, 0, none⟩) 1 1, .slice none 0 0, .slice none 0 0, .slice none 0 0, .string ⟨#[]⟩, .slice none 0 0, .slice none 0 0] 46) := by rw [← hw9]; exact O8.out.other (by have := NC.out; omega) 5 _
      have R9 : Hid (Ob w9 W.heap.size #[.string ⟨#[]⟩, .int .i64 0] 50) := by rw [← hw9]; exact R8.out.other (by have := NB.out.1; omega) 5 _
      have HB9 : Hid (Below W.heap.size W w9) := by rw [← hw9]; exact HB8.out.setCell (p := ⟨w3.heap.size + 1 + 1, 5, none⟩) (by have := NB.out.1; show W.heap.size ≤ w3.heap.size + 1 + 1; omega) _
      rw [hw9] at C9
      obtain ⟨w10, hw10⟩ : ∃ w10, w9.setCell ⟨w3.heap.size + 1 + 1, 6, none⟩ (.bool false) = w10 := ⟨_, rfl⟩
      have C10 := C9.set 6 (.bool false)
      have O10 : Hid (Ob w10 w5.heap.size #[.string A, .string ⟨#[]⟩, .slice none 0 0, .slice none 0 0, .slice (some ⟨gm, 0, none⟩) 1 1, .slice none 0 0, .slice none 0 0, .slice none 0 0, .string ⟨#[]⟩, .slice none 0 0, .slice none 0 0] 46) := by rw [← hw10]; exact O9.out.other (by have := NC.out; omega) 6 _
      have R10 : Hid (Ob w10 W.heap.size #[.string ⟨#[]⟩, .int .i64 0] 50) := by rw [← hw10]; exact R9.out.other (by have := NB.out.1; omega) 6 _
      have HB10 : Hid (Below W.heap.size W w10) := by rw [← hw10]; exact HB9.out.setCell (p := ⟨w3.heap.size + 1 + 1, 6, none⟩) (by have := NB.out.1; show W.heap.size ≤ w3.heap.size + 1 + 1; omega) _
      rw [hw10] at C10
      have s1 : w8.cell? ⟨w3.heap.size + 1 + 1, 5, none⟩ = some (.slice none 0 0) := C8.cell 5 rfl
      have s2 : w8.frozen? ⟨w3.heap.size + 1 + 1, 5, none⟩ = false := C8.frozen 5
      have s3 : w3.heap.size + 1 + 1 < w8.heap.size := C8.lt
      have t1 : w9.cell? ⟨w3.heap.size + 1 + 1, 6, none⟩ = some (.bool false) := C9.cell 6 rfl
      have t2 : w9.frozen? ⟨w3.heap.size + 1 + 1, 6, none⟩ = false := C9.frozen 6
      have t3 : w3.heap.size + 1 + 1 < w9.heap.size := C9.lt
      have HC10 : Hid (w10.cell? ⟨w3.heap.size + 1 + 1, 6, none⟩ = some (.bool false) ∧ w3.heap.size + 1 + 1 < w10.heap.size) := ⟨C10.cell 6 rfl, C10.lt⟩
      have HW9 : Hid _ := hw9
      have HW10 : Hid _ := hw10
      clear hw9 hw10 C8 C9 C10 hb8 QV O7 HB7 R7 C7 HB8 R8 HB9 R9
      go_wp2
      refine HQ.out _ _ ⟨.inr O8, ?_⟩
      clear HQ
      refine wpAnyG_all (rs := [7]) (by kernel_rfl) (by simp) ?_
      intro i hi
      obtain rfl : i = 7 := by simpa using hi
      clear hi
      refine wpOp_listV rfl ?_
      intro Q' hQ'
      have HQ : Hid _ := hQ'
      clear hQ'
      go_wp2
      refine HQ.out _ _ ⟨.inr O8, ?_⟩
      clear HQ
      refine wpAnyG_all (rs := [8]) (by kernel_rfl) (by simp) ?_
      intro i hi
      obtain rfl : i = 8 := by simpa using hi
      clear hi
      refine wpOp_listV rfl ?_
      intro Q' hQ'
      have HQ : Hid _ := hQ'
      clear hQ'
      go_wp2
      rw [HW9.out]
      refine HQ.out _ _ ⟨.inr O9, ?_⟩
      clear HQ HW9 s1 s2 s3
      refine wpAnyG_all (rs := [9]) (by kernel_rfl) (by simp) ?_
      intro i hi
      obtain rfl : i = 9 := by simpa using hi
      clear hi
      refine wpOp_listV rfl ?_
      intro Q' hQ'
      have HQ : Hid _ := hQ'
      clear hQ'
      go_wp2
      refine HQ.out _ _ ⟨.inr O9, ?_⟩
      clear HQ
      refine wpAnyG_all (rs := [10]) (by kernel_rfl) (by simp) ?_
      intro i hi
      obtain rfl : i = 10 := by simpa using hi
      clear hi
      refine wpOp_listV rfl ?_
      intro Q' hQ'
      have HQ : Hid _ := hQ'
      clear hQ'
      go_wp2
      rw [HW10.out]
      refine HQ.out _ _ ⟨.inr O10, ?_⟩
      clear HQ HW10 t1 t2 t3
      refine wpAnyG_done (by kernel_rfl) ?_ _
      simp only [QnC]
      have QF10 : Hid _ := QF.out w10 HB10.out (w3.heap.size + 1 + 1) HC10
      unfold exFile at QF10
      obtain ⟨⟨d0, d1, d2, d3, d4, d5, d6, d7, d8, d9, d10⟩, _, dl⟩ := ob11 O10.out
      go_wp2_with fail
      refine Calls.mono QF10.out ?_
      rintro e w11 ⟨hb11, rfl⟩
      have HB11 : Hid (Below W.heap.size W w11) := HB10.out.trans (hb11.mono HB10.out.size)
      have R11 : Hid (Ob w11 W.heap.size #[.string ⟨#[]⟩, .int .i64 0] 50) := R10.out.below hb11 R10.out.lt
      clear hb11 d0 d1 d2 d3 d4 d5 d6 d7 d8 d9 d10 dl QF10 HB10 R10 O10 O9 O8
      go_wp2
      go_roundw
      case rel => first | exact .inr ⟨by go_num, HB11.out, R11.out⟩ | ((repeat apply Exists.intro); exact ⟨.inr ⟨by go_num, HB11.out, R11.out⟩, rfl⟩)
      case measure => simp [intOf]
    · obtain ⟨⟨c1, c2⟩, ⟨f1, f2⟩, hl⟩ := ob2 HF.out.2
      have hzb := zeroBrk
      go_wp2
      refine leaves_cons (f := 34) (args := #[.pointer (some ⟨W.heap.size, 0, none⟩)]) (by simp) (by simp [go_sem]) ?_
      have s4 : Ob ((wr.setCell ⟨W.heap.size, 0, none⟩ (.string ⟨#[]⟩)).setCell ⟨W.heap.size, 1, none⟩ (.int .i64 0)) W.heap.size #[.string ⟨#[]⟩, .int .i64 0] 50 := by have := (HF.out.2.set 0 (.string ⟨#[]⟩)).set 1 (.int .i64 0); simpa using this
      have hb6 : Below W.heap.size wr ((wr.setCell ⟨W.heap.size, 0, none⟩ (.string ⟨#[]⟩)).setCell ⟨W.heap.size, 1, none⟩ (.int .i64 0)) := ((Below.refl _ _).setCell (p := ⟨W.heap.size, 0, none⟩) (Nat.le_refl _) _).setCell (p := ⟨W.heap.size, 1, none⟩) (Nat.le_refl _) _
      refine (fb_idle _ s4).mono ?_
      rintro e u' w'' ⟨rfl, rfl, h1, h2⟩
      exact ⟨.agg #[.string ⟨#[]⟩, .int .i64 0], fb_res rfl h1, rfl, HF.out.1.trans (hb6.trans (h2 _ (Nat.le_refl _)))⟩

set_option maxRecDepth 100000 in
set_option maxHeartbeats 8000000 in
theorem cfb2 (A : ByteArray) (hA : A.size ≤ 1000) (hA0 : (A.toList == []) = false) (nm s t : List Int) (hnb : Hid (byts nm)) (hsb : Hid (byts s)) (htb : Hid (byts t)) (hnl : nm.length ≤ 1000) (hsl : s.length ≤ 1000) (htl : t.length ≤ 1000) (hf1 : strOfNums (njoin nm s) ≠ strOfNums nm) (hf2 : strOfNums (njoin nm t) ≠ strOfNums nm) (hf3 : strOfNums (njoin nm t) ≠ strOfNums (njoin nm s)) (hm : nident nm = true) (hs : nident s = true) (ht : nident t = true) (gm gf gl : Nat) (W : World) (hT : Hid (LoTab W)) (hgm : Hid (Ob W gm (exG (strOfNums nm) gf 2) 42)) (hgl : Hid (Ob W gl (exFile A gm) 46)) (hgf : Hid (Ob W gf (exR (strOfNums s) (strOfNums t)) 34)) :
    Calls Tryz.prog 15 #[.slice (some ⟨gl, 0, none⟩) 1 1] W fun e W' => e = .returned (.agg #[.string (strOfNums (njoin nm t)), .int .i64 9]) ∧ Below W.heap.size W W' := by
  have hmf : ∀ (fn : Fn) (first cap : Array Value) (w : World), (Instr.makeFunc fn first cap).run Tryz.prog w = .ok (.func fn first cap) w := fun _ _ _ _ => rfl
  have hmm := @run_makeMap Tryz.prog
  obtain ⟨w1, hw1⟩ : ∃ w1, W.alloc (.cells #[.string ⟨#[]⟩, .int .i64 0] 50) = w1 := ⟨_, rfl⟩
  have hb1 : Below W.heap.size W w1 := by rw [← hw1]; exact (Below.refl _ _).alloc (Nat.le_refl _) _
  have R1 : Hid (Ob w1 W.heap.size #[.string ⟨#[]⟩, .int .i64 0] 50) := by rw [← hw1]; exact Ob.new _ _ _
  have HB1 : Hid _ := hb1
  have HW1 : Hid _ := hw1
  have QP : Hid _ := ckPlaces A hA0 (by omega) gm gl w1 (hgl.out.below hb1 hgl.out.lt)
  have QN : Hid _ := fun V (hV : Below W.heap.size W V) => cnew2 A ⟨#[]⟩ (show Hid _ from (show (⟨#[]⟩ : ByteArray) = ⟨#[]⟩ from rfl)) (by omega) nm s t hnb hsb htb hnl hsl htl hf1 hf2 hf3 gm gf gl V (hgm.out.below hV hgm.out.lt) (hgl.out.below hV hgl.out.lt) (show Hid _ from hgf.out.below hV hgf.out.lt)
  have QF : Hid _ := fun V (hV : Below W.heap.size W V) bc hc => ckFile2 A nm s t hnb hsb htb hnl hsl htl hm hs ht V (show Hid _ from hT.out.below hV (Nat.le_refl _)) (gm := gm) (gf := gf) (bc := bc) (show Hid _ from hgm.out.below hV hgm.out.lt) (show Hid _ from hgf.out.below hV hgf.out.lt) hc
  have HA : Hid (A.size ≤ 1000000) := by show _ ≤ _; omega
  have HGL : Hid (Ob W gl #[.string A, .string ⟨#[]⟩, .slice none 0 0, .slice none 0 0, .slice (some ⟨gm, 0, none⟩) 1 1, .slice none 0 0, .slice none 0 0, .slice none 0 0, .string ⟨#[]⟩, .slice none 0 0, .slice none 0 0] 46) := hgl.out
  clear hb1 hw1 hT hgm hgf hA hA0 hf1 hf2 hf3 hm hs ht hnl hsl htl hnb hsb htb hgl
  generalize strOfNums (njoin nm t) = N2 at *
  generalize strOfNums (njoin nm s) = N1 at *
  go_enter_defers Tryz.func15, Tryz.ntmps15
  go_upto_region 2 with fail
  rw [HW1.out]
  clear HW1
  go_wp2_with fail
  refine Calls.mono QP.out ?_
  rintro e w2 ⟨bpl, rfl, hb2⟩
  have HB2 : Hid (Below W.heap.size W w2) := HB1.out.trans (hb2.mono HB1.out.size)
  have R2 : Hid (Ob w2 W.heap.size #[.string ⟨#[]⟩, .int .i64 0] 50) := R1.out.below hb2 R1.out.lt
  have QN2 : Hid _ := QN.out w2 HB2.out
  clear hb2 QP QN R1 HB1
  go_wp2_with fail
  refine Calls.mono QN2.out ?_
  rintro e w3 ⟨bp, bs, be, rfl, hb3, hfx⟩
  have HB3 : Hid (Below W.heap.size W w3) := HB2.out.trans (hb3.mono HB2.out.size)
  have R3 : Hid (Ob w3 W.heap.size #[.string ⟨#[]⟩, .int .i64 0] 50) := R2.out.below hb3 R2.out.lt
  have FX3 : Hid (Fx w3 w2.heap.size bp bs be A ⟨#[]⟩) := hfx
  clear hb3 hfx QN2 R2 HB2
  go_wp2_with fail
  refine Calls.mono (ckKeeps _ _ _) ?_
  rintro e w4 ⟨rfl, rfl⟩
  obtain ⟨w4, hw4⟩ : ∃ w4, ((w3.alloc (.map #[] 0)).alloc (.map #[] 0)).alloc (.cells #[.slice (some ⟨gl, 0, none⟩) 1 1, .map (some bpl), .pointer (some ⟨bp, 0, none⟩), .map (some w3.heap.size), .map (some (w3.heap.size + 1)), .slice none 0 0, .bool false] 94) = w4 := ⟨_, rfl⟩
  have hb4 : Below w3.heap.size w3 w4 := by rw [← hw4]; exact (((Below.refl _ _).alloc (Nat.le_refl _) _).alloc (by simp) _).alloc (by simp; omega) _
  have c4 : Ob w4 (w3.heap.size + 1 + 1) #[.slice (some ⟨gl, 0, none⟩) 1 1, .map (some bpl), .pointer (some ⟨bp, 0, none⟩), .map (some w3.heap.size), .map (some (w3.heap.size + 1)), .slice none 0 0, .bool false] 94 := by
    rw [← hw4]
    have := Ob.new ((w3.alloc (.map #[] 0)).alloc (.map #[] 0)) #[.slice (some ⟨gl, 0, none⟩) 1 1, .map (some bpl), .pointer (some ⟨bp, 0, none⟩), .map (some w3.heap.size), .map (some (w3.heap.size + 1)), .slice none 0 0, .bool false] 94
    simpa using this
  have HB4 : Hid (Below W.heap.size W w4) := HB3.out.trans (hb4.mono HB3.out.size)
  have R4 : Hid (Ob w4 W.heap.size #[.string ⟨#[]⟩, .int .i64 0] 50) := R3.out.below hb4 R3.out.lt
  have FX4 : Hid (Fx w4 w2.heap.size bp bs be A ⟨#[]⟩) := FX3.out.below hb4 (Nat.le_refl _)
  have C4 : Hid _ := c4
  have HW4 : Hid _ := hw4
  have NB : Hid (W.heap.size < w3.heap.size ∧ gl < W.heap.size) := ⟨R3.out.lt, HGL.out.lt⟩
  have QU : Hid _ := cunits A ⟨#[]⟩ HA.out w4 FX4
  clear hw4 hb4 c4 R3 FX3 HB3
  go_upto_region 6 with fail
  rw [HW4.out]
  clear HW4
  go_wp2_with fail
  refine Calls.mono QU.out ?_
  rintro e w5 ⟨gu, cu, rfl, hb5, hul, hcu, huc⟩
  have HB5 : Hid (Below W.heap.size W w5) := HB4.out.trans (hb5.mono HB4.out.size)
  have R5 : Hid (Ob w5 W.heap.size #[.string ⟨#[]⟩, .int .i64 0] 50) := R4.out.below hb5 R4.out.lt
  have C5 : Hid _ := C4.out.below hb5 C4.out.lt
  have HU5 : Hid (gu < w5.heap.size ∧ 1 ≤ cu ∧ ∀ (j : Nat) (v : Value), [.string A, .slice none 0 0, .slice none 0 0][j]? = some v → w5.cell? ⟨gu, j, none⟩ = some v) := ⟨hul, hcu, huc⟩
  have NC : Hid (w3.heap.size + 1 + 1 < w5.heap.size) := Nat.lt_of_lt_of_le C4.out.lt hb5.size
  clear hb5 hul hcu huc QU HB4 R4 FX4 C4
  go_wp2
  go_loopw [34] (fun v wr => (v = .int .i64 0 ∧ w5 = wr)) (fun v _ => 0)
  case atStart => exact ⟨rfl, rfl⟩
  case round =>
    obtain ⟨rfl, rfl⟩ := hrel
    · have g5 := HGL.out.below HB5.out HGL.out.lt
      obtain ⟨⟨d0, d1, d2, d3, d4, d5, d6, d7, d8, d9, d10⟩, _, dl⟩ := ob11 g5
      obtain ⟨w6, hw6⟩ : ∃ w6, w5.alloc (.cells #[.string A, .string ⟨#[]⟩, .slice none 0 0, .slice none 0 0, .slice (some ⟨gm, 0, none⟩) 1 1, .slice none 0 0, .slice none 0 0, .slice none 0 0, .string ⟨#[]⟩, .slice none 0 0, .slice none 0 0] 46) = w6 := ⟨_, rfl⟩
      have hb6 : Below w5.heap.size w5 w6 := by rw [← hw6]; exact (Below.refl _ _).alloc (Nat.le_refl _) _
      have o6 : Ob w6 w5.heap.size #[.string A, .string ⟨#[]⟩, .slice none 0 0, .slice none 0 0, .slice (some ⟨gm, 0, none⟩) 1 1, .slice none 0 0, .slice none 0 0, .slice none 0 0, .string ⟨#[]⟩, .slice none 0 0, .slice none 0 0] 46 := by rw [← hw6]; exact Ob.new _ _ _
      obtain ⟨w7, hw7⟩ : ∃ w7, w6.drew = w7 := ⟨_, rfl⟩
      have hb7 : Below w6.heap.size w6 w7 := by rw [← hw7]; exact (Below.refl _ _).drew
      have hb57 : Below w5.heap.size w5 w7 := hb6.trans (hb7.mono hb6.size)
      have O7 : Hid (Ob w7 w5.heap.size #[.string A, .string ⟨#[]⟩, .slice none 0 0, .slice none 0 0, .slice (some ⟨gm, 0, none⟩) 1 1, .slice none 0 0, .slice none 0 0, .slice none 0 0, .string ⟨#[]⟩, .slice none 0 0, .slice none 0 0] 46) := o6.below hb7 o6.lt
      have HB7 : Hid (Below W.heap.size W w7) := HB5.out.trans (hb57.mono HB5.out.size)
      have R7 : Hid (Ob w7 W.heap.size #[.string ⟨#[]⟩, .int .i64 0] 50) := R5.out.below hb57 R5.out.lt
      have C7 : Hid _ := C5.out.below hb57 C5.out.lt
      have QV : Hid _ := cvisible A HA.out gu cu w7 (Nat.lt_of_lt_of_le HU5.out.1 hb57.size) HU5.out.2.1 (fun j v hj => (hb57.cell (p := ⟨gu, j, none⟩) HU5.out.1).trans (HU5.out.2.2 j v hj))
      have HW6 : Hid _ := hw6
      have HW7 : Hid _ := hw7
      clear g5 hw6 hw7 hb6 hb7 hb57 o6 HU5 HB5 R5 C5
      go_upto_region 10 with fail
      rw [HW6.out]
      clear HW6 d0 d1 d2 d3 d4 d5 d6 d7 d8 d9 d10 dl
      refine wp_strongN ?_
      refine wp_region_heldG 10 (S := fun V => Hid (Ob V w5.heap.size #[.string A, .string ⟨#[]⟩, .slice none 0 0, .slice none 0 0, .slice (some ⟨gm, 0, none⟩) 1 1, .slice none 0 0, .slice none 0 0, .slice none 0 0, .string ⟨#[]⟩, .slice none 0 0, .slice none 0 0] 46)) (by kernel_rfl) ?_
      rw [HW7.out]
      clear HW7
      refine wpAnyG_take (i := 0) (v := ?_) rfl (by kernel_rfl) (by kernel_rfl) (by kernel_rfl) (by kernel_rfl) (fun _ _ _ h => h) (Or.inl ⟨by rfl, ?_⟩) O7 ?_
      rotate_left
      · rintro V HV
        go_simp
        try with_reducible rfl
      refine wpAnyG_take (i := 1) (v := ?_) rfl (by kernel_rfl) (by kernel_rfl) (by kernel_rfl) (by kernel_rfl) (fun _ _ _ h => h) (Or.inl ⟨by rfl, ?_⟩) O7 ?_
      rotate_left
      · rintro V HV
        go_simp
        try with_reducible rfl
      refine wpAnyG_take (i := 2) (v := ?_) rfl (by kernel_rfl) (by kernel_rfl) (by kernel_rfl) (by kernel_rfl) (fun _ _ _ h => h) (Or.inl ⟨by rfl, ?_⟩) O7 ?_
      rotate_left
      · rintro V HV
        obtain ⟨⟨z0, z1, z2, z3, z4, z5, z6, z7, z8, z9, z10⟩, _, zl⟩ := ob11 HV.out
        go_simp
        try with_reducible rfl
      refine wpAnyG_take (i := 4) (v := ?_) rfl (by kernel_rfl) (by kernel_rfl) (by kernel_rfl) (by kernel_rfl) (fun _ _ _ h => h) (Or.inl ⟨by rfl, ?_⟩) O7 ?_
      rotate_left
      · rintro V HV
        go_simp
        try with_reducible rfl
      refine wpAnyG_take (i := 5) (v := ?_) rfl (by kernel_rfl) (by kernel_rfl) (by kernel_rfl) (by kernel_rfl) (fun _ _ _ h => h) (Or.inl ⟨by rfl, ?_⟩) O7 ?_
      rotate_left
      · rintro V HV
        obtain ⟨⟨z0, z1, z2, z3, z4, z5, z6, z7, z8, z9, z10⟩, _, zl⟩ := ob11 HV.out
        go_simp
        try with_reducible rfl
      refine wpAnyG_take (i := 6) (v := ?_) rfl (by kernel_rfl) (by kernel_rfl) (by kernel_rfl) (by kernel_rfl) (fun _ _ _ h => h) (Or.inl ⟨by rfl, ?_⟩) O7 ?_
      rotate_left
      · rintro V HV
        go_simp
        try with_reducible rfl
      refine wpAnyG_all (rs := [3]) (by kernel_rfl) (by simp) ?_
      intro i hi
      obtain rfl : i = 3 := by simpa using hi
      clear hi
      refine wpOp_listV rfl ?_
      intro Q' hQ'
      have HQ : Hid _ := hQ'
      clear hQ'
      go_wp2_with fail
      refine Calls.mono QV.out ?_
      rintro e w8 ⟨⟨va, vn, vc, rfl⟩, hb8⟩
      have O8 : Hid (Ob w8 w5.heap.size #[.string A, .string ⟨#[]⟩, .slice none 0 0, .slice none 0 0, .slice (some ⟨gm, 0, none⟩) 1 1, .slice none 0 0, .slice none 0 0, .slice none 0 0, .string ⟨#[]⟩, .slice none 0 0, .slice none 0 0] 46) := O7.out.below hb8 O7.out.lt
      have HB8 : Hid (Below W.heap.size W w8) := HB7.out.trans (hb8.mono HB7.out.size)
      have R8 : Hid (Ob w8 W.heap.size #[.string ⟨#[]⟩, .int .i64 0] 50) := R7.out.below hb8 R7.out.lt
      have C8 := C7.out.below hb8 C7.out.lt
      obtain ⟨w9, hw9⟩ : ∃ w9, w8.setCell ⟨w3.heap.size + 1 + 1, 5, none⟩ (.slice va vn vc) = w9 := ⟨_, rfl⟩
      have C9 := C8.set 5 (.slice va vn vc)
      have O9 : Hid (Ob w9 w5.heap.size #[.string A, .string ⟨#[]⟩, .slice none 0 0, .slice none 0 0, .slice (some ⟨gm, 0, none⟩) 1 1, .slice none 0 0, .slice none 0 0, .slice none 0 0, .string ⟨#[]⟩, .slice none 0 0, .slice none 0 0] 46) := by rw [← hw9]; exact O8.out.other (by have := NC.out; omega) 5 _
      have R9 : Hid (Ob w9 W.heap.size #[.string ⟨#[]⟩, .int .i64 0] 50) := by rw [← hw9]; exact R8.out.other (by have := NB.out.1; omega) 5 _
      have HB9 : Hid (Below W.heap.size W w9) := by rw [← hw9]; exact HB8.out.setCell (p := ⟨w3.heap.size + 1 + 1, 5, none⟩) (by have := NB.out.1; show W.heap.size ≤ w3.heap.size + 1 + 1; omega) _
      rw [hw9] at C9
      obtain ⟨w10, hw10⟩ : ∃ w10, w9.setCell ⟨w3.heap.size + 1 + 1, 6, none⟩ (.bool false) = w10 := ⟨_, rfl⟩
      have C10 := C9.set 6 (.bool false)
      have O10 : Hid (Ob w10 w5.heap.size #[.string A, .string ⟨#[]⟩, .slice none 0 0, .slice none 0 0, .slice (some ⟨gm, 0, none⟩) 1 1, .slice none 0 0, .slice none 0 0, .slice none 0 0, .string ⟨#[]⟩, .slice none 0 0, .slice none 0 0] 46) := by rw [← hw10]; exact O9.out.other (by have := NC.out; omega) 6 _
      have R10 : Hid (Ob w10 W.heap.size #[.string ⟨#[]⟩, .int .i64 0] 50) := by rw [← hw10]; exact R9.out.other (by have := NB.out.1; omega) 6 _
      have HB10 : Hid (Below W.heap.size W w10) := by rw [← hw10]; exact HB9.out.setCell (p := ⟨w3.heap.size + 1 + 1, 6, none⟩) (by have := NB.out.1; show W.heap.size ≤ w3.heap.size + 1 + 1; omega) _
      rw [hw10] at C10
      have s1 : w8.cell? ⟨w3.heap.size + 1 + 1, 5, none⟩ = some (.slice none 0 0) := C8.cell 5 rfl
      have s2 : w8.frozen? ⟨w3.heap.size + 1 + 1, 5, none⟩ = false := C8.frozen 5
      have s3 : w3.heap.size + 1 + 1 < w8.heap.size := C8.lt
      have t1 : w9.cell? ⟨w3.heap.size + 1 + 1, 6, none⟩ = some (.bool false) := C9.cell 6 rfl
      have t2 : w9.frozen? ⟨w3.heap.size + 1 + 1, 6, none⟩ = false := C9.frozen 6
      have t3 : w3.heap.size + 1 + 1 < w9.heap.size := C9.lt
      have HC10 : Hid (w10.cell? ⟨w3.heap.size + 1 + 1, 6, none⟩ = some (.bool false) ∧ w3.heap.size + 1 + 1 < w10.heap.size) := ⟨C10.cell 6 rfl, C10.lt⟩
      have HW9 : Hid _ := hw9
      have HW10 : Hid _ := hw10
      clear hw9 hw10 C8 C9 C10 hb8 QV O7 HB7 R7 C7 HB8 R8 HB9 R9
      go_wp2
      refine HQ.out _ _ ⟨.inr O8, ?_⟩
      clear HQ
      refine wpAnyG_all (rs := [7]) (by kernel_rfl) (by simp) ?_
      intro i hi
      obtain rfl : i = 7 := by simpa using hi
      clear hi
      refine wpOp_listV rfl ?_
      intro Q' hQ'
      have HQ : Hid _ := hQ'
      clear hQ'
      go_wp2
      refine HQ.out _ _ ⟨.inr O8, ?_⟩
      clear HQ
      refine wpAnyG_all (rs := [8]) (by kernel_rfl) (by simp) ?_
      intro i hi
      obtain rfl : i = 8 := by simpa using hi
      clear hi
      refine wpOp_listV rfl ?_
      intro Q' hQ'
      have HQ : Hid _ := hQ'
      clear hQ'
      go_wp2
      rw [HW9.out]
      refine HQ.out _ _ ⟨.inr O9, ?_⟩
      clear HQ HW9 s1 s2 s3
      refine wpAnyG_all (rs := [9]) (by kernel_rfl) (by simp) ?_
      intro i hi
      obtain rfl : i = 9 := by simpa using hi
      clear hi
      refine wpOp_listV rfl ?_
      intro Q' hQ'
      have HQ : Hid _ := hQ'
      clear hQ'
      go_wp2
      refine HQ.out _ _ ⟨.inr O9, ?_⟩
      clear HQ
      refine wpAnyG_all (rs := [10]) (by kernel_rfl) (by simp) ?_
      intro i hi
      obtain rfl : i = 10 := by simpa using hi
      clear hi
      refine wpOp_listV rfl ?_
      intro Q' hQ'
      have HQ : Hid _ := hQ'
      clear hQ'
      go_wp2
      rw [HW10.out]
      refine HQ.out _ _ ⟨.inr O10, ?_⟩
      clear HQ HW10 t1 t2 t3
      refine wpAnyG_done (by kernel_rfl) ?_ _
      simp only [QnC]
      have QF10 : Hid _ := QF.out w10 HB10.out (w3.heap.size + 1 + 1) HC10
      unfold exFile at QF10
      obtain ⟨⟨d0, d1, d2, d3, d4, d5, d6, d7, d8, d9, d10⟩, _, dl⟩ := ob11 O10.out
      go_wp2_with fail
      refine Calls.mono QF10.out ?_
      rintro e w11 ⟨hb11, rfl⟩
      have HB11 : Hid (Below W.heap.size W w11) := HB10.out.trans (hb11.mono HB10.out.size)
      have R11 : Hid (Ob w11 W.heap.size #[.string ⟨#[]⟩, .int .i64 0] 50) := R10.out.below hb11 R10.out.lt
      clear hb11 d0 d1 d2 d3 d4 d5 d6 d7 d8 d9 d10 dl QF10 HB10 R10 O10 O9 O8
      refine leaves_cons (f := 34) (args := #[.pointer (some ⟨W.heap.size, 0, none⟩)]) (by simp) (by simp [go_sem]) ?_
      refine (fb_panicking _ _ w11 R11.out).mono ?_
      rintro e u' w'' ⟨rfl, rfl, h1, h2⟩
      exact ⟨.agg #[.string N2, .int .i64 9], fb_res rfl h1, rfl, HB11.out.trans (h2 _ (Nat.le_refl _))⟩

set_option maxRecDepth 100000 in
set_option maxHeartbeats 4000000 in
theorem ckSet1 (A : ByteArray) (hA : A.size ≤ 1000) (hA0 : (A.toList == []) = false) (nm s t : List Int) (hnb : Hid (byts nm)) (hsb : Hid (byts s)) (htb : Hid (byts t)) (hnl : nm.length ≤ 1000) (hsl : s.length ≤ 1000) (htl : t.length ≤ 1000) (hf1 : strOfNums (njoin nm s) ≠ strOfNums nm) (hf2 : strOfNums (njoin nm t) ≠ strOfNums nm) (hf3 : strOfNums (njoin nm t) ≠ strOfNums (njoin nm s)) (hm : nident nm = true) (hs : nident s = true) (ht : nident t = true) (gm gf gl : Nat) (W : World) (hT : Hid (LoTab W)) (hgm : Hid (Ob W gm (exG (strOfNums nm) gf 1) 42)) (hgl : Hid (Ob W gl (exFile A gm) 46)) (hgf : Hid (Ob W gf (exF (strOfNums s)) 34)) :
    Calls Tryz.prog 8 #[.slice (some ⟨gl, 0, none⟩) 1 1] W fun e W' => e = .returned (.tuple #[.string ⟨#[]⟩, .int .i64 0, .int .i64 0]) ∧ Below W.heap.size W W' := by
  have QC : Hid _ := cconf1C A ⟨#[]⟩ ⟨#[]⟩ (strOfNums nm) gf 1 gm gl W hgm.out hgl.out
  have QF : Hid _ := fun V (hV : Below W.heap.size W V) => cfb1 A hA hA0 nm s t hnb hsb htb hnl hsl htl hf1 hf2 hf3 hm hs ht gm gf gl V (show Hid _ from hT.out.below hV (Nat.le_refl _)) (show Hid _ from hgm.out.below hV hgm.out.lt) (show Hid _ from hgl.out.below hV hgl.out.lt) (show Hid _ from hgf.out.below hV hgf.out.lt)
  have hsz : (strOfNums (njoin nm t)).size ≤ 1000000 := by
    rw [strOfNums_size]
    have h1 : (njoin nm t).length ≤ nm.length + 1 + t.length := by unfold njoin; split <;> simp <;> omega
    omega
  have QN : Hid _ := fun V => pnclone_any (strOfNums (njoin nm t)) V hsz
  clear hsz hA hA0 hnb hsb htb hnl hsl htl hf1 hf2 hf3 hm hs ht hT hgm hgl hgf
  generalize strOfNums (njoin nm t) = N2 at *
  go_enter Tryz.func8, Tryz.ntmps8
  go_wp2_with fail
  refine Calls.mono QC.out ?_
  rintro e w1 ⟨rfl, hb1⟩
  have QF1 : Hid _ := QF.out w1 hb1
  have HB1 : Hid _ := hb1
  clear hb1 QF QC
  go_wp2_with fail
  refine Calls.mono QF1.out ?_
  rintro e w2 ⟨rfl, hb2⟩
  obtain ⟨w3, hw3⟩ : ∃ w3, w2.alloc (.cells #[.string ⟨#[]⟩, .int .i64 0] 50) = w3 := ⟨_, rfl⟩
  have hb3 : Below w2.heap.size w2 w3 := by rw [← hw3]; exact (Below.refl _ _).alloc (Nat.le_refl _) _
  have o3 : Ob w3 w2.heap.size #[.string ⟨#[]⟩, .int .i64 0] 50 := by rw [← hw3]; exact Ob.new _ _ _
  have HB2 : Hid (Below W.heap.size W w2) := HB1.out.trans (hb2.mono HB1.out.size)
  have HB3 : Hid (Below W.heap.size W w3) := HB2.out.trans (hb3.mono HB2.out.size)
  obtain ⟨⟨c0, c1⟩, _, cl⟩ := ob2 o3
  have O3 : Hid _ := o3
  have HW3 : Hid _ := hw3
  clear hb2 hb3 hw3 o3 QF1 HB1 HB2
  go_upto_region 4 with fail
  rw [HW3.out]
  clear HW3
  go_wp2
  go_ret3
  exact ⟨rfl, HB3.out⟩

set_option maxRecDepth 100000 in
set_option maxHeartbeats 4000000 in
theorem ckSet2 (A : ByteArray) (hA : A.size ≤ 1000) (hA0 : (A.toList == []) = false) (nm s t : List Int) (hnb : Hid (byts nm)) (hsb : Hid (byts s)) (htb : Hid (byts t)) (hnl : nm.length ≤ 1000) (hsl : s.length ≤ 1000) (htl : t.length ≤ 1000) (hf1 : strOfNums (njoin nm s) ≠ strOfNums nm) (hf2 : strOfNums (njoin nm t) ≠ strOfNums nm) (hf3 : strOfNums (njoin nm t) ≠ strOfNums (njoin nm s)) (hm : nident nm = true) (hs : nident s = true) (ht : nident t = true) (gm gf gl : Nat) (W : World) (hT : Hid (LoTab W)) (hgm : Hid (Ob W gm (exG (strOfNums nm) gf 2) 42)) (hgl : Hid (Ob W gl (exFile A gm) 46)) (hgf : Hid (Ob W gf (exR (strOfNums s) (strOfNums t)) 34)) :
    Calls Tryz.prog 8 #[.slice (some ⟨gl, 0, none⟩) 1 1] W fun e W' => e = .returned (.tuple #[.string (strOfNums (njoin nm t)), .int .i64 9, .int .i64 160]) ∧ Below W.heap.size W W' := by
  have QC : Hid _ := cconf1C A ⟨#[]⟩ ⟨#[]⟩ (strOfNums nm) gf 2 gm gl W hgm.out hgl.out
  have QF : Hid _ := fun V (hV : Below W.heap.size W V) => cfb2 A hA hA0 nm s t hnb hsb htb hnl hsl htl hf1 hf2 hf3 hm hs ht gm gf gl V (show Hid _ from hT.out.below hV (Nat.le_refl _)) (show Hid _ from hgm.out.below hV hgm.out.lt) (show Hid _ from hgl.out.below hV hgl.out.lt) (show Hid _ from hgf.out.below hV hgf.out.lt)
  have hsz : (strOfNums (njoin nm t)).size ≤ 1000000 := by
    rw [strOfNums_size]
    have h1 : (njoin nm t).length ≤ nm.length + 1 + t.length := by unfold njoin; split <;> simp <;> omega
    omega
  have QN : Hid _ := fun V => pnclone_any (strOfNums (njoin nm t)) V hsz
  clear hsz hA hA0 hnb hsb htb hnl hsl htl hf1 hf2 hf3 hm hs ht hT hgm hgl hgf
  generalize strOfNums (njoin nm t) = N2 at *
  go_enter Tryz.func8, Tryz.ntmps8
  go_wp2_with fail
  refine Calls.mono QC.out ?_
  rintro e w1 ⟨rfl, hb1⟩
  have QF1 : Hid _ := QF.out w1 hb1
  have HB1 : Hid _ := hb1
  clear hb1 QF QC
  go_wp2_with fail
  refine Calls.mono QF1.out ?_
  rintro e w2 ⟨rfl, hb2⟩
  obtain ⟨w3, hw3⟩ : ∃ w3, w2.alloc (.cells #[.string N2, .int .i64 9] 50) = w3 := ⟨_, rfl⟩
  have hb3 : Below w2.heap.size w2 w3 := by rw [← hw3]; exact (Below.refl _ _).alloc (Nat.le_refl _) _
  have o3 : Ob w3 w2.heap.size #[.string N2, .int .i64 9] 50 := by rw [← hw3]; exact Ob.new _ _ _
  have HB2 : Hid (Below W.heap.size W w2) := HB1.out.trans (hb2.mono HB1.out.size)
  have HB3 : Hid (Below W.heap.size W w3) := HB2.out.trans (hb3.mono HB2.out.size)
  obtain ⟨⟨c0, c1⟩, _, cl⟩ := ob2 o3
  have O3 : Hid _ := o3
  have HW3 : Hid _ := hw3
  clear hb2 hb3 hw3 o3 QF1 HB1 HB2
  go_upto_region 4 with fail
  rw [HW3.out]
  clear HW3
  have f0 := fun x : Ext w3 => x.cell (p := ⟨w2.heap.size, 0, none⟩) cl c0
  have f1 := fun x : Ext w3 => x.cell (p := ⟨w2.heap.size, 1, none⟩) cl c1
  go_upto_region 5 with fail
  clear c0 c1
  refine wp_region_ext w3 (Below.refl _ _) (by kernel_rfl) (by kernel_rfl) ?_
  repeat (go_big_quiet_step (first | (go_at_call 16; exact Ext.call (fun V hV => QN.out V) _)))
  refine wpQuiet_nil ?_
  rintro w4 ⟨⟨_, hb4⟩, rfl⟩
  clear f0 f1
  go_wp2
  go_ret3
  exact ⟨rfl, HB3.out.trans (hb4.mono HB3.out.size)⟩

end Go.Proofs.YtcnjjhdmnagkgaaGreatDoor
