/- A symbol more in a pool; a package and what it stands in. -/
import Derived.Test.YtfkhocmbhnigeaaGreatVFile
import Derived.Test.YtfkhocmbhnigeaaGreatVThen
import Derived.Test.YtfkhocmbhnigeaaGreatJMap
namespace Go.Proofs.YtfkhocmbhnigeaaGreat
open Go.RowKit
set_option linter.unusedVariables false
set_option linter.unusedSimpArgs false

theorem grown_ofV {w w' : World} {row : Option Nat} (hb : Below w.heap.size w w') : w.grownBy w' row := ⟨hb.os, hb.tape, hb.output, hb.size, fun k hk _ => hb.block k hk⟩

theorem grown_transV {w w1 w2 : World} {row : Option Nat} (h1 : w.grownBy w1 row) (h2 : w1.grownBy w2 row) : w.grownBy w2 row := World.grownBy.trans h1 h2

/-- A pool's block: its files, its two maps. -/
structure Po (w : World) (bp bs be : Nat) (vf : Value) (n : Nat) (g : ByteArray → Option Value) : Prop where
  blk : Ob w bp #[vf, .map (some bs), .map (some be)] 91
  sym : Mg w bs n g
  ext : Mg w be 0 (fun _ => none)
  ne : bp ≠ bs ∧ be ≠ bs ∧ bp ≠ be
  sl : ∃ a n c, vf = .slice a n c

theorem Po.below {w w' : World} {bp bs be : Nat} {vf : Value} {n : Nat} {g : ByteArray → Option Value} (h : Po w bp bs be vf n g) {B : Nat} (hb : Below B w w') (hB : w.heap.size ≤ B) : Po w' bp bs be vf n g :=
  ⟨h.blk.below hb (Nat.lt_of_lt_of_le h.blk.lt hB), h.sym.below hb (Nat.lt_of_lt_of_le h.sym.lt hB), h.ext.below hb (Nat.lt_of_lt_of_le h.ext.lt hB), h.ne, h.sl⟩

/-- One more. -/
theorem Po.put {w w' : World} {bp bs be : Nat} {vf : Value} {n n' : Nat} {g g' : ByteArray → Option Value} (h : Po w bp bs be vf n g) (hg : w.grownBy w' (some bs)) (hm : Mg w' bs n' g') : Po w' bp bs be vf n' g' :=
  ⟨h.blk.grown hg (fun e => h.ne.1 (Option.some.inj e)), hm, h.ext.kept hg (fun e => h.ne.2.1 (Option.some.inj e)), h.ne, h.sl⟩

theorem zeroSym (w : World) : (zeroValue 88).run Tryz.prog w = .ok (.agg #[.int .i64 0, .string ⟨#[]⟩, .pointer none, .pointer none, .pointer none]) w := by kernel_rfl

theorem symMap : Tryz.prog.underlying 83 = some (.map 9 88) := by kernel_rfl

/-- A name more, at a function. -/
def gput (g : ByteArray → Option Value) (k : ByteArray) (v : Value) : ByteArray → Option Value := fun x => if x = k then some v else g x

set_option maxRecDepth 100000 in
set_option maxHeartbeats 4000000 in
theorem pput0 (H : ByteArray) (sc nm : List Int) (hsb : Hid (byts sc)) (hnb : Hid (byts nm)) (hsl : sc.length ≤ 10000) (hnl : nm.length ≤ 10000) (kd : Int) (p1 p2 p3 : Option Addr) (W : World) {bp bs be : Nat} {vf : Value} {n : Nat} {g : ByteArray → Option Value} (hP : Hid (Po W bp bs be vf n g)) (hg : g (strOfNums (njoin sc nm)) = none) :
    Calls Tryz.prog 128 #[.agg #[.pointer (some ⟨bp, 0, none⟩), .string H], .string (strOfNums sc), .string (strOfNums nm), .agg #[.int .i64 kd, .string ⟨#[]⟩, .pointer p1, .pointer p2, .pointer p3]] W fun e W' => e = .returned (.string (strOfNums (njoin sc nm))) ∧ W.grownBy W' (some bs) ∧ Mg W' bs (n + 1) (gput g (strOfNums (njoin sc nm)) (.agg #[.int .i64 kd, .string H, .pointer p1, .pointer p2, .pointer p3])) := by
  obtain ⟨w3, hw3⟩ : ∃ w3, w3 = (W.alloc (.cells #[.pointer (some ⟨bp, 0, none⟩), .string H] 193)).alloc (.cells #[.int .i64 kd, .string ⟨#[]⟩, .pointer p1, .pointer p2, .pointer p3] 88) := ⟨_, rfl⟩
  have o0 : Ob w3 W.heap.size #[.pointer (some ⟨bp, 0, none⟩), .string H] 193 := by rw [hw3]; exact (Ob.new W _ _).alloc _
  have o1 : Ob w3 (W.heap.size + 1) #[.int .i64 kd, .string ⟨#[]⟩, .pointer p1, .pointer p2, .pointer p3] 88 := by
    rw [hw3]
    have := Ob.new (W.alloc (.cells #[.pointer (some ⟨bp, 0, none⟩), .string H] 193)) #[.int .i64 kd, .string ⟨#[]⟩, .pointer p1, .pointer p2, .pointer p3] 88
    simpa using this
  have hb3 : Below W.heap.size W w3 := by rw [hw3]; exact ((Below.refl _ W).alloc (Nat.le_refl _) _).alloc (by simp) _
  have hP3 := hP.out.below hb3 (Nat.le_refl _)
  have hbl := hP.out.blk.lt
  have hsl2 := hP.out.sym.lt
  have QJ : Hid _ := pjoin_any sc nm w3 (show Hid (NTab w3) from trivial) hsb hnb hsl hnl
  have hks : (strOfNums (njoin sc nm)).size ≤ maxLen := by rw [strOfNums_size]; unfold njoin maxLen; split <;> simp <;> omega
  generalize strOfNums (njoin sc nm) = F at *
  generalize strOfNums sc = S at *
  generalize strOfNums nm = M at *
  have O0 : Hid _ := o0
  have O1 : Hid _ := o1
  have P3 : Hid _ := hP3
  have HB3 : Hid _ := hb3
  have HW3 : Hid _ := hw3
  have HG : Hid _ := hg
  have HKS : Hid _ := hks
  clear o0 o1 hb3 hw3 hP3 hg hks
  go_enter Tryz.func128, Tryz.ntmps128
  go_upto_region 1 with fail
  rw [← HW3.out]
  clear HW3
  go_wp2_with fail
  refine Calls.mono QJ.out ?_
  rintro e w4 ⟨rfl, hb4⟩
  have o0 := O0.out.below hb4 O0.out.lt
  have o1 := O1.out.below hb4 O1.out.lt
  have hP4 := P3.out.below hb4 (Nat.le_refl _)
  have HB4 : Hid (Below W.heap.size W w4) := HB3.out.trans (hb4.mono HB3.out.size)
  have hlk := hP4.sym.look symMap (zeroSym w4) F HKS.out true
  rw [HG.out] at hlk
  simp only [mlook] at hlk
  obtain ⟨w6, hw6⟩ : ∃ w6, w6 = (w4.setCell ⟨W.heap.size + 1, 1, none⟩ (.string H)).alloc (.cells #[.int .i64 0, .string ⟨#[]⟩, .pointer none, .pointer none, .pointer none] 88) := ⟨_, rfl⟩
  have hl4 : W.heap.size + 1 < w4.heap.size := o1.lt
  have hb6 : Below (W.heap.size + 1) w4 w6 := by rw [hw6]; exact ((Below.refl _ w4).setCell (p := ⟨W.heap.size + 1, 1, none⟩) (Nat.le_refl _) _).alloc (by simp; omega) _
  have q0 : Ob w6 W.heap.size #[.pointer (some ⟨bp, 0, none⟩), .string H] 193 := o0.below hb6 (by omega)
  have q1 : Ob w6 (W.heap.size + 1) #[.int .i64 kd, .string H, .pointer p1, .pointer p2, .pointer p3] 88 := by rw [hw6]; have := (o1.set 1 (.string H)).alloc (.cells #[.int .i64 0, .string ⟨#[]⟩, .pointer none, .pointer none, .pointer none] 88); simpa using this
  have q2 : Ob w6 bp #[vf, .map (some bs), .map (some be)] 91 := hP4.blk.below hb6 (by omega)
  have q3 : Mg w6 bs n g := hP4.sym.below hb6 (by omega)
  have HB6 : Hid (Below W.heap.size W w6) := HB4.out.trans (hb6.mono (by omega))
  have a0 := fun x : Ext w6 => x.cell (p := ⟨W.heap.size, 0, none⟩) q0.lt (q0.cell 0 rfl)
  have a1 := fun x : Ext w6 => x.cell (p := ⟨W.heap.size, 1, none⟩) q0.lt (q0.cell 1 rfl)
  have b0 := fun x : Ext w6 => x.cell (p := ⟨W.heap.size + 1, 0, none⟩) q1.lt (q1.cell 0 rfl)
  have b1 := fun x : Ext w6 => x.cell (p := ⟨W.heap.size + 1, 1, none⟩) q1.lt (q1.cell 1 rfl)
  have b2 := fun x : Ext w6 => x.cell (p := ⟨W.heap.size + 1, 2, none⟩) q1.lt (q1.cell 2 rfl)
  have b3 := fun x : Ext w6 => x.cell (p := ⟨W.heap.size + 1, 3, none⟩) q1.lt (q1.cell 3 rfl)
  have b4 := fun x : Ext w6 => x.cell (p := ⟨W.heap.size + 1, 4, none⟩) q1.lt (q1.cell 4 rfl)
  have c0 := fun x : Ext w6 => x.cell (p := ⟨bp, 0, none⟩) q2.lt (q2.cell 0 rfl)
  have c1 := fun x : Ext w6 => x.cell (p := ⟨bp, 1, none⟩) q2.lt (q2.cell 1 rfl)
  have c2 := fun x : Ext w6 => x.cell (p := ⟨bp, 2, none⟩) q2.lt (q2.cell 2 rfl)
  obtain ⟨⟨x0, x1⟩, _, xl⟩ := ob2 o0
  obtain ⟨⟨y0, y1, y2, y3, y4⟩, ⟨u0, u1, u2, u3, u4⟩, yl⟩ := ob5 o1
  have z1 : w4.cell? ⟨bp, 1, none⟩ = some (.map (some bs)) := hP4.blk.cell 1 rfl
  have zl := hP4.blk.lt
  have Q3 : Hid (Mg w6 bs n g) := q3
  have HW6 : Hid _ := hw6
  clear o0 o1 hP4 hb4 hb6 q0 q1 q2 q3 hw6 O0 O1 P3 HB3 HB4 QJ hP
  go_upto_region 6 with fail
  rw [← HW6.out]
  clear HW6 x0 x1 xl y0 y1 y2 y3 y4 u0 u1 u2 u3 u4 yl z1 zl hlk
  refine wp_region_elast w6 (Below.refl _ _) rfl (by kernel_rfl) (by kernel_rfl) (by kernel_rfl) (by kernel_rfl) ?_
  simp only [List.dropLast]
  repeat (go_big_quiet_step (fail))
  refine wpQuiet_nil ?_
  rintro w7 ⟨⟨_, hb7⟩, rfl⟩ Q' hQ'
  have HQ : Hid _ := hQ'
  obtain ⟨w8, hup, hm8, hg8⟩ := (Q3.out.below hb7 Q3.out.lt).put symMap F HKS.out (.agg #[.int .i64 kd, .string H, .pointer p1, .pointer p2, .pointer p3])
  rw [HG.out] at hm8
  have HM8 : Hid (Mg w8 bs (n + 1) (gput g F (.agg #[.int .i64 kd, .string H, .pointer p1, .pointer p2, .pointer p3]))) := hm8
  have HG8 : Hid (W.grownBy w8 (some bs)) := grown_transV (grown_ofV (HB6.out.trans (hb7.mono HB6.out.size))) hg8
  clear hQ' hm8 hg8 hb7 a0 a1 b0 b1 b2 b3 b4 c0 c1 c2 HB6 Q3
  go_wp2
  refine HQ.out _ _ ?_
  clear HQ
  go_wp2
  go_ret
  exact ⟨rfl, HG8.out, HM8.out⟩

/-- What a package's symbol is. -/
def pkgV (H : ByteArray) : Value := .agg #[.int .i64 1, .string H, .pointer none, .pointer none, .pointer none]

/-- Where the rounds of packages are. -/
structure Pk (W wr : World) (bp bs be : Nat) (vf : Value) (H : ByteArray) (n : Nat) (g : ByteArray → Option Value) : Prop where
  hom : Ob wr W.heap.size #[.pointer (some ⟨bp, 0, none⟩), .string H] 193
  po : Po wr bp bs be vf n g
  grown : W.grownBy wr (some bs)

theorem nparent_take (s : List Int) : (nparent s).1 = s.take (nparent s).1.length := by
  unfold nparent
  split
  · simp
  · simp only [List.length_take]
    rw [List.take_eq_take_iff]
    omega

theorem nparent_ltV (s : List Int) (h : s ≠ []) : (nparent s).1.length < s.length := by
  have h1 := nlast_le s s.length
  have h2 : 0 < s.length := List.length_pos_iff.2 h
  unfold nparent
  split
  · simpa using h2
  · rw [List.length_take]; omega

def strLen (v : Value) : Nat := match v with | .string s => s.size | _ => 0

set_option maxRecDepth 100000 in
set_option maxHeartbeats 4000000 in
theorem ppkg_gen (H : ByteArray) (T : List Int → Nat → (ByteArray → Option Value) → Prop) (hT : Hid (∀ s n g, T s n g → s ≠ [] → byts s ∧ (∀ i, 0 ≤ s.getD i 0 ∧ s.getD i 0 ≤ 255) ∧ s.length ≤ 10000 ∧ g (strOfNums s) = none ∧ T (nparent s).1 (n + 1) (gput g (strOfNums s) (pkgV H))))
    (s0 : List Int) (n0 : Nat) (g0 : ByteArray → Option Value) (h0 : Hid (T s0 n0 g0)) (W : World) {bp bs be : Nat} {vf : Value} (hP : Hid (Po W bp bs be vf n0 g0)) :
    Calls Tryz.prog 126 #[.agg #[.pointer (some ⟨bp, 0, none⟩), .string H], .string (strOfNums s0)] W fun e W' => e = .returned (.tuple #[]) ∧ W.grownBy W' (some bs) ∧ ∃ n g, T [] n g ∧ Po W' bp bs be vf n g := by
  obtain ⟨w3, hw3⟩ : ∃ w3, w3 = W.alloc (.cells #[.pointer (some ⟨bp, 0, none⟩), .string H] 193) := ⟨_, rfl⟩
  have hbl := hP.out.blk.lt
  have hsl2 := hP.out.sym.lt
  have K3 : Hid (Pk W w3 bp bs be vf H n0 g0) := by
    have hb3 : Below W.heap.size W w3 := by rw [hw3]; exact (Below.refl _ W).alloc (Nat.le_refl _) _
    exact ⟨by rw [hw3]; exact Ob.new W _ _, hP.out.below hb3 (Nat.le_refl _), grown_ofV hb3⟩
  have HW3 : Hid _ := hw3
  have hpp : ∀ w, (zeroValue 88).run Tryz.prog w = .ok (.agg #[.int .i64 0, .string ⟨#[]⟩, .pointer none, .pointer none, .pointer none]) w := zeroSym
  clear hw3 hP
  obtain ⟨S0, hS0⟩ : ∃ S0, S0 = strOfNums s0 := ⟨_, rfl⟩
  rw [← hS0]
  have HS0 : Hid _ := hS0
  clear hS0
  go_enter Tryz.func126, Tryz.ntmps126
  go_upto_region 1 with fail
  rw [← HW3.out]
  clear HW3
  go_loopw [1] (fun v wr => ∃ s n g, v = .string (strOfNums s) ∧ Hid (T s n g) ∧ Hid (Pk W wr bp bs be vf H n g)) (fun v _ => strLen v)
  case atStart => exact ⟨s0, n0, g0, by rw [HS0.out], h0, K3⟩
  case round =>
    obtain ⟨s, n, g, rfl, HT, K⟩ := hrel
    by_cases hse : s = []
    · subst hse
      have hne : ((strOfNums []).toList == []) = true := by rw [str_list]; rfl
      generalize strOfNums [] = S at *
      go_wp2
      go_end0
      exact ⟨rfl, K.out.grown, n, g, HT.out, K.out.po⟩
    · obtain ⟨hby, hz, hln, hgn, hT2⟩ := hT.out s n g HT.out hse
      have hne : ((strOfNums s).toList == []) = false := by
        cases s with
        | nil => exact absurd rfl hse
        | cons c r => exact str_ne c r
      have hks : (strOfNums s).size ≤ maxLen := by rw [strOfNums_size]; unfold maxLen; omega
      have QP : Hid _ := fun V => pparent_any s V (show Hid (NTab V) from trivial) hz (by omega)
      have hlt := nparent_ltV s hse
      have h1 := run_head s (nparent s).1.length (by omega) (by omega)
      rw [← nparent_take s] at h1
      have hlen : ((strOfNums (nparent s).1).size : Int) = ((nparent s).1.length : Int) := by rw [strOfNums_size]
      have hms : strLen (.string (strOfNums (nparent s).1)) < strLen (.string (strOfNums s)) := by simp only [strLen, strOfNums_size]; exact hlt
      have HT2 : Hid _ := hT2
      have HMS : Hid _ := hms
      have o0 := K.out.hom
      have hP4 := K.out.po
      have hlk := hP4.sym.look symMap (zeroSym wr) (strOfNums s) hks true
      rw [hgn] at hlk
      simp only [mlook] at hlk
      obtain ⟨w6, hw6⟩ : ∃ w6, w6 = wr.alloc (.cells #[.int .i64 0, .string ⟨#[]⟩, .pointer none, .pointer none, .pointer none] 88) := ⟨_, rfl⟩
      have hb6 : Below wr.heap.size wr w6 := by rw [hw6]; exact (Below.refl _ wr).alloc (Nat.le_refl _) _
      have q0 := o0.below hb6 o0.lt
      have hP6 := hP4.below hb6 (Nat.le_refl _)
      have q2 := hP6.blk
      have HG6 : Hid (W.grownBy w6 (some bs)) := grown_transV K.out.grown (grown_ofV hb6)
      have a0 := fun x : Ext w6 => x.cell (p := ⟨W.heap.size, 0, none⟩) q0.lt (q0.cell 0 rfl)
      have a1 := fun x : Ext w6 => x.cell (p := ⟨W.heap.size, 1, none⟩) q0.lt (q0.cell 1 rfl)
      have c0 := fun x : Ext w6 => x.cell (p := ⟨bp, 0, none⟩) q2.lt (q2.cell 0 rfl)
      have c1 := fun x : Ext w6 => x.cell (p := ⟨bp, 1, none⟩) q2.lt (q2.cell 1 rfl)
      have c2 := fun x : Ext w6 => x.cell (p := ⟨bp, 2, none⟩) q2.lt (q2.cell 2 rfl)
      obtain ⟨⟨x0, x1⟩, _, xl⟩ := ob2 o0
      have z1 : wr.cell? ⟨bp, 1, none⟩ = some (.map (some bs)) := hP4.blk.cell 1 rfl
      have zl := hP4.blk.lt
      have Q0 : Hid _ := q0
      have P6 : Hid (Po w6 bp bs be vf n g) := hP6
      have HGN : Hid _ := hgn
      have HKS : Hid _ := hks
      have HW6 : Hid _ := hw6
      clear o0 hP4 hb6 q0 q2 hP6 hw6 hT2 hms hgn hks hby hz hln hse K HT
      generalize hN1 : strOfNums (nparent s).1 = N1 at *
      have HN1 : Hid _ := hN1
      clear hN1
      generalize strOfNums (nparent s).2 = N2 at *
      generalize strOfNums s = S at *
      go_upto_region 6 with fail
      rw [← HW6.out]
      clear HW6 x0 x1 xl z1 zl hlk
      refine wp_region_elast w6 (Below.refl _ _) rfl (by kernel_rfl) (by kernel_rfl) (by kernel_rfl) (by kernel_rfl) ?_
      simp only [List.dropLast]
      repeat (go_big_quiet_step (fail))
      refine wpQuiet_nil ?_
      rintro w7 ⟨⟨_, hb7⟩, rfl⟩ Q' hQ'
      have HQ : Hid _ := hQ'
      have hP7 := P6.out.below hb7 (Nat.le_refl _)
      obtain ⟨w8, hup, hm8, hg8⟩ := hP7.sym.put symMap S HKS.out (.agg #[.int .i64 1, .string H, .pointer none, .pointer none, .pointer none])
      rw [HGN.out] at hm8
      have hP8 := hP7.put hg8 (show Mg w8 bs (n + 1) (gput g S (pkgV H)) from hm8)
      have P8 : Hid _ := hP8
      have HG8 : Hid (W.grownBy w8 (some bs)) := grown_transV (grown_transV HG6.out (grown_ofV hb7)) hg8
      have hbW : W.heap.size ≠ bs := by omega
      have q8 : Ob w8 W.heap.size #[.pointer (some ⟨bp, 0, none⟩), .string H] 193 := (Q0.out.below hb7 Q0.out.lt).grown hg8 (fun e => hbW (Option.some.inj e))
      have Q8 : Hid _ := q8
      clear hQ' hm8 hg8 hb7 a0 a1 c0 c1 c2 HG6 Q0 P6 hP7 hP8 q8
      go_wp2
      refine HQ.out _ _ ?_
      clear HQ hup
      go_wp2_with fail
      refine Calls.mono (QP.out _) ?_
      rintro e w9 ⟨rfl, hb9⟩
      have P9 : Hid _ := P8.out.below hb9 (Nat.le_refl _)
      have Q9 : Hid _ := Q8.out.below hb9 Q8.out.lt
      have HG9 : Hid (W.grownBy w9 (some bs)) := grown_transV HG8.out (grown_ofV hb9)
      clear hb9 P8 Q8 HG8 QP
      go_wp2
      go_roundw
      case rel => first | exact ⟨(nparent s).1, n + 1, _, by rw [HN1.out], HT2, ⟨Q9.out, P9.out, HG9.out⟩⟩ | ((repeat apply Exists.intro); exact ⟨⟨(nparent s).1, n + 1, _, by rw [HN1.out], HT2, ⟨Q9.out, P9.out, HG9.out⟩⟩, rfl⟩)
      case measure => exact HMS.out

end Go.Proofs.YtfkhocmbhnigeaaGreat
