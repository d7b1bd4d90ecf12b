/- Put together by a program out of these texts of mine: VSo0, VSo2, SoSh, VSo4, VSo5. -/
import Derived.Shelf.RegionOpenPlain
import Derived.Shelf.SlSortCmp.Whole1
import Derived.Test.YtafmoceinamcdaaGreatProg
import Derived.Shelf.SlSortCmp.Xorshift
import Derived.Laws.Bits64b
import Derived.Test.YtafmoceinamcdaaGreatBunS4
import Derived.Test.YtafmoceinamcdaaGreatBunS17

namespace Go.Proofs.YtafmoceinamcdaaGreat
open Go.RowKit
set_option linter.unusedVariables false
set_option linter.unusedSimpArgs false

def Rg (w : World) (B n : Nat) (G : ByteArray → Prop) : Prop := ∃ cs, w.heap[B]? = some (.cells cs 9 (0, 0)) ∧ n ≤ cs.size ∧ ∀ j, j < n → ∃ x, cs[j]? = some (.string x) ∧ G x

abbrev Fb (B : Nat) (w w' : World) : Prop := Fx (fun b => b = B) w w'

def CmpC (W0 : World) (B bp : Nat) (cf : ByteArray → ByteArray → Int) (G : ByteArray → Prop) : Prop :=
  ∀ W x y, Fb B W0 W → G x → G y → Calls Tryz.prog 122 #[.pointer (some ⟨bp, 0, none⟩), .string x, .string y] W fun e W' => e = .returned (.int .i64 (cf x y)) ∧ Below W.heap.size W W'

def cmpV (bp : Nat) : Value := .func (.func 122) #[.pointer (some ⟨bp, 0, none⟩)] #[]

theorem Rg.lt {w : World} {B n : Nat} {G : ByteArray → Prop} (h : Rg w B n G) : B < w.heap.size := by
  obtain ⟨cs, h1, _⟩ := h
  exact (Array.getElem?_eq_some_iff.1 h1).1

theorem Rg.below {w w' : World} {B n : Nat} {G : ByteArray → Prop} (h : Rg w B n G) (hb : Below w.heap.size w w') : Rg w' B n G := by
  have hl := h.lt
  obtain ⟨cs, h1, h2⟩ := h
  exact ⟨cs, (hb.block B hl).trans h1, h2⟩

theorem Rg.fx {S : Nat → Prop} {w w' : World} {B n : Nat} {G : ByteArray → Prop} (h : Rg w B n G) (hf : Fx S w w') (hS : ¬ S B) : Rg w' B n G := by
  have hl := h.lt
  obtain ⟨cs, h1, h2⟩ := h
  exact ⟨cs, (hf.block B hl hS).trans h1, h2⟩

theorem Rg.cell {w : World} {B n : Nat} {G : ByteArray → Prop} (h : Rg w B n G) {j : Nat} (hj : j < n) : ∃ x, w.cell? ⟨B, j, none⟩ = some (.string x) ∧ G x := by
  obtain ⟨cs, h1, h2, h3⟩ := h
  obtain ⟨x, hx, hg⟩ := h3 j hj
  exact ⟨x, (Ob.mk h1).cell j hx, hg⟩

theorem Rg.frozen {w : World} {B n : Nat} {G : ByteArray → Prop} (h : Rg w B n G) (j : Nat) : w.frozen? ⟨B, j, none⟩ = false := by
  obtain ⟨cs, h1, _⟩ := h
  exact (Ob.mk h1).frozen j

theorem Rg.set {w : World} {B n : Nat} {G : ByteArray → Prop} (h : Rg w B n G) {j : Nat} {x : ByteArray} (hx : G x) : Rg (w.setCell ⟨B, j, none⟩ (.string x)) B n G := by
  obtain ⟨cs, h1, h2, h3⟩ := h
  refine ⟨_, ((Ob.mk h1).set j (.string x)).eq, by simpa using h2, fun i hi => ?_⟩
  by_cases hij : j = i
  · subst hij
    exact ⟨x, by rw [Array.getElem?_setIfInBounds, if_pos rfl, if_pos (by omega)], hx⟩
  · obtain ⟨y, hy, hg⟩ := h3 i hi
    exact ⟨y, by rw [Array.getElem?_setIfInBounds, if_neg hij]; exact hy, hg⟩

theorem Fx.bel {S : Nat → Prop} {w w1 w2 : World} (h : Fx S w w1) (k : Below w1.heap.size w1 w2) : Fx S w w2 := h.also (Fx.of_below k)

theorem Rg.swap {w : World} {B n : Nat} {G : ByteArray → Prop} (h : Rg w B n G) {i j : Nat} (hi : i < n) (hj : j < n) :
    ∃ x y, w.cell? ⟨B, i, none⟩ = some (.string x) ∧ w.cell? ⟨B, j, none⟩ = some (.string y) ∧ w.frozen? ⟨B, i, none⟩ = false ∧ w.frozen? ⟨B, j, none⟩ = false ∧ (∃ u, (w.setCell ⟨B, i, none⟩ (.string y)).cell? ⟨B, j, none⟩ = some u) ∧ B < w.heap.size ∧
      Rg (((w.setCell ⟨B, i, none⟩ (.string y)).setCell ⟨B, j, none⟩ (.string x)).drew) B n G ∧ Fb B w (((w.setCell ⟨B, i, none⟩ (.string y)).setCell ⟨B, j, none⟩ (.string x)).drew) := by
  obtain ⟨x, hx, gx⟩ := h.cell hi
  obtain ⟨y, hy, gy⟩ := h.cell hj
  have hc : ∃ u, (w.setCell ⟨B, i, none⟩ (.string y)).cell? ⟨B, j, none⟩ = some u := by
    obtain ⟨u, hu, _⟩ := (h.set (j := i) gy).cell hj
    exact ⟨_, hu⟩
  refine ⟨x, y, hx, hy, h.frozen i, h.frozen j, hc, h.lt, ?_, ?_⟩
  · exact ((h.set (j := i) gy).set (j := j) gx).below (Below.refl _ _).drew
  · exact ((fx1 w B i (.string y)).also (fx1 _ B j (.string x))).bel (Below.refl _ _).drew

theorem wr64 (n : Int) (h : -9223372036854775808 ≤ n ∧ n ≤ 9223372036854775807) : wrap64 n = n := by unfold wrap64; omega

def Ct (w w' : World) (g : Nat) : Prop := Fx (fun b => b = g) w w' ∧ ∃ k, Ob w' g #[.int .i64 k] 3

theorem Ct.also {w w1 w2 : World} {g : Nat} (h : Ct w w1 g) (k : Ct w1 w2 g) : Ct w w2 g := ⟨h.1.also k.1, k.2⟩

theorem Fx.ct {B : Nat} {W0 W W' : World} {g : Nat} (h : Fb B W0 W) (hg : W0.heap.size ≤ g) (hc : Ct W W' g) : Fb B W0 W' := h.trans hc.1 (fun b e => .inr (by rw [e]; exact hg))

theorem Rg.ct {W W' : World} {B n g : Nat} {G : ByteArray → Prop} {k : Int} (h : Rg W B n G) (ho : Ob W g #[.int .i64 k] 3) (hc : Ct W W' g) : Rg W' B n G := h.fx hc.1 (fun e => by
  have e' : B = g := e
  obtain ⟨cs, h1, _⟩ := h
  rw [e', ho.eq] at h1
  cases h1)

set_option maxRecDepth 100000 in
set_option maxHeartbeats 8000000 in
theorem so_order2 {W0 : World} {B bp : Nat} {cf : ByteArray → ByteArray → Int} {G : ByteArray → Prop} (hcmp : Hid (CmpC W0 B bp cf G)) (n cap a b : Nat) (han : a < n) (hbn : b < n) (W : World) (g : Nat) (k : Int) (hf2 : Hid (Fb B W0 W)) (hr : Hid (Rg W B n G)) (hg : Hid (Ob W g #[.int .i64 k] 3)) :
    Calls Tryz.prog 196 #[.slice (some ⟨B, 0, none⟩) n cap, .int .i64 (a : Int), .int .i64 (b : Int), .pointer (some ⟨g, 0, none⟩), cmpV bp] W fun e W' => ∃ p q : Nat, e = .returned (.tuple #[.int .i64 (p : Int), .int .i64 (q : Int)]) ∧ (p = a ∨ p = b) ∧ (q = a ∨ q = b) ∧ Ct W W' g := by
  unfold cmpV
  have HF : Hid (Fb B W0 W) := hf2
  have HR : Hid (Rg W B n G) := hr
  have HG : Hid (Ob W g #[.int .i64 k] 3) := hg
  obtain ⟨x, hx, gx⟩ := HR.out.cell hbn
  obtain ⟨y, hy, gy⟩ := HR.out.cell han
  have hlB := HR.out.lt
  have a0 := fun V : Ext W => V.cell (p := ⟨B, b, none⟩) hlB hx
  have a1 := fun V : Ext W => V.cell (p := ⟨B, a, none⟩) hlB hy
  have HC : Hid _ := fun V (hV : Below W.heap.size W V) => hcmp.out V x y (HF.out.bel hV) gx gy
  clear gx gy hx hy hf2 hr hg
  go_enter Tryz.func196, Tryz.ntmps196
  go_upto_region 1 with fail
  refine wp_region_ext W (Below.refl _ _) (by kernel_rfl) (by kernel_rfl) ?_
  repeat (go_big_quiet_step (first
    | (go_at_call 122; exact Ext.call HC.out _)))
  refine wpQuiet_nil ?_
  rintro w2 ⟨⟨_, hb2⟩, rfl⟩
  have F2 : Hid (Below W.heap.size W w2) := hb2
  have G2 : Hid (Ob w2 g #[.int .i64 k] 3) := HG.out.below hb2 HG.out.lt
  obtain ⟨g1, g2, g3⟩ := ob1 G2.out
  clear a0 a1 hb2 HC hlB
  go_wp2
  · go_ret2
    refine ⟨b, a, rfl, .inr rfl, .inl rfl, (Fx.of_below F2.out).also (fx1 _ _ _ _), ?_⟩
    have := G2.out.set 0 (.int .i64 (wrap64 (k + 1)))
    exact ⟨_, by simpa using this⟩
  · go_ret2
    exact ⟨a, b, rfl, .inl rfl, .inr rfl, Fx.of_below F2.out, _, G2.out⟩

set_option maxRecDepth 100000 in
set_option maxHeartbeats 8000000 in
theorem so_median {W0 : World} {B bp : Nat} {cf : ByteArray → ByteArray → Int} {G : ByteArray → Prop} (hcmp : Hid (CmpC W0 B bp cf G)) (n cap a b c : Nat) (han : a < n) (hbn : b < n) (hcn : c < n) (W : World) (g : Nat) (k : Int) (hg0 : Hid (W0.heap.size ≤ g)) (hf2 : Hid (Fb B W0 W)) (hr : Hid (Rg W B n G)) (hg : Hid (Ob W g #[.int .i64 k] 3)) :
    Calls Tryz.prog 194 #[.slice (some ⟨B, 0, none⟩) n cap, .int .i64 (a : Int), .int .i64 (b : Int), .int .i64 (c : Int), .pointer (some ⟨g, 0, none⟩), cmpV bp] W fun e W' => ∃ r : Nat, e = .returned (.int .i64 (r : Int)) ∧ (r = a ∨ r = b ∨ r = c) ∧ Ct W W' g := by
  have HF : Hid (Fb B W0 W) := hf2
  have HR : Hid (Rg W B n G) := hr
  have HG : Hid (Ob W g #[.int .i64 k] 3) := hg
  have Q1 : Hid _ := so_order2 hcmp n cap a b han hbn W g k hf2 hr hg
  unfold cmpV at Q1 ⊢
  clear hf2 hr hg
  go_enter Tryz.func194, Tryz.ntmps194
  go_wp2_with fail
  refine Calls.mono Q1.out ?_
  rintro e w1 ⟨p1, q1, rfl, h1, h2, hc1⟩
  have H1 : Hid (p1 < n ∧ q1 < n ∧ (p1 = a ∨ p1 = b) ∧ (q1 = a ∨ q1 = b)) := ⟨by rcases h1 with rfl | rfl <;> assumption, by rcases h2 with rfl | rfl <;> assumption, h1, h2⟩
  obtain ⟨k1, G1⟩ := hc1.2
  have Q2 : Hid _ := so_order2 hcmp n cap q1 c H1.out.2.1 hcn w1 g k1 (show Hid _ from HF.out.ct hg0.out hc1) (show Hid _ from HR.out.ct HG.out hc1) (show Hid _ from G1)
  have C1 : Hid (Ct W w1 g) := hc1
  have OG1 : Hid (Ob w1 g #[.int .i64 k1] 3) := G1
  unfold cmpV at Q2
  clear h1 h2 hc1 G1 Q1
  go_wp2_with fail
  refine Calls.mono Q2.out ?_
  rintro e w2 ⟨p2, q2, rfl, h1, h2, hc2⟩
  have H2 : Hid (p2 < n ∧ q2 < n ∧ (p2 = q1 ∨ p2 = c) ∧ (q2 = q1 ∨ q2 = c)) := ⟨by have := H1.out.2.1; rcases h1 with rfl | rfl <;> assumption, by have := H1.out.2.1; rcases h2 with rfl | rfl <;> assumption, h1, h2⟩
  obtain ⟨k2, G2⟩ := hc2.2
  have C2 : Hid (Ct W w2 g) := C1.out.also hc2
  have Q3 : Hid _ := so_order2 hcmp n cap p1 p2 H1.out.1 H2.out.1 w2 g k2 (show Hid _ from HF.out.ct hg0.out C2.out) (show Hid _ from HR.out.ct HG.out C2.out) (show Hid _ from G2)
  unfold cmpV at Q3
  clear h1 h2 hc2 G2 Q2 C1 OG1
  go_wp2_with fail
  refine Calls.mono Q3.out ?_
  rintro e w3 ⟨p3, q3, rfl, h1, h2, hc3⟩
  have C3 : Hid (Ct W w3 g) := C2.out.also hc3
  have H3 : Hid (q3 = p1 ∨ q3 = p2) := h2
  clear h1 h2 hc3 Q3 C2
  go_wp2
  go_ret
  refine ⟨q3, rfl, ?_, C3.out⟩
  have e1 := H1.out.2.2
  have e2 := H2.out.2.2
  have e3 := H3.out
  omega

set_option maxRecDepth 100000 in
set_option maxHeartbeats 8000000 in
theorem so_medianAdj {W0 : World} {B bp : Nat} {cf : ByteArray → ByteArray → Int} {G : ByteArray → Prop} (hcmp : Hid (CmpC W0 B bp cf G)) (n cap a : Nat) (h1a : 1 ≤ a) (han : a + 1 < n) (hn : n ≤ 1000000000) (W : World) (g : Nat) (k : Int) (hg0 : Hid (W0.heap.size ≤ g)) (hf2 : Hid (Fb B W0 W)) (hr : Hid (Rg W B n G)) (hg : Hid (Ob W g #[.int .i64 k] 3)) :
    Calls Tryz.prog 193 #[.slice (some ⟨B, 0, none⟩) n cap, .int .i64 (a : Int), .pointer (some ⟨g, 0, none⟩), cmpV bp] W fun e W' => ∃ r : Nat, e = .returned (.int .i64 (r : Int)) ∧ (r + 1 = a ∨ r = a ∨ r = a + 1) ∧ Ct W W' g := by
  obtain ⟨q, rfl⟩ : ∃ q, a = q + 1 := ⟨a - 1, by omega⟩
  have Q1 : Hid _ := so_median hcmp n cap q (q + 1) (q + 2) (by omega) (by omega) (by omega) W g k hg0 hf2 hr hg
  have hcc : ((q + 1 : Nat) : Int) = (q : Int) + 1 := by omega
  have hcc2 : ((q + 2 : Nat) : Int) = (q : Int) + 1 + 1 := by omega
  rw [hcc, hcc2] at Q1
  rw [hcc]
  unfold cmpV at Q1 ⊢
  have e6 : IntKind.i64.wrap ((q : Int)) = (q : Int) := by rw [IntKind.wrap_i64]; omega
  have e7 : IntKind.i64.wrap ((q : Int) + 1 + 1) = (q : Int) + 1 + 1 := by rw [IntKind.wrap_i64]; omega
  clear hf2 hr hg hcc hcc2
  go_enter Tryz.func193, Tryz.ntmps193
  go_wp2_with fail
  refine Calls.mono Q1.out ?_
  rintro e w1 ⟨r, rfl, h1, hc1⟩
  have H1 : Hid (r + 1 = q + 1 ∨ r = q + 1 ∨ r = q + 1 + 1) := by show _ ∨ _; omega
  have C1 : Hid _ := hc1
  clear h1 hc1 Q1
  go_wp2
  go_ret
  exact ⟨r, rfl, H1.out, C1.out⟩

end Go.Proofs.YtafmoceinamcdaaGreat

namespace Go.Proofs.YtafmoceinamcdaaGreat
open Go.Shelf

def Sh.laysSlF6_f121_ren : Go.Shelf.Ren := ⟨fun | 6 => 121 | 15 => 130 | 14 => 151 | 28 => 164 | 29 => 165 | 20 => 175 | 21 => 176 | 22 => 177 | 23 => 178 | 24 => 179 | 25 => 180 | 26 => 181 | 27 => 182 | 46 => 192 | 47 => 186 | 48 => 187 | 49 => 193 | 50 => 194 | 57 => 196 | n => n, fun | 22 => 30 | 24 => 9 | 25 => 121 | 3 => 3 | 39 => 184 | 0 => 0 | 53 => 197 | 55 => 188 | 4 => 4 | 46 => 216 | 45 => 215 | 50 => 220 | 5 => 5 | 9 => 9 | 66 => 234 | 70 => 238 | 76 => 242 | 77 => 243 | n => n, fun | n => n⟩

theorem Sh.laysSlF6_f121 : Go.Proofs.SlLaysF.n6 Tryz.prog Sh.laysSlF6_f121_ren := {
  mixed := by kernel_rfl
  f6 := ⟨Tryz.f121.name, by decide, Tryz.func121.trans (congrArg some (by kernel_rfl))⟩
  f14 := ⟨Tryz.f151.name, by decide, Tryz.func151.trans (congrArg some (by kernel_rfl))⟩
  f15 := Tryz.func130.trans (congrArg some (by kernel_rfl))
  f20 := ⟨Tryz.f175.name, by decide, Tryz.func175.trans (congrArg some (by kernel_rfl))⟩
  f21 := ⟨Tryz.f176.name, by decide, Tryz.func176.trans (congrArg some (by kernel_rfl))⟩
  f22 := ⟨Tryz.f177.name, by decide, Tryz.func177.trans (congrArg some (by kernel_rfl))⟩
  f23 := ⟨Tryz.f178.name, by decide, Tryz.func178.trans (congrArg some (by kernel_rfl))⟩
  f24 := ⟨Tryz.f179.name, by decide, Tryz.func179.trans (congrArg some (by kernel_rfl))⟩
  f25 := ⟨Tryz.f180.name, by decide, Tryz.func180.trans (congrArg some (by kernel_rfl))⟩
  f26 := ⟨Tryz.f181.name, by decide, Tryz.func181.trans (congrArg some (by kernel_rfl))⟩
  f27 := ⟨Tryz.f182.name, by decide, Tryz.func182.trans (congrArg some (by kernel_rfl))⟩
  f28 := Tryz.func164.trans (congrArg some (by kernel_rfl))
  f29 := Tryz.func165.trans (congrArg some (by kernel_rfl))
  f46 := ⟨Tryz.f192.name, by decide, Tryz.func192.trans (congrArg some (by kernel_rfl))⟩
  f47 := Tryz.func186.trans (congrArg some (by kernel_rfl))
  f48 := Tryz.func187.trans (congrArg some (by kernel_rfl))
  f49 := ⟨Tryz.f193.name, by decide, Tryz.func193.trans (congrArg some (by kernel_rfl))⟩
  f50 := ⟨Tryz.f194.name, by decide, Tryz.func194.trans (congrArg some (by kernel_rfl))⟩
  f57 := ⟨Tryz.f196.name, by decide, Tryz.func196.trans (congrArg some (by kernel_rfl))⟩
  t0 := Tryz.underlying0
  a0 := Tryz.isAgg0
  z0 := Tryz.sizeOf0
  v0 := Tryz.zeroValue0
  t3 := Tryz.underlying3
  a3 := Tryz.isAgg3
  z3 := Tryz.sizeOf3
  v3 := Tryz.zeroValue3
  t4 := Tryz.underlying4
  a4 := Tryz.isAgg4
  z4 := Tryz.sizeOf4
  v4 := Tryz.zeroValue4
  t5 := Tryz.underlying5
  a5 := Tryz.isAgg5
  z5 := Tryz.sizeOf5
  v5 := Tryz.zeroValue5
  t9 := Tryz.underlying9
  a9 := Tryz.isAgg9
  z9 := Tryz.sizeOf9
  v9 := Tryz.zeroValue9
  t22 := Tryz.underlying30
  a22 := Tryz.isAgg30
  z22 := Tryz.sizeOf30
  v22 := Tryz.zeroValue30
  a24 := Tryz.isAgg9
  z24 := Tryz.sizeOf9
  t25 := Tryz.underlying121
  a25 := Tryz.isAgg121
  z25 := Tryz.sizeOf121
  v25 := Tryz.zeroValue121
  t39 := Tryz.underlying184
  a39 := Tryz.isAgg184
  z39 := Tryz.sizeOf184
  v39 := Tryz.zeroValue184
  t45 := Tryz.underlying215
  a45 := Tryz.isAgg215
  z45 := Tryz.sizeOf215
  v45 := Tryz.zeroValue215
  t46 := Tryz.underlying216
  a46 := Tryz.isAgg216
  z46 := Tryz.sizeOf216
  v46 := Tryz.zeroValue216
  t50 := Tryz.underlying220
  a50 := Tryz.isAgg220
  z50 := Tryz.sizeOf220
  v50 := Tryz.zeroValue220
  t53 := Tryz.underlying197
  a53 := Tryz.isAgg197
  z53 := Tryz.sizeOf197
  v53 := Tryz.zeroValue197
  t55 := Tryz.underlying188
  a55 := Tryz.isAgg188
  z55 := Tryz.sizeOf188
  v55 := Tryz.zeroValue188
  t66 := Tryz.underlying234
  a66 := Tryz.isAgg234
  z66 := Tryz.sizeOf234
  v66 := Tryz.zeroValue234
  t70 := Tryz.underlying238
  a70 := Tryz.isAgg238
  z70 := Tryz.sizeOf238
  v70 := Tryz.zeroValue238
  t76 := Tryz.underlying242
  a76 := Tryz.isAgg242
  z76 := Tryz.sizeOf242
  v76 := Tryz.zeroValue242
  t77 := Tryz.underlying243
  a77 := Tryz.isAgg243
  z77 := Tryz.sizeOf243
  v77 := Tryz.zeroValue243 }

open Go.RowKit Go.Lib Go.Sort in
theorem Sh.slices_SortFunc {α : Type} [Inhabited α] (enc : α → Value) (h1 : OneCell enc) (cf : α → α → Int) (hO : SWO (ltOf cf)) (g : Nat) (cb : Array Value) (blk off cap : Nat) (d : Array α) (w : World) (eg : ∀ args w, (callFunc g args).run Tryz.prog w = .ok (.enter g args) w) (hcmp : CmpLays1 Tryz.prog g cb enc cf blk off d.size w) (hH : Holds enc w blk off d) (hblk : blk < w.heap.size) (hsz : d.size < 4611686018427387904) :
    Calls Tryz.prog 121 #[.slice (some ⟨blk, off, none⟩) d.size cap, .func (.func g) #[] cb] w fun e w' =>
      e = .returned (.tuple #[]) ∧ ∃ d' n os, PermIn 0 d.size d d' ∧ SortedIn (ltOf cf) 0 d.size d' ∧ w' = sortWorld enc w blk off n d' os := Any.slices_SortFunc Sh.laysSlF6_f121 enc h1 cf hO g cb blk off cap d w eg hcmp hH hblk hsz

end Go.Proofs.YtafmoceinamcdaaGreat

namespace Go.Proofs.YtafmoceinamcdaaGreat
open Go.RowKit Go.Shelf
set_option linter.unusedVariables false
set_option linter.unusedSimpArgs false

theorem Fx.drewN {S : Nat → Prop} {w w1 : World} (h : Fx S w w1) (n : Nat) : Fx S w (w1.drewN n) := ⟨h.os, h.tape, h.output, h.size, h.block⟩

theorem so_next (g : Nat) (X : Int) (h0 : 0 ≤ X) (h1 : X < 18446744073709551616) (w : World) (ho : Ob w g #[.int .u64 X] 234) :
    Calls Tryz.prog 187 #[.pointer (some ⟨g, 0, none⟩)] w fun e w' => ∃ Y : Int, e = .returned (.int .u64 Y) ∧ 0 ≤ Y ∧ Y < 18446744073709551616 ∧ Fx (fun b => b = g) w w' ∧ Ob w' g #[.int .u64 Y] 234 := by
  obtain ⟨x, rfl⟩ : ∃ x : Nat, X = (x : Int) := ⟨X.toNat, by omega⟩
  have h := AnyF.xorshift_Next (P := Tryz.prog) (ρ := Sh.laysSlF6_f121_ren) { Sh.laysSlF6_f121 with } g 0 x (by omega) w (ho.cell 0 rfl) (ho.frozen 0)
  have hlt : Sort.xorNextN x < 18446744073709551616 := Sort.xorNextN_lt x (by omega)
  refine h.mono ?_
  rintro e w' ⟨rfl, rfl⟩
  refine ⟨_, rfl, by omega, by omega, (fx1 _ _ _ _).drewN 3, ?_⟩
  have := ho.set 0 (.int .u64 (Sort.xorNextN x : Nat))
  exact ⟨by simpa using this.eq⟩

theorem so_pow (n : Nat) (hn : n < 4611686018427387904) (h0 : 0 < n) (w : World) :
    Calls Tryz.prog 186 #[.int .i64 n] w fun e w' => ∃ M : Nat, e = .returned (.int .u64 (M : Int)) ∧ 1 ≤ M ∧ M ≤ 2 * n ∧ w = w' := by
  have h := AnyF.nextPowerOfTwo (P := Tryz.prog) (ρ := Sh.laysSlF6_f121_ren) { Sh.laysSlF6_f121 with } n hn w
  refine h.mono ?_
  rintro e w' ⟨rfl, rfl⟩
  refine ⟨_, rfl, ?_, ?_, rfl⟩
  · rw [Nat.one_shiftLeft]
    exact Nat.one_le_two_pow
  · rw [Nat.one_shiftLeft]
    exact Sort.two_pow_bitsLen_le h0

end Go.Proofs.YtafmoceinamcdaaGreat

namespace Go.Proofs.YtafmoceinamcdaaGreat
open Go.RowKit
set_option linter.unusedVariables false
set_option linter.unusedSimpArgs false

set_option maxRecDepth 100000 in
set_option maxHeartbeats 8000000 in
theorem so_reverse {B bp : Nat} {G : ByteArray → Prop} (n cap a b : Nat) (hab : a ≤ b) (hbn : b ≤ n) (hn : n ≤ 1000000000) (W : World) (hr : Hid (Rg W B n G)) :
    Calls Tryz.prog 179 #[.slice (some ⟨B, 0, none⟩) n cap, .int .i64 (a : Int), .int .i64 (b : Int), cmpV bp] W fun e W' => e = .returned (.tuple #[]) ∧ Fb B W W' ∧ Rg W' B n G := by
  have HR : Hid (Rg W B n G) := hr
  have hmo : Tryz.prog.follows .mixedOrders = true := by kernel_rfl
  unfold cmpV
  clear hr
  go_enter Tryz.func179, Tryz.ntmps179
  go_wp2
  go_loopw [8, 9] (fun v u wr => ∃ (i : Nat) (j : Int), v = .int .i64 (i : Int) ∧ u = .int .i64 j ∧ i ≤ n ∧ -1 ≤ j ∧ j < (b : Int) ∧ Hid (Fb B W wr) ∧ Hid (Rg wr B n G)) (fun _ u _ => (intOf u + 1).toNat)
  case atStart => exact ⟨a, (b : Int) - 1, rfl, by go_num, by omega, by omega, by omega, Fx.refl _ _, HR.out⟩
  case round =>
    obtain ⟨i, j, rfl, rfl, hin, hj0, hjb, FI, RI⟩ := hrel
    by_cases hlt : (i : Int) < j
    · obtain ⟨m, rfl⟩ : ∃ m : Nat, j = (m : Int) := ⟨j.toNat, by omega⟩
      obtain ⟨x2, y2, c1, c2, f1, f2, ⟨u, c3⟩, hlB2, rs, fs⟩ := RI.out.swap (i := i) (j := m) (by omega) (by omega)
      have RS : Hid _ := rs
      have FS : Hid _ := fs
      clear rs fs RI
      go_upto_region 3 with fail
      go_big_region_o
      generalize ((wr.setCell ⟨B, i, none⟩ (.string y2)).setCell ⟨B, m, none⟩ (.string x2)).drew = w3 at RS FS ⊢
      clear c1 c2 f1 f2 c3 hlB2
      go_wp2
      go_roundw
      case rel => exact ⟨i + 1, (m : Int) - 1, by go_num, by go_num, by omega, by omega, by omega, FI.out.also FS.out, RS.out⟩
      case measure => simp [intOf]
    · go_wp2
      go_end0
      exact ⟨rfl, FI.out, RI.out⟩

theorem and_small (Y : Int) (M : Nat) (h0 : 0 ≤ Y) (h1 : Y < 18446744073709551616) (hM1 : 1 ≤ M) (hM2 : M ≤ 4000000000) : ∃ o : Nat, wrap64 (bits .and .u64 Y (IntKind.u64.wrap ((M : Int) - 1))) = (o : Int) ∧ o < M := by
  obtain ⟨y, rfl⟩ : ∃ y : Nat, Y = (y : Int) := ⟨Y.toNat, by omega⟩
  obtain ⟨m, rfl⟩ : ∃ m : Nat, M = m + 1 := ⟨M - 1, by omega⟩
  have e1 : IntKind.u64.wrap (((m + 1 : Nat) : Int) - 1) = (m : Int) := by simp [IntKind.wrap, IntKind.bits, IntKind.signed]; omega
  have hle : y &&& m ≤ m := Nat.and_le_right
  rw [e1, bits_and_u64_nat y m (by omega) (by omega), wr64 _ (by omega)]
  exact ⟨_, rfl, by omega⟩

set_option maxRecDepth 100000 in
set_option maxHeartbeats 8000000 in
theorem so_break {B bp : Nat} {G : ByteArray → Prop} (n cap a b : Nat) (hab : a + 12 < b) (hbn : b ≤ n) (hn : n ≤ 1000000000) (W : World) (hr : Hid (Rg W B n G)) :
    Calls Tryz.prog 177 #[.slice (some ⟨B, 0, none⟩) n cap, .int .i64 (a : Int), .int .i64 (b : Int), cmpV bp] W fun e W' => e = .returned (.tuple #[]) ∧ Fb B W W' ∧ Rg W' B n G := by
  have HR : Hid (Rg W B n G) := hr
  have hmo : Tryz.prog.follows .mixedOrders = true := by kernel_rfl
  obtain ⟨l, hl⟩ : ∃ l, b = a + l := ⟨b - a, by omega⟩
  obtain ⟨q, hq⟩ : ∃ q, q = l / 4 := ⟨_, rfl⟩
  obtain ⟨w1, hw1⟩ : ∃ w1, W.alloc (.cells #[.int .u64 (IntKind.u64.wrap (l : Int))] 234) = w1 := ⟨_, rfl⟩
  have hb1 : Below W.heap.size W w1 := by rw [← hw1]; exact (Below.refl _ _).alloc (Nat.le_refl _) _
  have og1 : Ob w1 W.heap.size #[.int .u64 (IntKind.u64.wrap (l : Int))] 234 := by rw [← hw1]; exact Ob.new _ _ _
  have HW1 : Hid _ := hw1
  have OG1 : Hid (Ob w1 W.heap.size #[.int .u64 (IntKind.u64.wrap (l : Int))] 234) := og1
  have F1 : Hid (Fb B W w1) := Fx.of_below hb1
  have R1 : Hid (Rg w1 B n G) := HR.out.below hb1
  have HBN : Hid (B ≠ W.heap.size) := by have := HR.out.lt; show _ ≠ _; omega
  have e0 : IntKind.i64.wrap ((b : Int) - (a : Int)) = (l : Int) := by rw [IntKind.wrap_i64]; omega
  have e1 : (l : Int).tdiv 4 = (q : Int) := by rw [Int.tdiv_eq_ediv_of_nonneg (by omega)]; omega
  have e8 : (8 : Int) ≤ (l : Int) := by omega
  have HQL : Hid (b = a + l ∧ q = l / 4) := ⟨hl, hq⟩
  have QP : Hid _ := so_pow l (by omega) (by omega) w1
  have HX0 : Hid (0 ≤ IntKind.u64.wrap (l : Int) ∧ IntKind.u64.wrap (l : Int) < 18446744073709551616) := by show _ ∧ _; simp [IntKind.wrap, IntKind.bits, IntKind.signed]; omega
  unfold cmpV
  clear hr hw1 hb1 og1 hl hq
  go_enter Tryz.func177, Tryz.ntmps177
  go_upto_region 3 with fail
  rw [HW1.out]
  clear HW1
  go_wp2_with fail
  refine Calls.mono QP.out ?_
  rintro e w2 ⟨M, rfl, hM1, hM2, rfl⟩
  have HMM : Hid (1 ≤ M ∧ M ≤ 2 * l) := ⟨hM1, hM2⟩
  clear hM1 hM2 QP
  go_upto_region 5 with fail
  simp only [wr64 (q : Int) (by have := HQL.out; omega), wr64 ((q : Int) * 2) (by have := HQL.out; omega), wr64 ((a : Int) + (q : Int) * 2) (by have := HQL.out; omega), wr64 ((a : Int) + (q : Int) * 2 - 1) (by have := HQL.out; omega)]
  clear e0
  go_loopw [11] (fun v wr => ∃ (i : Nat) (X : Int), v = .int .i64 (i : Int) ∧ a < i ∧ i ≤ a + q * 2 + 2 ∧ Hid (Fb B W wr) ∧ Hid (Rg wr B n G) ∧ Hid (Ob wr W.heap.size #[.int .u64 X] 234 ∧ 0 ≤ X ∧ X < 18446744073709551616)) (fun v _ => a + q * 2 + 2 - (intOf v).toNat)
  case atStart => exact ⟨a + q * 2 - 1, _, by first | rfl | (congr 1; have := HQL.out; omega), by have := HQL.out; omega, by omega, F1.out, R1.out, OG1.out, HX0.out.1, HX0.out.2⟩
  case round =>
    clear F1 R1 OG1 HX0
    obtain ⟨i, X, rfl, hai, hiq, FI, RI, OI⟩ := hrel
    obtain ⟨c, hc⟩ : ∃ c, c = a + q * 2 + 1 := ⟨_, rfl⟩
    have e9 : wrap64 (q : Int) = (q : Int) := wr64 _ (by have := HQL.out; omega)
    have e10 : wrap64 (wrap64 ((a : Int) + wrap64 ((q : Int) * 2)) + 1) = (c : Int) := by
      rw [wr64 ((q : Int) * 2) (by have := HQL.out; omega), wr64 ((a : Int) + (q : Int) * 2) (by have := HQL.out; omega), wr64 _ (by have := HQL.out; omega)]
      omega
    have HCC : Hid (c = a + q * 2 + 1) := hc
    by_cases hlt : i ≤ c
    · have hltz : (i : Int) ≤ (c : Int) := by omega
      have HIN : Hid (i < n ∧ a + l ≤ n) := by have := HQL.out; show _ ∧ _; omega
      have HAI : Hid (a < i) := hai
      clear hc hiq
      have QN : Hid _ := so_next W.heap.size X OI.out.2.1 OI.out.2.2 wr OI.out.1
      go_upto_region 7 with fail
      clear e9 e10
      go_wp2_with fail
      refine Calls.mono QN.out ?_
      rintro e w2 ⟨Y, rfl, hY0, hY1, hfn, hon⟩
      have FI2 : Hid (Fb B W w2) := FI.out.trans hfn (fun b e => .inr (by rw [e]; exact Nat.le_refl _))
      have RI2 : Hid (Rg w2 B n G) := RI.out.fx hfn HBN.out
      have OI2 : Hid (Ob w2 W.heap.size #[.int .u64 Y] 234 ∧ 0 ≤ Y ∧ Y < 18446744073709551616) := ⟨hon, hY0, hY1⟩
      clear hY0 hY1 hfn hon QN FI RI OI
      go_upto_region 8 with fail
      obtain ⟨o, ho, hoM⟩ := and_small Y M OI2.out.2.1 OI2.out.2.2 HMM.out.1 (by have := HMM.out.2; have := HIN.out.2; omega)
      rw [ho]
      have HOM : Hid (o < M) := hoM
      clear hoM ho
      clear e1 e8 hab hbn
      by_cases hol : l ≤ o
      · obtain ⟨p, hp⟩ : ∃ p, o = l + p := ⟨o - l, by omega⟩
        have HP : Hid (p < l) := by have h1 := HOM.out; have h2 := HMM.out.2; show _ < _; omega
        have holz : (l : Int) ≤ (o : Int) := by omega
        have e11 : wrap64 ((o : Int) - (l : Int)) = (p : Int) := by rw [wr64 _ (by have := HIN.out.2; have := HP.out; omega)]; omega
        clear hp hol
        go_upto_region 10 with fail
        simp only [e11]
        clear holz e11
        obtain ⟨x2, y2, c1, c2, f1, f2, ⟨u, c3⟩, hlB2, rs, fs⟩ := RI2.out.swap (i := i) (j := a + p) (by have := HIN.out.1; omega) (by have := HIN.out.2; have := HP.out; omega)
        have RS : Hid _ := rs
        have FS : Hid _ := fs
        have OS : Hid (Ob (((w2.setCell ⟨B, i, none⟩ (.string y2)).setCell ⟨B, a + p, none⟩ (.string x2)).drew) W.heap.size #[.int .u64 Y] 234) := (FS.out).ob OI2.out.1 (fun e => HBN.out e.symm)
        have e13 : ((a : Int) + (p : Int)).toNat = a + p := by omega
        have e14 : (0 : Int) ≤ (a : Int) + (p : Int) := by omega
        have e15 : (a : Int) + (p : Int) < (n : Int) := by have := HIN.out.2; have := HP.out; omega
        have e16 : (i : Int) < (n : Int) := by have := HIN.out.1; omega
        clear rs fs RI2
        go_big_region_o
        generalize ((w2.setCell ⟨B, i, none⟩ (.string y2)).setCell ⟨B, a + p, none⟩ (.string x2)).drew = w3 at RS FS OS ⊢
        clear c1 c2 f1 f2 c3 hlB2 e13 e14 e15
        go_wp2
        go_roundw
        case rel => exact ⟨i + 1, Y, by go_num, by have := HAI.out; omega, by have := HCC.out; omega, FI2.out.also FS.out, RS.out, OS.out, OI2.out.2⟩
        case measure => have := HCC.out; simp [intOf]; omega
      · have HP : Hid (o < l) := by show _ < _; omega
        have holz : ¬ (l : Int) ≤ (o : Int) := by omega
        clear hol
        go_upto_region 10 with fail
        clear holz
        obtain ⟨x2, y2, c1, c2, f1, f2, ⟨u, c3⟩, hlB2, rs, fs⟩ := RI2.out.swap (i := i) (j := a + o) (by have := HIN.out.1; omega) (by have := HIN.out.2; have := HP.out; omega)
        have RS : Hid _ := rs
        have FS : Hid _ := fs
        have OS : Hid (Ob (((w2.setCell ⟨B, i, none⟩ (.string y2)).setCell ⟨B, a + o, none⟩ (.string x2)).drew) W.heap.size #[.int .u64 Y] 234) := (FS.out).ob OI2.out.1 (fun e => HBN.out e.symm)
        have e13 : ((a : Int) + (o : Int)).toNat = a + o := by omega
        have e14 : (0 : Int) ≤ (a : Int) + (o : Int) := by omega
        have e15 : (a : Int) + (o : Int) < (n : Int) := by have := HIN.out.2; have := HP.out; omega
        have e16 : (i : Int) < (n : Int) := by have := HIN.out.1; omega
        clear rs fs RI2
        go_big_region_o
        generalize ((w2.setCell ⟨B, i, none⟩ (.string y2)).setCell ⟨B, a + o, none⟩ (.string x2)).drew = w3 at RS FS OS ⊢
        clear c1 c2 f1 f2 c3 hlB2 e13 e14 e15
        go_wp2
        go_roundw
        case rel => exact ⟨i + 1, Y, by go_num, by have := HAI.out; omega, by have := HCC.out; omega, FI2.out.also FS.out, RS.out, OS.out, OI2.out.2⟩
        case measure => have := HCC.out; simp [intOf]; omega
    · have hltz : ¬ (i : Int) ≤ (c : Int) := by omega
      go_wp2
      go_end0
      exact ⟨rfl, FI.out, RI.out⟩

end Go.Proofs.YtafmoceinamcdaaGreat
