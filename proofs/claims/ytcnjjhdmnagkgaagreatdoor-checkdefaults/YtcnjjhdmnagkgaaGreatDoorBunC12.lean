/- Put together by a program out of these texts of mine: CkD, KPln, XPln, CkE, CkF, CkI, CkJ. -/
import Derived.Deep.DeepCutAuto
import Derived.Test.YtcnjjhdmnagkgaaGreatDoorBunC1
import Derived.Test.YtcnjjhdmnagkgaaGreatDoorBunC4
import Derived.Test.YtcnjjhdmnagkgaaGreatDoorBunC5
import Derived.Test.YtcnjjhdmnagkgaaGreatDoorBunC11

namespace Go.Proofs.YtcnjjhdmnagkgaaGreatDoor
open Go.RowKit
set_option linter.unusedVariables false
set_option linter.unusedSimpArgs false

def brk (p : ByteArray) (r : Int) : PanicEntry := { v := .iface 50 (.agg #[.string p, .int .i64 r]), recovered := false }

set_option maxRecDepth 10000 in
set_option maxHeartbeats 1000000 in
theorem ckKeeps (p : ByteArray) (r : Int) (W : World) : Calls Tryz.prog 37 #[.string p, .int .i64 r, .bool true] W fun e w' => e = .returned (.tuple #[]) ∧ W = w' := by
  go_enter Tryz.func37, Tryz.ntmps37
  go_wp2
  go_end0
  exact ⟨rfl, rfl⟩

set_option maxRecDepth 10000 in
set_option maxHeartbeats 1000000 in
theorem ckKeepsNo (p : ByteArray) (r : Int) (W : World) : Calls Tryz.prog 37 #[.string p, .int .i64 r, .bool false] W fun e w' => e = .panicked [brk p r] ∧ W = w' := by
  go_enter Tryz.func37, Tryz.ntmps37
  go_wp2
  exact ⟨rfl, rfl, rfl⟩

theorem setTyS : Tryz.prog.underlying 161 = some (.map 9 189) := by kernel_rfl

theorem setTyN : Tryz.prog.underlying 201 = some (.map 2 189) := by kernel_rfl

theorem zeroSet (w : World) : (zeroValue 189).run Tryz.prog w = .ok (.agg #[]) w := by kernel_rfl

set_option maxRecDepth 10000 in
set_option maxHeartbeats 1000000 in
theorem ckHasS (s : ByteArray) (hs : s.size ≤ maxLen) (W : World) {b n : Nat} {g : ByteArray → Option Value} (hM : Mg W b n g) (hv : ∀ v, g s = some v → v = .agg #[]) :
    Calls Tryz.prog 123 #[.map (some b), .string s] W fun e w' => e = .returned (.bool (g s).isSome) ∧ Below W.heap.size W w' := by
  have hlk := hM.look (t := 161) (e := 189) setTyS (zeroSet W) s hs true
  have hlk2 : (Instr.lookup 161 (.map (some b)) (.string s) true).run Tryz.prog W = .ok (.tuple #[.agg #[], .bool (g s).isSome]) W := by
    rw [hlk]
    cases hg : g s with
    | none => rfl
    | some v => rw [hv v hg]; rfl
  have HB : Hid (Below W.heap.size W (W.alloc (.cells #[] 189))) := (Below.refl _ _).alloc (Nat.le_refl _) _
  clear hlk
  generalize (g s).isSome = R at hlk2 ⊢
  clear hM hv
  go_enter Tryz.func123, Tryz.ntmps123
  go_wp2
  go_ret
  exact ⟨rfl, HB.out⟩

set_option maxRecDepth 10000 in
set_option maxHeartbeats 1000000 in
theorem ckTakeS (s : ByteArray) (hs : s.size ≤ maxLen) (W : World) {b n : Nat} {g : ByteArray → Option Value} (hM : Mg W b n g) (hv : ∀ v, g s = some v → v = .agg #[]) :
    Calls Tryz.prog 103 #[.map (some b), .string s] W fun e w' => e = .returned (.bool (!(g s).isSome)) ∧ (∃ n', Mg w' b n' (fun x => if x = s then some (.agg #[]) else g x)) ∧ W.grownBy w' (some b) := by
  have Q : Hid _ := ckHasS s hs W hM hv
  have HM : Hid (Mg W b n g) := hM
  have hbl := hM.lt
  generalize (g s).isSome = R at Q ⊢
  clear hM hv
  go_enter Tryz.func103, Tryz.ntmps103
  go_wp2_with fail
  refine Calls.mono Q.out ?_
  rintro e w1 ⟨rfl, hb1⟩
  obtain ⟨w2, hup, hm2, hg2⟩ := (HM.out.below hb1 hbl).put (t := 161) (e := 189) setTyS s hs (.agg #[])
  have HG : Hid (W.grownBy w2 (some b)) := grown_transV (grown_ofV hb1) hg2
  have HM2 : Hid _ := hm2
  clear hm2 hg2 hb1 HM Q
  go_wp2
  go_ret
  exact ⟨rfl, ⟨_, HM2.out⟩, HG.out⟩

set_option maxRecDepth 10000 in
set_option maxHeartbeats 1000000 in
theorem ckHasN (s : Int) (hs : (Lit.int .i64 s).wf = true) (W : World) {b n : Nat} {g : Int → Option Value} (hM : Mi W b n g) (hv : ∀ v, g s = some v → v = .agg #[]) :
    Calls Tryz.prog 166 #[.map (some b), .int .i64 s] W fun e w' => e = .returned (.bool (g s).isSome) ∧ Below W.heap.size W w' := by
  have hlk := hM.look (t := 201) (e := 189) Tryz.underlying2 setTyN (zeroSet W) s hs true
  have hlk2 : (Instr.lookup 201 (.map (some b)) (.int .i64 s) true).run Tryz.prog W = .ok (.tuple #[.agg #[], .bool (g s).isSome]) W := by
    rw [hlk]
    cases hg : g s with
    | none => rfl
    | some v => rw [hv v hg]; rfl
  have HB : Hid (Below W.heap.size W (W.alloc (.cells #[] 189))) := (Below.refl _ _).alloc (Nat.le_refl _) _
  clear hlk
  generalize (g s).isSome = R at hlk2 ⊢
  clear hM hv
  go_enter Tryz.func166, Tryz.ntmps166
  go_wp2
  go_ret
  exact ⟨rfl, HB.out⟩

set_option maxRecDepth 10000 in
set_option maxHeartbeats 1000000 in
theorem ckTakeN (s : Int) (hs : (Lit.int .i64 s).wf = true) (W : World) {b n : Nat} {g : Int → Option Value} (hM : Mi W b n g) (hv : ∀ v, g s = some v → v = .agg #[]) :
    Calls Tryz.prog 126 #[.map (some b), .int .i64 s] W fun e w' => e = .returned (.bool (!(g s).isSome)) ∧ (∃ n', Mi w' b n' (fun x => if x = s then some (.agg #[]) else g x)) ∧ W.grownBy w' (some b) := by
  have Q : Hid _ := ckHasN s hs W hM hv
  have HM : Hid (Mi W b n g) := hM
  have hbl := hM.lt
  generalize (g s).isSome = R at Q ⊢
  clear hM hv
  go_enter Tryz.func126, Tryz.ntmps126
  go_wp2_with fail
  refine Calls.mono Q.out ?_
  rintro e w1 ⟨rfl, hb1⟩
  obtain ⟨w2, hup, hm2, hg2⟩ := (HM.out.below hb1 hbl).put (t := 201) (e := 189) Tryz.underlying2 setTyN s hs (.agg #[])
  have HG : Hid (W.grownBy w2 (some b)) := grown_transV (grown_ofV hb1) hg2
  have HM2 : Hid _ := hm2
  clear hm2 hg2 hb1 HM Q
  go_wp2
  go_ret
  exact ⟨rfl, ⟨_, HM2.out⟩, HG.out⟩

def nplain (t : Int) : List Int := if 0 ≤ t ∧ t < 19 then nwords.getD t.toNat [] else []

set_option maxRecDepth 10000 in
set_option maxHeartbeats 2000000 in
theorem xplain_any (t : Int) (W : World) (hT : Hid (LoTab W)) (hb : -9223372036854775808 ≤ t ∧ t ≤ 9223372036854775807) :
    Calls Tryz.prog 211 #[.int .i64 t] W fun e W' => e = .returned (.string (strOfNums (nplain t))) ∧ W = W' := by
  have HC : Hid (∀ i z, nwords[i]? = some z → W.cell? ⟨0, i, none⟩ = some (.string (strOfNums z))) := fun i z hz => by
    obtain ⟨ty, fr, h⟩ := hT.out.2
    simp [World.cell?, h, pwVal, hz]
  have HL : Hid (0 < W.heap.size) := by
    obtain ⟨ty, fr, h⟩ := hT.out.2
    exact (Array.getElem?_eq_some_iff.1 h).1
  obtain ⟨h1, h2⟩ := hb
  unfold nplain
  have e0 : (strOfNums []) = ⟨#[]⟩ := rfl
  by_cases hn : t < 0
  · rw [if_neg (by omega), e0]
    go_enter Tryz.func211, Tryz.ntmps211
    go_wp2
    go_ret
    exact ⟨rfl, rfl⟩
  · by_cases hm : t < 19
    · rw [if_pos (by omega)]
      obtain ⟨k, rfl⟩ : ∃ k : Nat, t = (k : Int) := ⟨t.toNat, by omega⟩
      have hk : k < nwords.length := by show _ < 19; omega
      obtain ⟨z, hz⟩ : ∃ z, nwords[k]? = some z := ⟨nwords[k], List.getElem?_eq_getElem hk⟩
      have hc := HC.out k z hz
      have hl := HL.out
      rw [Int.toNat_natCast, List.getD_eq_getElem?_getD, hz, Option.getD_some]
      have g1 : ¬ ((k : Int) < 0) := by omega
      have g2 : ¬ ((k : Int) ≥ 19) := by omega
      have g3 : k < 19 := hk
      generalize strOfNums z = Z at hc
      clear hz hn hm hk
      go_enter Tryz.func211, Tryz.ntmps211
      go_wp2
      go_ret
      exact ⟨rfl, rfl⟩
    · rw [if_neg (by omega), e0]
      have g1 : t ≥ 19 := by omega
      go_enter Tryz.func211, Tryz.ntmps211
      go_wp2
      go_ret
      exact ⟨rfl, rfl⟩

def exF (s : ByteArray) : Array Value := #[.string s, .int .i64 1, .int .i64 1, .int .i64 5, .string ⟨#[]⟩, .string ⟨#[]⟩, .string ⟨#[]⟩, .bool false, .int .i64 0, .string s, .bool false, .slice none 0 0, .slice none 0 0]

theorem exF_new (s : ByteArray) (W : World) : ∃ w1, W.alloc (.cells (exF s) 34) = w1 ∧ Below W.heap.size W w1 ∧ Ob w1 W.heap.size (exF s) 34 :=
  ⟨_, rfl, (Below.refl _ _).alloc (Nat.le_refl _) _, Ob.new _ _ _⟩

set_option maxRecDepth 10000 in
set_option maxHeartbeats 1000000 in
theorem ckNum1 (W : World) : Calls Tryz.prog 124 #[.int .i64 1] W fun e w' => e = .returned (.bool true) ∧ W = w' := by
  go_enter Tryz.func124, Tryz.ntmps124
  go_wp2
  go_ret
  exact ⟨rfl, rfl⟩

set_option maxRecDepth 10000 in
set_option maxHeartbeats 1000000 in
theorem ckLabel (s : ByteArray) (c : Value) (W : World) : Calls Tryz.prog 127 #[c, .agg (exF s)] W fun e w' => e = .returned (.bool true) ∧ Below W.heap.size W w' := by
  obtain ⟨w1, hw1, hb1, o1⟩ := exF_new s W
  have HW : Hid _ := hw1
  have HB : Hid _ := hb1
  unfold exF at *
  obtain ⟨⟨c0, c1, c2, c3, c4, c5, c6, c7, c8, c9, c10, c11, c12⟩, _, hl⟩ := ob13 o1
  have OB : Hid (Ob w1 W.heap.size (exF s) 34) := o1
  clear hw1 hb1 o1
  go_enter Tryz.func127, Tryz.ntmps127
  go_upto_region 1 with fail
  rw [HW.out]
  clear HW
  go_wp2
  go_ret
  exact ⟨rfl, HB.out⟩

set_option maxRecDepth 10000 in
set_option maxHeartbeats 1000000 in
theorem ckDefF (s : ByteArray) (c : Value) (W : World) : Calls Tryz.prog 168 #[c, .agg (exF s)] W fun e w' => e = .returned (.bool true) ∧ Below W.heap.size W w' := by
  obtain ⟨w1, hw1, hb1, o1⟩ := exF_new s W
  have HW : Hid _ := hw1
  have HB : Hid _ := hb1
  unfold exF at *
  obtain ⟨⟨c0, c1, c2, c3, c4, c5, c6, c7, c8, c9, c10, c11, c12⟩, _, hl⟩ := ob13 o1
  have OB : Hid (Ob w1 W.heap.size (exF s) 34) := o1
  clear hw1 hb1 o1
  go_enter Tryz.func168, Tryz.ntmps168
  go_upto_region 1 with fail
  rw [HW.out]
  clear HW
  go_wp2
  go_ret
  exact ⟨rfl, HB.out⟩

set_option maxRecDepth 10000 in
set_option maxHeartbeats 1000000 in
theorem ckOneof (s : ByteArray) (c m : Value) (W : World) : Calls Tryz.prog 129 #[c, .agg (exF s), m] W fun e w' => e = .returned (.bool true) ∧ Below W.heap.size W w' := by
  obtain ⟨w1, hw1, hb1, o1⟩ := exF_new s W
  have HW : Hid _ := hw1
  have HB : Hid _ := hb1
  unfold exF at *
  obtain ⟨⟨c0, c1, c2, c3, c4, c5, c6, c7, c8, c9, c10, c11, c12⟩, _, hl⟩ := ob13 o1
  have OB : Hid (Ob w1 W.heap.size (exF s) 34) := o1
  clear hw1 hb1 o1
  go_enter Tryz.func129, Tryz.ntmps129
  go_upto_region 1 with fail
  rw [HW.out]
  clear HW
  go_wp2
  go_ret
  exact ⟨rfl, HB.out⟩

set_option maxRecDepth 10000 in
set_option maxHeartbeats 1000000 in
theorem ckIsEnt (s : ByteArray) (c : Value) (W : World) : Calls Tryz.prog 130 #[c, .agg (exF s)] W fun e w' => e = .returned (.bool false) ∧ Below W.heap.size W w' := by
  obtain ⟨w1, hw1, hb1, o1⟩ := exF_new s W
  have HW : Hid _ := hw1
  have HB : Hid _ := hb1
  unfold exF at *
  obtain ⟨⟨c0, c1, c2, c3, c4, c5, c6, c7, c8, c9, c10, c11, c12⟩, _, hl⟩ := ob13 o1
  have OB : Hid (Ob w1 W.heap.size (exF s) 34) := o1
  clear hw1 hb1 o1
  go_enter Tryz.func130, Tryz.ntmps130
  go_upto_region 1 with fail
  rw [HW.out]
  clear HW
  go_wp2
  go_ret
  exact ⟨rfl, HB.out⟩

set_option maxRecDepth 10000 in
set_option maxHeartbeats 1000000 in
theorem ckTypeF (s : ByteArray) (c : Value) (W : World) (hT : Hid (LoTab W)) : Calls Tryz.prog 167 #[c, .agg (exF s)] W fun e w' => e = .returned (.bool true) ∧ Below W.heap.size W w' := by
  obtain ⟨w1, hw1, hb1, o1⟩ := exF_new s W
  have HW : Hid _ := hw1
  have HB : Hid _ := hb1
  have QP : Hid _ := xplain_any 5 w1 (show Hid _ from hT.out.below hb1 (Nat.le_refl _)) (by omega)
  unfold exF at *
  obtain ⟨⟨c0, c1, c2, c3, c4, c5, c6, c7, c8, c9, c10, c11, c12⟩, _, hl⟩ := ob13 o1
  have OB : Hid (Ob w1 W.heap.size (exF s) 34) := o1
  clear hw1 hb1 o1
  have HN : Hid (strOfNums (nplain 5) = ⟨#[105, 110, 116, 51, 50]⟩) := by show _ = _; kernel_rfl
  rw [HN.out] at QP
  go_enter Tryz.func167, Tryz.ntmps167
  go_upto_region 1 with fail
  rw [HW.out]
  clear HW
  go_wp2_with fail
  refine Calls.mono QP.out ?_
  rintro e w2 ⟨rfl, rfl⟩
  go_wp2
  go_ret
  exact ⟨rfl, HB.out⟩

set_option maxRecDepth 10000 in
set_option maxHeartbeats 1000000 in
theorem ckTyped (s full : ByteArray) (c : Value) (W : World) (hT : Hid (LoTab W)) : Calls Tryz.prog 128 #[c, .string full, .agg (exF s)] W fun e w' => e = .returned (.tuple #[]) ∧ Below W.heap.size W w' := by
  obtain ⟨w1, hw1, hb1, o1⟩ := exF_new s W
  have HW : Hid _ := hw1
  have HB : Hid _ := hb1
  have OB : Hid (Ob w1 W.heap.size (exF s) 34) := o1
  have HT1 : Hid (LoTab w1) := hT.out.below hb1 (Nat.le_refl _)
  clear hw1 hb1
  unfold exF at o1
  obtain ⟨⟨c0, c1, c2, c3, c4, c5, c6, c7, c8, c9, c10, c11, c12⟩, _, hl⟩ := ob13 o1
  clear o1
  have Q1 : Hid _ := ckTypeF s c w1 HT1
  have Q3 : Hid _ := ckKeeps full
  unfold exF at Q1 ⊢
  unfold exF at HW
  go_enter Tryz.func128, Tryz.ntmps128
  go_upto_region 1 with fail
  rw [HW.out]
  clear HW
  go_wp2_with fail
  refine Calls.mono Q1.out ?_
  rintro e w2 ⟨rfl, hb2⟩
  go_wp2_with fail
  refine Calls.mono (Q3.out _ _) ?_
  rintro e w3 ⟨rfl, rfl⟩
  have o2 := OB.out.below hb2 OB.out.lt
  have HB2 : Hid _ := HB.out.trans (hb2.mono HB.out.size)
  clear c0 c1 c2 c3 c4 c5 c6 c7 c8 c9 c10 c11 c12 hl hb2 Q1
  unfold exF at o2
  obtain ⟨⟨c0, c1, c2, c3, c4, c5, c6, c7, c8, c9, c10, c11, c12⟩, _, hl⟩ := ob13 o2
  have Q2 : Hid _ := ckDefF s c w2
  unfold exF at Q2
  clear o2
  go_wp2_with fail
  refine Calls.mono Q2.out ?_
  rintro e w3 ⟨rfl, hb3⟩
  go_wp2_with fail
  refine Calls.mono (Q3.out _ _) ?_
  rintro e w4 ⟨rfl, rfl⟩
  go_wp2
  go_end0
  exact ⟨rfl, HB2.out.trans (hb3.mono HB2.out.size)⟩

theorem ob18 {w : World} {b : Nat} {T : TypeId} {x0 x1 x2 x3 x4 x5 x6 x7 x8 x9 x10 x11 x12 x13 x14 x15 x16 x17 : Value} (h : Ob w b #[x0, x1, x2, x3, x4, x5, x6, x7, x8, x9, x10, x11, x12, x13, x14, x15, x16, x17] T) :
    (w.cell? ⟨b, 0, none⟩ = some x0 ∧ w.cell? ⟨b, 1, none⟩ = some x1 ∧ w.cell? ⟨b, 2, none⟩ = some x2 ∧ w.cell? ⟨b, 3, none⟩ = some x3 ∧ w.cell? ⟨b, 4, none⟩ = some x4 ∧ w.cell? ⟨b, 5, none⟩ = some x5 ∧ w.cell? ⟨b, 6, none⟩ = some x6 ∧ w.cell? ⟨b, 7, none⟩ = some x7 ∧ w.cell? ⟨b, 8, none⟩ = some x8 ∧ w.cell? ⟨b, 9, none⟩ = some x9 ∧ w.cell? ⟨b, 10, none⟩ = some x10 ∧ w.cell? ⟨b, 11, none⟩ = some x11 ∧ w.cell? ⟨b, 12, none⟩ = some x12 ∧ w.cell? ⟨b, 13, none⟩ = some x13 ∧ w.cell? ⟨b, 14, none⟩ = some x14 ∧ w.cell? ⟨b, 15, none⟩ = some x15 ∧ w.cell? ⟨b, 16, none⟩ = some x16 ∧ w.cell? ⟨b, 17, none⟩ = some x17) ∧ b < w.heap.size :=
  ⟨⟨h.cell 0 rfl, h.cell 1 rfl, h.cell 2 rfl, h.cell 3 rfl, h.cell 4 rfl, h.cell 5 rfl, h.cell 6 rfl, h.cell 7 rfl, h.cell 8 rfl, h.cell 9 rfl, h.cell 10 rfl, h.cell 11 rfl, h.cell 12 rfl, h.cell 13 rfl, h.cell 14 rfl, h.cell 15 rfl, h.cell 16 rfl, h.cell 17 rfl⟩, h.lt⟩

def exR (s t : ByteArray) : Array Value := #[.string s, .int .i64 1, .int .i64 1, .int .i64 5, .string ⟨#[]⟩, .string ⟨#[]⟩, .string ⟨#[]⟩, .bool false, .int .i64 0, .string s, .bool false, .slice none 0 0, .slice none 0 0, .string t, .int .i64 1, .int .i64 1, .int .i64 5, .string ⟨#[]⟩, .string ⟨#[]⟩, .string ⟨#[]⟩, .bool false, .int .i64 0, .string t, .bool false, .slice none 0 0, .slice none 0 0]

def exM (M : ByteArray) (gf n bw bn bm bt : Nat) : Array Value := #[.string M, .slice (some ⟨gf, 0, none⟩) n n, .slice none 0 0, .slice none 0 0, .slice none 0 0, .slice none 0 0, .slice none 0 0, .slice none 0 0, .slice none 0 0, .slice none 0 0, .slice none 0 0, .string M, .pointer none, .int .i64 0, .map (some bw), .map (some bn), .map (some bm), .map (some bt)]

structure Fs (w0 w : World) (gm gf n bw bn bm bt : Nat) (M : ByteArray) (R : Array Value) : Prop where
  msg : Ob w gm (exM M gf n bw bn bm bt) 164
  row : Ob w gf R 34
  wrd : Mg w bw 0 (fun _ => none)
  bel : Below w0.heap.size w0 w

theorem Fs.under {w0 w w' : World} {gm gf n bw bn bm bt : Nat} {M : ByteArray} {R : Array Value} (h : Fs w0 w gm gf n bw bn bm bt M R) {B : Nat} (hb : Below B w w') (hB : w.heap.size ≤ B) : Fs w0 w' gm gf n bw bn bm bt M R :=
  ⟨h.msg.below hb (Nat.lt_of_lt_of_le h.msg.lt hB), h.row.below hb (Nat.lt_of_lt_of_le h.row.lt hB), h.wrd.below hb (Nat.lt_of_lt_of_le h.wrd.lt hB), h.bel.trans (hb.mono (Nat.le_trans h.bel.size hB))⟩

theorem Fs.grown {w0 w w' : World} {gm gf n bw bn bm bt : Nat} {M : ByteArray} {R : Array Value} (h : Fs w0 w gm gf n bw bn bm bt M R) {b : Nat} (hg : w.grownBy w' (some b)) (h0 : w0.heap.size ≤ b) (h1 : gm ≠ b) (h2 : gf ≠ b) (h3 : bw ≠ b) : Fs w0 w' gm gf n bw bn bm bt M R :=
  ⟨h.msg.grown hg (fun e => h1 (Option.some.inj e)), h.row.grown hg (fun e => h2 (Option.some.inj e)), h.wrd.kept hg (fun e => h3 (Option.some.inj e)), h.bel.grown hg h.bel.size (fun k e => by cases e; exact h0)⟩

structure Rs (w0 w : World) (gm gf n bw bn bm bt : Nat) (M : ByteArray) (R : Array Value) (b : Nat) (gi : Int → Option Value) (gj : ByteArray → Option Value) : Prop where
  fs : Fs w0 w gm gf n bw bn bm bt M R
  met : ∃ a, Mi w b a gi
  jsn : ∃ a, Mg w (b + 1) a gj

theorem Rs.under {w0 w w' : World} {gm gf n bw bn bm bt b : Nat} {M : ByteArray} {R : Array Value} {gi : Int → Option Value} {gj : ByteArray → Option Value} (h : Rs w0 w gm gf n bw bn bm bt M R b gi gj) (hb : Below w.heap.size w w') : Rs w0 w' gm gf n bw bn bm bt M R b gi gj := by
  obtain ⟨a, ha⟩ := h.met
  obtain ⟨c, hc⟩ := h.jsn
  exact ⟨h.fs.under hb (Nat.le_refl _), ⟨a, ha.below hb ha.lt⟩, ⟨c, hc.below hb hc.lt⟩⟩

theorem Rs.setI {w0 w w' : World} {gm gf n bw bn bm bt b : Nat} {M : ByteArray} {R : Array Value} {gi gi' : Int → Option Value} {gj : ByteArray → Option Value} (h : Rs w0 w gm gf n bw bn bm bt M R b gi gj) (hn : w0.heap.size ≤ b ∧ gm < w0.heap.size ∧ gf < w0.heap.size ∧ bw < w0.heap.size) (hm : ∃ a, Mi w' b a gi') (hg : w.grownBy w' (some b)) : Rs w0 w' gm gf n bw bn bm bt M R b gi' gj := by
  obtain ⟨c, hc⟩ := h.jsn
  exact ⟨h.fs.grown hg hn.1 (by omega) (by omega) (by omega), hm, ⟨c, hc.kept hg (fun e => by have := Option.some.inj e; omega)⟩⟩

theorem Rs.setJ {w0 w w' : World} {gm gf n bw bn bm bt b : Nat} {M : ByteArray} {R : Array Value} {gi : Int → Option Value} {gj gj' : ByteArray → Option Value} (h : Rs w0 w gm gf n bw bn bm bt M R b gi gj) (hn : w0.heap.size ≤ b ∧ gm < w0.heap.size ∧ gf < w0.heap.size ∧ bw < w0.heap.size) (hm : ∃ a, Mg w' (b + 1) a gj') (hg : w.grownBy w' (some (b + 1))) : Rs w0 w' gm gf n bw bn bm bt M R b gi gj' := by
  obtain ⟨c, hc⟩ := h.met
  exact ⟨h.fs.grown hg (by omega) (by omega) (by omega) (by omega), ⟨c, hc.kept hg (fun e => by have := Option.some.inj e; omega)⟩, hm⟩

set_option maxRecDepth 10000 in
set_option maxHeartbeats 1000000 in
theorem ckOf (a b : List Int) (w : World) (ha : Hid (byts a)) (hb : Hid (byts b)) (hl : a.length ≤ 10000) (hl2 : b.length ≤ 10000) :
    Calls Tryz.prog 121 #[.string (strOfNums a), .string (strOfNums b)] w fun e w' => e = .returned (.string (strOfNums (njoin a b))) ∧ Below w.heap.size w w' := by
  have Q : Hid _ := pjoin_any a b w trivial ha hb hl hl2
  generalize strOfNums a = A at Q ⊢
  generalize strOfNums b = B at Q ⊢
  go_enter Tryz.func121, Tryz.ntmps121
  go_wp2_with fail
  refine Calls.mono Q.out ?_
  rintro e w1 ⟨rfl, hb1⟩
  go_wp2
  go_ret
  exact ⟨rfl, hb1⟩

set_option maxRecDepth 10000 in
set_option maxHeartbeats 1000000 in
theorem ckEnums0 (c s : Value) (W : World) : Calls Tryz.prog 82 #[c, .slice none 0 0, s] W fun e w' => e = .returned (.tuple #[]) ∧ W = w' := by
  go_enter Tryz.func82, Tryz.ntmps82
  go_wp2
  go_loopw [14] (fun v wr => v = .int .i64 0 ∧ W = wr) (fun _ _ => 0)
  case atStart => exact ⟨rfl, rfl⟩
  case round =>
    obtain ⟨rfl, rfl⟩ := hrel
    go_wp2
    go_end0
    exact ⟨rfl, rfl⟩

set_option maxRecDepth 10000 in
set_option maxHeartbeats 1000000 in
theorem ckExts0 (c s : Value) (W : World) : Calls Tryz.prog 83 #[c, .slice none 0 0, s] W fun e w' => e = .returned (.tuple #[]) ∧ W = w' := by
  go_enter Tryz.func83, Tryz.ntmps83
  go_wp2
  go_loopw [13] (fun v wr => v = .int .i64 0 ∧ W = wr) (fun _ _ => 0)
  case atStart => exact ⟨rfl, rfl⟩
  case round =>
    obtain ⟨rfl, rfl⟩ := hrel
    go_wp2
    go_end0
    exact ⟨rfl, rfl⟩

set_option maxRecDepth 10000 in
set_option maxHeartbeats 1000000 in
theorem ckServs0 (c s : Value) (W : World) : Calls Tryz.prog 84 #[c, .slice none 0 0, s] W fun e w' => e = .returned (.tuple #[]) ∧ W = w' := by
  go_enter Tryz.func84, Tryz.ntmps84
  go_wp2
  go_loopw [17] (fun v wr => v = .int .i64 0 ∧ W = wr) (fun _ _ => 0)
  case atStart => exact ⟨rfl, rfl⟩
  case round =>
    obtain ⟨rfl, rfl⟩ := hrel
    go_wp2
    go_end0
    exact ⟨rfl, rfl⟩

set_option maxRecDepth 10000 in
set_option maxHeartbeats 1000000 in
theorem ckMsgs0 (s p c q : Value) (W : World) : Calls Tryz.prog 77 #[.slice none 0 0, s, p, c, q] W fun e w' => e = .returned (.tuple #[]) ∧ W = w' := by
  go_enter Tryz.func77, Tryz.ntmps77
  go_wp2
  go_loopw [13] (fun v wr => v = .int .i64 0 ∧ W = wr) (fun _ _ => 0)
  case atStart => exact ⟨rfl, rfl⟩
  case round =>
    obtain ⟨rfl, rfl⟩ := hrel
    go_wp2
    go_end0
    exact ⟨rfl, rfl⟩

set_option maxRecDepth 10000 in
set_option maxHeartbeats 1000000 in
theorem ckOneofs0 {gm gf n bw bn bm bt : Nat} {M : ByteArray} (W : World) (h : Ob W gm (exM M gf n bw bn bm bt) 164) :
    Calls Tryz.prog 80 #[.pointer (some ⟨gm, 0, none⟩)] W fun e w' => e = .returned (.tuple #[]) ∧ W = w' := by
  have c6 : W.cell? ⟨gm, 6, none⟩ = some (.slice none 0 0) := h.cell 6 rfl
  have hl := h.lt
  clear h
  go_enter Tryz.func80, Tryz.ntmps80
  go_wp2
  go_loopw [10] (fun v wr => v = .int .i64 0 ∧ W = wr) (fun _ _ => 0)
  case atStart => exact ⟨rfl, rfl⟩
  case round =>
    obtain ⟨rfl, rfl⟩ := hrel
    go_wp2
    go_end0
    exact ⟨rfl, rfl⟩

set_option maxRecDepth 10000 in
set_option maxHeartbeats 2000000 in
theorem ckWords0 {gm gf n bw bn bm bt : Nat} {M : ByteArray} (W : World) (h : Ob W gm (exM M gf n bw bn bm bt) 164) (hw : Mg W bw 0 (fun _ => none)) :
    Calls Tryz.prog 116 #[.pointer (some ⟨gm, 0, none⟩)] W fun e w' => e = .returned (.bool true) ∧ Below W.heap.size W w' := by
  have c8 : W.cell? ⟨gm, 8, none⟩ = some (.slice none 0 0) := h.cell 8 rfl
  have c14 : W.cell? ⟨gm, 14, none⟩ = some (.map (some bw)) := h.cell 14 rfl
  have hl := h.lt
  have HW : Hid (Mg W bw 0 (fun _ => none)) := hw
  clear h hw
  go_enter Tryz.func116, Tryz.ntmps116
  go_wp2
  go_loopw [11] (fun v wr => v = .int .i64 0 ∧ W = wr) (fun _ _ => 0)
  case atStart => exact ⟨rfl, rfl⟩
  case round =>
    obtain ⟨rfl, rfl⟩ := hrel
    have f8 := fun x : Ext W => x.cell (p := ⟨gm, 8, none⟩) hl c8
    have f14 := fun x : Ext W => x.cell (p := ⟨gm, 14, none⟩) hl c14
    have hln := fun (x : Ext W) (ty : TypeId) => (HW.out.below x.ok HW.out.lt).len setTyS ty
    go_upto_region 7 with fail
    refine wp_region_ext W (Below.refl _ _) (by kernel_rfl) (by kernel_rfl) ?_
    repeat (go_big_quiet_step (fail))
    refine wpQuiet_nil ?_
    rintro w1 ⟨⟨_, hb1⟩, rfl⟩
    go_wp2
    go_ret
    exact ⟨rfl, hb1⟩

theorem ckRest {P : Program} {ops : Array Oper} {Q : Exit → Act → World → Prop} {fuel : Nat} {listed : Array Bool} {a : Act} {w : World} (n : Nat) (hf : (ops.toList.drop n).length = fuel) (hs : Region.noSelect ops = true) (hB : Region.lexFrom .any ops (ops.toList.drop n).length n listed = true)
    (h : wpQuiet P ops (fun w' => ∃ x : Ext w, w' = x.val) (fun a' => ∀ w', (∃ x : Ext w, w' = x.val) → Q .normal a' w') (ops.toList.drop n) a) : wpAny P .any ops Q fuel listed a w := by
  subst hf
  refine wpAny_of_quiet (C := fun w' => ∃ x : Ext w, w' = x.val) (Q := fun a' => ∀ w', (∃ x : Ext w, w' = x.val) → Q .normal a' w') (fun _ _ h h' => h' _ h) _ _ _ _ ⟨⟨w, Below.refl _ _⟩, rfl⟩ ?_
  exact wpAnyQ_lex hs _ n _ _ (fun j => by rw [List.getElem?_drop]; simp) hB h

set_option maxRecDepth 100000 in
set_option maxHeartbeats 4000000 in
theorem ckMessage (m : List Int) (hmb : Hid (byts m)) (hml : m.length ≤ 1000) (hm : nident m = true) (bc : Nat) (W : World) (hc : W.cell? ⟨bc, 6, none⟩ = some (.bool false)) (hcl : bc < W.heap.size) {gm gf n bw bn bm bt : Nat} {R : Array Value} (hF : Hid (Fs W W gm gf n bw bn bm bt (strOfNums m) R)) :
    Calls Tryz.prog 79 #[.pointer (some ⟨bc, 0, none⟩), .pointer (some ⟨gm, 0, none⟩)] W fun e w' => e = .returned (.tuple #[]) ∧ Below W.heap.size W w' := by
  have QI : Hid _ := fun V => pident_any m V trivial (fun i => bd_mem hmb.out i) (by omega)
  rw [hm] at QI
  have hsz : ((strOfNums m).size : Int) ≤ 1000 := by rw [strOfNums_size]; omega
  clear hm
  generalize strOfNums m = M at *
  have QK : Hid _ := ckKeeps M
  have QR : Hid _ := ckRangesFit
  have HC : Hid (bc < W.heap.size ∧ W.cell? ⟨bc, 6, none⟩ = some (.bool false)) := ⟨hcl, hc⟩
  have FM := hF.out.msg
  unfold exM at FM
  obtain ⟨⟨c0, c1, c2, c3, c4, c5, c6, c7, c8, c9, c10, c11, c12, c13, c14, c15, c16, c17⟩, hml2⟩ := ob18 FM
  clear FM hc hcl
  go_enter Tryz.func79, Tryz.ntmps79
  go_wp2_with fail
  refine Calls.mono (QI.out _) ?_
  rintro e w1 ⟨rfl, hb1⟩
  have F1 : Hid (Fs W w1 gm gf n bw bn bm bt M R) := hF.out.under hb1 (Nat.le_refl _)
  have QW : Hid _ := ckWords0 w1 F1.out.msg F1.out.wrd
  clear hb1 c0 c1 c2 c3 c4 c5 c6 c7 c8 c9 c10 c11 c12 c13 c14 c15 c16 c17 hml2
  have FM := F1.out.msg
  unfold exM at FM
  obtain ⟨⟨c0, c1, c2, c3, c4, c5, c6, c7, c8, c9, c10, c11, c12, c13, c14, c15, c16, c17⟩, hml2⟩ := ob18 FM
  clear FM
  go_wp2_with fail
  refine Calls.mono QW.out ?_
  rintro e w2 ⟨rfl, hb2⟩
  have F2 : Hid (Fs W w2 gm gf n bw bn bm bt M R) := F1.out.under hb2 (Nat.le_refl _)
  clear hb2 c0 c1 c2 c3 c4 c5 c6 c7 c8 c9 c10 c11 c12 c13 c14 c15 c16 c17 hml2 QW F1
  go_wp2_with fail
  refine Calls.mono (QK.out _ _) ?_
  rintro e w3 ⟨rfl, rfl⟩
  obtain ⟨wd, hwd⟩ : ∃ wd, w2.drew = wd := ⟨_, rfl⟩
  have F2d : Hid (Fs W wd gm gf n bw bn bm bt M R) := by rw [← hwd]; exact F2.out.under (Below.refl _ _).drew (Nat.le_refl _)
  have HWD : Hid _ := hwd
  clear hwd F2
  have F2 : Hid (Fs W wd gm gf n bw bn bm bt M R) := F2d.out
  have FM := F2.out.msg
  unfold exM at FM
  have f4 := fun x : Ext wd => x.cell (p := ⟨gm, 4, none⟩) FM.lt (FM.cell 4 rfl)
  have f7 := fun x : Ext wd => x.cell (p := ⟨gm, 7, none⟩) FM.lt (FM.cell 7 rfl)
  clear FM F2d
  go_upto_region 2 with fail
  refine wp_region_anyD (by kernel_rfl) ?_
  rw [HWD.out]
  clear HWD
  refine wpAny_takeT 30 (i := 0) (v := ?_) rfl (by kernel_rfl) (by kernel_rfl) (by kernel_rfl) (by kernel_rfl) (fun _ _ _ h => h) (Or.inl ⟨by rfl, ?_⟩) rfl ?_
  rotate_left
  · rintro V HV
    go_simp
    try with_reducible rfl
  change wpAny _ _ _ _ 30 (preL 31 1) _ _
  refine wpAny_thenF wd 11 1 20 30 (by decide) rfl rfl ⟨⟨wd, Below.refl _ _⟩, rfl⟩ (by kernel_rfl) (by kernel_rfl) (by kernel_rfl) (dc_first (ops := _) rfl rfl (by decide)) ?_
  simp only [List.take, List.drop, List.setIfInBounds_toArray, List.set_cons_zero, List.set_cons_succ]
  repeat (go_big_quiet_step (fail))
  refine wpQuiet_nil ?_
  rintro w3 ⟨⟨_, hb3⟩, rfl⟩
  clear f4 f7
  have F3 : Hid (Fs W w3 gm gf n bw bn bm bt M R) := F2.out.under hb3 (Nat.le_refl _)
  have QC : Hid _ := ckConcat w3.heap.size 2 (w3.alloc (.cells #[.slice none 0 0, .slice none 0 0] 38)) ((Ob.new w3 _ _).cell 0 rfl) ((Ob.new w3 _ _).cell 1 rfl) (by simp)
  obtain ⟨wq, hwq⟩ : ∃ wq, w3.alloc (.cells #[.slice none 0 0, .slice none 0 0] 38) = wq := ⟨_, rfl⟩
  have hbq : Below w3.heap.size w3 wq := by rw [← hwq]; exact (Below.refl _ _).alloc (Nat.le_refl _) _
  have Fq : Hid (Fs W wq gm gf n bw bn bm bt M R) := F3.out.under hbq (Nat.le_refl _)
  rw [hwq] at QC
  have HWq : Hid _ := hwq
  clear hb3 hbq hwq F3 F2
  refine wpAny_force (i := 11) (by kernel_rfl) rfl ?_
  intro Q' hQ' hPn
  have HQ : Hid _ := hQ'
  clear hQ' hPn
  go_wp2
  rw [HWq.out]
  refine HQ.out _ _ ?_
  clear HQ HWq
  refine wpAny_force (i := 12) (by kernel_rfl) rfl ?_
  intro Q' hQ' hPn
  have HQ : Hid _ := hQ'
  clear hQ' hPn
  go_wp2_with fail
  refine Calls.mono QC.out ?_
  rintro e w4 ⟨rfl, rfl⟩
  go_wp2
  refine HQ.out _ _ ?_
  clear HQ QC
  have f6 := fun x : Ext wq => x.cell (p := ⟨bc, 6, none⟩) (Nat.lt_of_lt_of_le HC.out.1 Fq.out.bel.size) ((Fq.out.bel.cell (p := ⟨bc, 6, none⟩) HC.out.1).trans HC.out.2)
  refine ckRest 13 (by kernel_rfl) (by kernel_rfl) (by kernel_rfl) ?_
  simp only [List.drop]
  repeat (go_big_quiet_step (first | (go_at_call 117; exact Ext.call (fun V hV => QR.out V) _) | (go_at_call 37; exact Ext.call_same (fun V => QK.out _ V) _)))
  refine wpQuiet_nil ?_
  rintro w5 ⟨⟨_, hb5⟩, rfl⟩
  clear f6
  have F5 : Hid (Fs W w5 gm gf n bw bn bm bt M R) := Fq.out.under hb5 (Nat.le_refl _)
  have FM := F5.out.msg
  unfold exM at FM
  obtain ⟨⟨c0, c1, c2, c3, c4, c5, c6, c7, c8, c9, c10, c11, c12, c13, c14, c15, c16, c17⟩, hml2⟩ := ob18 FM
  have QE : Hid _ := fun v0 v1 v2 v3 v4 v5 v6 v7 v8 v10 => ckEntry v0 v1 v2 v3 v4 v5 v6 v7 v8 v10 w5
  clear FM hb5 Fq
  go_wp2_with fail
  refine Calls.mono (QE.out _ _ _ _ _ _ _ _ _ _) ?_
  rintro e w6 ⟨rfl, hb6⟩
  go_wp2_with fail
  refine Calls.mono (QK.out _ _) ?_
  rintro e w7 ⟨rfl, rfl⟩
  go_wp2
  go_end0
  exact ⟨rfl, F5.out.bel.trans (hb6.mono F5.out.bel.size)⟩

end Go.Proofs.YtcnjjhdmnagkgaaGreatDoor
