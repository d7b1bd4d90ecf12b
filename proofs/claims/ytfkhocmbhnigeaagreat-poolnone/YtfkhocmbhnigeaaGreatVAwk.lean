/- New of the example's file; what a pool tells; awake. -/
import Derived.Test.YtfkhocmbhnigeaaGreatVNew
namespace Go.Proofs.YtfkhocmbhnigeaaGreat
open Go.RowKit
set_option linter.unusedVariables false
set_option linter.unusedSimpArgs false

theorem pool_ret {fn : Func} {R : Ending → World → Prop} {a : Act} {w : World} {p : Tmp} (h : fn.results = #[.cell p 91]) (gb : Nat) (cs : Array Value) (hs : cs.size = 3) (hp : a.tmps.getD p undef = .pointer (some ⟨gb, 0, none⟩)) (hg : Ob w gb cs 91) (hd : a.defers = []) (hR : R (.returned (.agg cs)) w) : bodyPost Tryz.prog fn R .ret a w := by
  refine bodyPost_ret (v := .agg cs) ?_ hd hR
  have hp' : a.tmps[p]?.getD undef = .pointer (some ⟨gb, 0, none⟩) := by simpa using hp
  have hsz : (Tryz.prog.info? 91).map (·.size) = some 3 := by kernel_rfl
  have hl := run_loadVar_row (P := Tryz.prog) w gb 91 91 cs (0, 0) _ hg.eq Tryz.underlying91 rfl (hsz.trans (by rw [hs]))
  simp [results, h, hp', asAddr, hl]

set_option maxRecDepth 20000 in
set_option maxHeartbeats 4000000 in
theorem pthere (bp : Nat) (xa : Option Addr) (xn xc : Nat) (ym zm : Option Nat) (W : World) (hb : Ob W bp #[.slice xa xn xc, .map ym, .map zm] 91) :
    Calls Tryz.prog 34 #[.pointer (some ⟨bp, 0, none⟩)] W fun e W' => e = .returned (.agg #[.slice xa xn xc, .map ym, .map zm]) ∧ Below W.heap.size W W' := by
  obtain ⟨⟨c0, c1, c2⟩, _, cl⟩ := ob3 hb
  have hcl : bp < W.heap.size := cl
  have n1 : Ob (W.alloc (.cells #[.slice none 0 0, .map none, .map none] 91)) W.heap.size #[.slice none 0 0, .map none, .map none] 91 := Ob.new _ _ _
  have n2 : Ob (W.alloc (.cells #[.slice xa xn xc, .map ym, .map zm] 91)) W.heap.size #[.slice xa xn xc, .map ym, .map zm] 91 := Ob.new _ _ _
  have HN : Hid _ := n2
  have HB : Hid (Below W.heap.size W (W.alloc (.cells #[.slice xa xn xc, .map ym, .map zm] 91))) := (Below.refl _ _).alloc (Nat.le_refl _) _
  clear n1 n2 hb
  go_enter Tryz.func34, Tryz.ntmps34
  go_wp2
  refine pool_ret (p := 2) ?_ W.heap.size #[.slice xa xn xc, .map ym, .map zm] rfl ?_ HN.out ?_ ?_
  · rfl
  · rfl
  · rfl
  · exact ⟨rfl, HB.out⟩

set_option maxRecDepth 20000 in
set_option maxHeartbeats 4000000 in
theorem pkind1 {bp bs be n : Nat} {vf : Value} {g : ByteArray → Option Value} (W : World) (hP : Hid (Po W bp bs be vf n g)) (F : ByteArray) (hF : F.size ≤ maxLen) (x0 : Int) (x1 : ByteArray) (x2 x3 x4 : Option Addr) (hg : g F = some (.agg #[.int .i64 x0, .string x1, .pointer x2, .pointer x3, .pointer x4]))  :
    Calls Tryz.prog 18 #[.pointer (some ⟨bp, 0, none⟩), .string F] W fun e W' => e = .returned (.int .i64 x0) ∧ Below W.heap.size W W' := by
  obtain ⟨va, vn, vc, rfl⟩ := hP.out.sl
  have Q : Hid _ := pthere bp va vn vc (some bs) (some be) W hP.out.blk
  have hlk : ∀ w1, Below W.heap.size W w1 → (Instr.lookup 83 (.map (some bs)) (.string F) false).run Tryz.prog w1 = .ok (.agg #[.int .i64 x0, .string x1, .pointer x2, .pointer x3, .pointer x4]) w1 := fun w1 hb => by
    have := (hP.out.below hb (Nat.le_refl _)).sym.look symMap (zeroSym w1) F hF false
    rw [hg] at this
    simpa [mlook] using this
  have HLK : Hid _ := hlk
  have hf1 : ∀ w, (Instr.field 91 (.agg #[.slice va vn vc, .map (some bs), .map (some be)]) 1).run Tryz.prog w = .ok (.map (some bs)) w := fun w => by kernel_rfl
  have hf2 : ∀ w, (Instr.field 88 (.agg #[.int .i64 x0, .string x1, .pointer x2, .pointer x3, .pointer x4]) 0).run Tryz.prog w = .ok (.int .i64 x0) w := fun w => by kernel_rfl
  clear hlk hg hP hF
  go_enter Tryz.func18, Tryz.ntmps18
  go_wp2_with fail
  refine Calls.mono Q.out ?_
  rintro e w1 ⟨rfl, hb1⟩
  have hl1 := HLK.out w1 hb1
  have HB1 : Hid (Below W.heap.size W w1) := hb1
  clear hb1 HLK Q
  go_wp2
  go_ret
  exact ⟨rfl, HB1.out⟩

set_option maxRecDepth 20000 in
set_option maxHeartbeats 4000000 in
theorem phome1 {bp bs be n : Nat} {vf : Value} {g : ByteArray → Option Value} (W : World) (hP : Hid (Po W bp bs be vf n g)) (F : ByteArray) (hF : F.size ≤ maxLen) (x0 : Int) (x1 : ByteArray) (x2 x3 x4 : Option Addr) (hg : g F = some (.agg #[.int .i64 x0, .string x1, .pointer x2, .pointer x3, .pointer x4])) (hv : x1.size ≤ 1000000) :
    Calls Tryz.prog 19 #[.pointer (some ⟨bp, 0, none⟩), .string F] W fun e W' => e = .returned (.string x1) ∧ Below W.heap.size W W' := by
  obtain ⟨va, vn, vc, rfl⟩ := hP.out.sl
  have Q : Hid _ := pthere bp va vn vc (some bs) (some be) W hP.out.blk
  have hlk : ∀ w1, Below W.heap.size W w1 → (Instr.lookup 83 (.map (some bs)) (.string F) false).run Tryz.prog w1 = .ok (.agg #[.int .i64 x0, .string x1, .pointer x2, .pointer x3, .pointer x4]) w1 := fun w1 hb => by
    have := (hP.out.below hb (Nat.le_refl _)).sym.look symMap (zeroSym w1) F hF false
    rw [hg] at this
    simpa [mlook] using this
  have HLK : Hid _ := hlk
  have hf1 : ∀ w, (Instr.field 91 (.agg #[.slice va vn vc, .map (some bs), .map (some be)]) 1).run Tryz.prog w = .ok (.map (some bs)) w := fun w => by kernel_rfl
  have hf2 : ∀ w, (Instr.field 88 (.agg #[.int .i64 x0, .string x1, .pointer x2, .pointer x3, .pointer x4]) 1).run Tryz.prog w = .ok (.string x1) w := fun w => by kernel_rfl
  clear hlk hg hP hF
  go_enter Tryz.func19, Tryz.ntmps19
  go_wp2_with fail
  refine Calls.mono Q.out ?_
  rintro e w1 ⟨rfl, hb1⟩
  have hl1 := HLK.out w1 hb1
  have HB1 : Hid (Below W.heap.size W w1) := hb1
  clear hb1 HLK Q
  go_wp2_with fail
  refine Calls.mono (pnclone_any _ _ hv) ?_
  rintro e w2 ⟨rfl, hb2⟩
  have HB2 : Hid (Below W.heap.size W w2) := HB1.out.trans (hb2.mono HB1.out.size)
  clear hb2 HB1
  go_wp2
  go_ret
  exact ⟨rfl, HB2.out⟩

set_option maxRecDepth 20000 in
set_option maxHeartbeats 4000000 in
theorem pnew1 (A Y : ByteArray) (hA : A.size ≤ 1000000) (hY : Y.size ≤ 1000000) (gm gf : Nat) (W : World) (hgm : Ob W gm (msg0 (strOfNums [77])) 40) (hgf : Ob W gf (fil1 A (strOfNums [97, 46, 98]) Y gm) 62) :
    Calls Tryz.prog 28 #[.slice (some ⟨gf, 0, none⟩) 1 1] W fun e W' => ∃ bp bs be vf ad, e = .returned (.tuple #[.pointer (some ⟨bp, 0, none⟩), .string ⟨#[]⟩, .int .i64 0]) ∧ Below W.heap.size W W' ∧ Po W' bp bs be vf 3 (gput (gput (gput (fun _ => none) (strOfNums [97, 46, 98]) (pkgV A)) (strOfNums [97]) (pkgV A)) (strOfNums [97, 46, 98, 46, 77]) (.agg #[.int .i64 2, .string A, .pointer ad, .pointer none, .pointer none])) := by
  have hmm := @run_makeMap Tryz.prog
  have QC : Hid _ := pconf1 A (strOfNums [97, 46, 98]) Y (strOfNums [77]) gm gf W hgm hgf
  have GM : Hid _ := hgm
  have GF : Hid _ := hgf
  have HAY : Hid (A.size ≤ 1000000 ∧ Y.size ≤ 1000000) := ⟨hA, hY⟩
  clear hgm hgf hA hY
  go_enter Tryz.func28, Tryz.ntmps28
  go_wp2_with fail
  refine Calls.mono QC.out ?_
  rintro e w1 ⟨rfl, hb1⟩
  obtain ⟨w2, hw2⟩ : ∃ w2, w2 = ((w1.alloc (.map #[] 0)).alloc (.map #[] 0)).alloc (.cells #[.slice none 0 0, .map (some w1.heap.size), .map (some (w1.heap.size + 1))] 91) := ⟨_, rfl⟩
  have hb2 : Below w1.heap.size w1 w2 := by rw [hw2]; exact (((Below.refl _ _).alloc (Nat.le_refl _) _).alloc (by simp) _).alloc (by simp; omega) _
  have P2 : Hid (Po w2 (w1.heap.size + 1 + 1) w1.heap.size (w1.heap.size + 1) (.slice none 0 0) 0 (fun _ => none)) := by
    refine ⟨?_, ?_, ?_, ⟨by omega, by omega, by omega⟩, ⟨_, _, _, rfl⟩⟩
    · rw [hw2]
      have := Ob.new ((w1.alloc (.map #[] 0)).alloc (.map #[] 0)) #[.slice none 0 0, .map (some w1.heap.size), .map (some (w1.heap.size + 1))] 91
      simpa using this
    · rw [hw2]
      exact ((Mg.made w1).below (m := w1.heap.size + 1) ((Below.refl _ _).alloc (by simp) _) (by omega)).below (m := w1.heap.size + 1) ((Below.refl _ _).alloc (by simp) _) (by omega)
    · rw [hw2]
      have := (Mg.made (w1.alloc (.map #[] 0))).below (m := w1.heap.size + 1 + 1) ((Below.refl _ _).alloc (o := .cells #[.slice none 0 0, .map (some w1.heap.size), .map (some (w1.heap.size + 1))] 91) (by simp)) (by simp)
      simpa using this
  have hgl := GM.out.lt
  have QF : Hid _ := pfill A Y HAY.out.1 HAY.out.2 gm gf w2 P2 ((GM.out.below hb1 GM.out.lt).below hb2 (Nat.lt_of_lt_of_le GM.out.lt hb1.size)) ((GF.out.below hb1 GF.out.lt).below hb2 (Nat.lt_of_lt_of_le GF.out.lt hb1.size)) (by have := hb1.size; omega)
  have HB2 : Hid (Below W.heap.size W w2) := hb1.trans (hb2.mono hb1.size)
  have HS : Hid (W.heap.size ≤ w1.heap.size) := hb1.size
  have HW2 : Hid _ := hw2
  clear hb1 hb2 hw2 QC GM GF hgl P2
  go_upto_region 4 with fail
  rw [← HW2.out]
  clear HW2
  go_wp2_with fail
  refine Calls.mono QF.out ?_
  rintro e w3 ⟨rfl, hk3, vf, ad, hp3⟩
  have hb3 : Below W.heap.size w2 w3 := ⟨hk3.os, hk3.tape, hk3.output, hk3.size, fun k hk => hk3.block k (by have := HB2.out.size; omega) (by have := HS.out; omega) (by have := HS.out; omega)⟩
  have HB3 : Hid (Below W.heap.size W w3) := HB2.out.trans hb3
  have P3 : Hid _ := hp3
  clear hk3 hp3 hb3 QF
  go_wp2
  go_ret3
  exact ⟨_, _, _, vf, ad, rfl, HB3.out, P3.out⟩

theorem s77 : strOfNums [77] = ⟨#[77]⟩ := by kernel_rfl

theorem s97 : strOfNums [97] = ⟨#[97]⟩ := by kernel_rfl

theorem sab : strOfNums [97, 46, 98] = ⟨#[97, 46, 98]⟩ := by kernel_rfl

theorem sabM : strOfNums [97, 46, 98, 46, 77] = ⟨#[97, 46, 98, 46, 77]⟩ := by kernel_rfl

theorem g3_a (A : ByteArray) (ad : Option Addr) : (gput (gput (gput (fun _ => none) (strOfNums [97, 46, 98]) (pkgV A)) (strOfNums [97]) (pkgV A)) (strOfNums [97, 46, 98, 46, 77]) (.agg #[.int .i64 2, .string A, .pointer ad, .pointer none, .pointer none])) (strOfNums [97]) = some (.agg #[.int .i64 1, .string A, .pointer none, .pointer none, .pointer none]) := by
  unfold gput
  rw [if_neg, if_pos rfl]
  · rfl
  · intro e; have := str_inj (by unfold byts; decide) (by unfold byts; decide) e; cases this

theorem g3_M (A : ByteArray) (ad : Option Addr) : (gput (gput (gput (fun _ => none) (strOfNums [97, 46, 98]) (pkgV A)) (strOfNums [97]) (pkgV A)) (strOfNums [97, 46, 98, 46, 77]) (.agg #[.int .i64 2, .string A, .pointer ad, .pointer none, .pointer none])) (strOfNums [97, 46, 98, 46, 77]) = some (.agg #[.int .i64 2, .string A, .pointer ad, .pointer none, .pointer none]) := by
  unfold gput
  rw [if_pos rfl]

set_option maxRecDepth 20000 in
set_option maxHeartbeats 4000000 in
theorem vawake_any (W : World) : Calls Tryz.prog 8 #[] W fun e W' => e = .returned (.bool true) ∧ Below W.heap.size W W' := by
  obtain ⟨w2, hw2⟩ : ∃ w2, w2 = (W.alloc (.cells #[.string ⟨#[77]⟩, .slice none 0 0, .slice none 0 0, .slice none 0 0, .slice none 0 0, .slice none 0 0, .slice none 0 0, .slice none 0 0, .slice none 0 0, .slice none 0 0, .slice none 0 0] 40)).alloc (.cells #[.string ⟨#[120]⟩, .string ⟨#[97, 46, 98]⟩, .slice none 0 0, .slice none 0 0, .slice (some ⟨W.heap.size, 0, none⟩) 1 1, .slice none 0 0, .slice none 0 0, .slice none 0 0, .string ⟨#[]⟩, .slice none 0 0, .slice none 0 0] 62) := ⟨_, rfl⟩
  have hb2 : Below W.heap.size W w2 := by rw [hw2]; exact ((Below.refl _ _).alloc (Nat.le_refl _) _).alloc (by simp) _
  have om : Ob w2 W.heap.size (msg0 (strOfNums [77])) 40 := by rw [hw2, s77]; exact (Ob.new _ _ _).alloc _
  have of : Ob w2 (W.heap.size + 1) (fil1 ⟨#[120]⟩ (strOfNums [97, 46, 98]) ⟨#[]⟩ W.heap.size) 62 := by
    rw [hw2, sab]
    have := Ob.new (W.alloc (.cells #[.string ⟨#[77]⟩, .slice none 0 0, .slice none 0 0, .slice none 0 0, .slice none 0 0, .slice none 0 0, .slice none 0 0, .slice none 0 0, .slice none 0 0, .slice none 0 0, .slice none 0 0] 40)) #[.string ⟨#[120]⟩, .string ⟨#[97, 46, 98]⟩, .slice none 0 0, .slice none 0 0, .slice (some ⟨W.heap.size, 0, none⟩) 1 1, .slice none 0 0, .slice none 0 0, .slice none 0 0, .string ⟨#[]⟩, .slice none 0 0, .slice none 0 0] 62
    simpa [fil1] using this
  have QN : Hid _ := pnew1 ⟨#[120]⟩ ⟨#[]⟩ (by decide) (by decide) W.heap.size (W.heap.size + 1) w2 om of
  have HB2 : Hid _ := hb2
  have HW2 : Hid _ := hw2
  have hx : ((⟨#[120]⟩ : ByteArray).toList == [120]) = true := by kernel_rfl
  clear hb2 om of hw2
  go_enter Tryz.func8, Tryz.ntmps8
  go_wp2_with fail
  rw [← HW2.out]
  clear HW2
  refine Calls.mono QN.out ?_
  rintro e w3 ⟨bp, bs, be, vf, ad, rfl, hb3, hp3⟩
  have QK : Hid _ := pkind1 w3 hp3 (strOfNums [97]) (by rw [strOfNums_size]; decide) 1 ⟨#[120]⟩ none none none (g3_a ⟨#[120]⟩ ad)
  rw [s97] at QK
  have P3 : Hid _ := hp3
  have HB3 : Hid (Below W.heap.size W w3) := HB2.out.trans (hb3.mono HB2.out.size)
  clear hp3 hb3 QN HB2
  go_wp2_with fail
  refine Calls.mono QK.out ?_
  rintro e w4 ⟨rfl, hb4⟩
  have hp4 := P3.out.below hb4 (Nat.le_refl _)
  have QM : Hid _ := pkind1 w4 hp4 (strOfNums [97, 46, 98, 46, 77]) (by rw [strOfNums_size]; decide) 2 ⟨#[120]⟩ ad none none (g3_M ⟨#[120]⟩ ad)
  rw [sabM] at QM
  have P4 : Hid _ := hp4
  have HB4 : Hid (Below W.heap.size W w4) := HB3.out.trans (hb4.mono HB3.out.size)
  clear hp4 hb4 QK P3 HB3
  go_wp2_with fail
  refine Calls.mono QM.out ?_
  rintro e w5 ⟨rfl, hb5⟩
  have hp5 := P4.out.below hb5 (Nat.le_refl _)
  have QH : Hid _ := phome1 w5 hp5 (strOfNums [97, 46, 98, 46, 77]) (by rw [strOfNums_size]; decide) 2 ⟨#[120]⟩ ad none none (g3_M ⟨#[120]⟩ ad) (by decide)
  rw [sabM] at QH
  have HB5 : Hid (Below W.heap.size W w5) := HB4.out.trans (hb5.mono HB4.out.size)
  clear hp5 hb5 QM P4 HB4
  go_wp2_with fail
  refine Calls.mono QH.out ?_
  rintro e w6 ⟨rfl, hb6⟩
  have HB6 : Hid (Below W.heap.size W w6) := HB5.out.trans (hb6.mono HB5.out.size)
  clear hb6 QH HB5
  go_wp2
  go_ret
  exact ⟨rfl, HB6.out⟩

end Go.Proofs.YtfkhocmbhnigeaaGreat
