/- Put together by a program out of these texts of mine: VAwk, WEnt2, Bulk. -/
import Derived.Test.YtjbppjemilijdaaBunA1
import Derived.Test.YtjbppjemilijdaaBunA6
import Derived.Test.YtjbppjemilijdaaBunA11

/- New of the example's file; what a pool tells; awake. -/
namespace Go.Proofs.Ytjbppjemilijdaa
open Go.RowKit
set_option linter.unusedVariables false
set_option linter.unusedSimpArgs false

theorem pool_ret {fn : Func} {R : Ending → World → Prop} {a : Act} {w : World} {p : Tmp} (h : fn.results = #[.cell p 59]) (gb : Nat) (cs : Array Value) (hs : cs.size = 3) (hp : a.tmps.getD p undef = .pointer (some ⟨gb, 0, none⟩)) (hg : Ob w gb cs 59) (hd : a.defers = []) (hR : R (.returned (.agg cs)) w) : bodyPost Try.prog fn R .ret a w := by
  refine bodyPost_ret (v := .agg cs) ?_ hd hR
  have hp' : a.tmps[p]?.getD undef = .pointer (some ⟨gb, 0, none⟩) := by simpa using hp
  have hsz : (Try.prog.info? 59).map (·.size) = some 3 := by kernel_rfl
  have hl := run_loadVar_row (P := Try.prog) w gb 59 59 cs (0, 0) _ hg.eq Try.underlying59 rfl (hsz.trans (by rw [hs]))
  simp [results, h, hp', asAddr, hl]

set_option maxRecDepth 20000 in
set_option maxHeartbeats 4000000 in
theorem pthere (bp : Nat) (xa : Option Addr) (xn xc : Nat) (ym zm : Option Nat) (W : World) (hb : Ob W bp #[.slice xa xn xc, .map ym, .map zm] 59) :
    Calls Try.prog 18 #[.pointer (some ⟨bp, 0, none⟩)] W fun e W' => e = .returned (.agg #[.slice xa xn xc, .map ym, .map zm]) ∧ Below W.heap.size W W' := by
  obtain ⟨⟨c0, c1, c2⟩, _, cl⟩ := ob3 hb
  have hcl : bp < W.heap.size := cl
  have n1 : Ob (W.alloc (.cells #[.slice none 0 0, .map none, .map none] 59)) W.heap.size #[.slice none 0 0, .map none, .map none] 59 := Ob.new _ _ _
  have n2 : Ob (W.alloc (.cells #[.slice xa xn xc, .map ym, .map zm] 59)) W.heap.size #[.slice xa xn xc, .map ym, .map zm] 59 := Ob.new _ _ _
  have HN : Hid _ := n2
  have HB : Hid (Below W.heap.size W (W.alloc (.cells #[.slice xa xn xc, .map ym, .map zm] 59))) := (Below.refl _ _).alloc (Nat.le_refl _) _
  clear n1 n2 hb
  go_enter Try.func18, Try.ntmps18
  go_wp2
  refine pool_ret (p := 2) ?_ W.heap.size #[.slice xa xn xc, .map ym, .map zm] rfl ?_ HN.out ?_ ?_
  · rfl
  · rfl
  · rfl
  · exact ⟨rfl, HB.out⟩

set_option maxRecDepth 20000 in
set_option maxHeartbeats 4000000 in
theorem pkind1 {bp bs be n : Nat} {vf : Value} {g : ByteArray → Option Value} (W : World) (hP : Hid (Po W bp bs be vf n g)) (F : ByteArray) (hF : F.size ≤ maxLen) (x0 : Int) (x1 : ByteArray) (x2 x3 x4 : Option Addr) (hg : g F = some (.agg #[.int .i64 x0, .string x1, .pointer x2, .pointer x3, .pointer x4]))  :
    Calls Try.prog 10 #[.pointer (some ⟨bp, 0, none⟩), .string F] W fun e W' => e = .returned (.int .i64 x0) ∧ Below W.heap.size W W' := by
  obtain ⟨va, vn, vc, rfl⟩ := hP.out.sl
  have Q : Hid _ := pthere bp va vn vc (some bs) (some be) W hP.out.blk
  have hlk : ∀ w1, Below W.heap.size W w1 → (Instr.lookup 56 (.map (some bs)) (.string F) false).run Try.prog w1 = .ok (.agg #[.int .i64 x0, .string x1, .pointer x2, .pointer x3, .pointer x4]) w1 := fun w1 hb => by
    have := (hP.out.below hb (Nat.le_refl _)).sym.look symMap (zeroSym w1) F hF false
    rw [hg] at this
    simpa [mlook] using this
  have HLK : Hid _ := hlk
  have hf1 : ∀ w, (Instr.field 59 (.agg #[.slice va vn vc, .map (some bs), .map (some be)]) 1).run Try.prog w = .ok (.map (some bs)) w := fun w => by kernel_rfl
  have hf2 : ∀ w, (Instr.field 66 (.agg #[.int .i64 x0, .string x1, .pointer x2, .pointer x3, .pointer x4]) 0).run Try.prog w = .ok (.int .i64 x0) w := fun w => by kernel_rfl
  clear hlk hg hP hF
  go_enter Try.func10, Try.ntmps10
  go_wp2_with fail
  refine Calls.mono Q.out ?_
  rintro e w1 ⟨rfl, hb1⟩
  have hl1 := HLK.out w1 hb1
  have HB1 : Hid (Below W.heap.size W w1) := hb1
  clear hb1 HLK Q
  go_wp2
  go_ret
  exact ⟨rfl, HB1.out⟩

set_option maxRecDepth 20000 in
set_option maxHeartbeats 4000000 in
theorem phome1 {bp bs be n : Nat} {vf : Value} {g : ByteArray → Option Value} (W : World) (hP : Hid (Po W bp bs be vf n g)) (F : ByteArray) (hF : F.size ≤ maxLen) (x0 : Int) (x1 : ByteArray) (x2 x3 x4 : Option Addr) (hg : g F = some (.agg #[.int .i64 x0, .string x1, .pointer x2, .pointer x3, .pointer x4])) (hv : x1.size ≤ 1000000) :
    Calls Try.prog 11 #[.pointer (some ⟨bp, 0, none⟩), .string F] W fun e W' => e = .returned (.string x1) ∧ Below W.heap.size W W' := by
  obtain ⟨va, vn, vc, rfl⟩ := hP.out.sl
  have Q : Hid _ := pthere bp va vn vc (some bs) (some be) W hP.out.blk
  have hlk : ∀ w1, Below W.heap.size W w1 → (Instr.lookup 56 (.map (some bs)) (.string F) false).run Try.prog w1 = .ok (.agg #[.int .i64 x0, .string x1, .pointer x2, .pointer x3, .pointer x4]) w1 := fun w1 hb => by
    have := (hP.out.below hb (Nat.le_refl _)).sym.look symMap (zeroSym w1) F hF false
    rw [hg] at this
    simpa [mlook] using this
  have HLK : Hid _ := hlk
  have hf1 : ∀ w, (Instr.field 59 (.agg #[.slice va vn vc, .map (some bs), .map (some be)]) 1).run Try.prog w = .ok (.map (some bs)) w := fun w => by kernel_rfl
  have hf2 : ∀ w, (Instr.field 66 (.agg #[.int .i64 x0, .string x1, .pointer x2, .pointer x3, .pointer x4]) 1).run Try.prog w = .ok (.string x1) w := fun w => by kernel_rfl
  clear hlk hg hP hF
  go_enter Try.func11, Try.ntmps11
  go_wp2_with fail
  refine Calls.mono Q.out ?_
  rintro e w1 ⟨rfl, hb1⟩
  have hl1 := HLK.out w1 hb1
  have HB1 : Hid (Below W.heap.size W w1) := hb1
  clear hb1 HLK Q
  go_wp2_with fail
  refine Calls.mono (pnclone_any _ _ hv) ?_
  rintro e w2 ⟨rfl, hb2⟩
  have HB2 : Hid (Below W.heap.size W w2) := HB1.out.trans (hb2.mono HB1.out.size)
  clear hb2 HB1
  go_wp2
  go_ret
  exact ⟨rfl, HB2.out⟩

set_option maxRecDepth 20000 in
set_option maxHeartbeats 4000000 in
theorem pnew1 (A Y : ByteArray) (hA : A.size ≤ 1000000) (hY : Y.size ≤ 1000000) (gm gf : Nat) (W : World) (hgm : Ob W gm (msg0 (strOfNums [77])) 30) (hgf : Ob W gf (fil1 A (strOfNums [97, 46, 98]) Y gm) 36) :
    Calls Try.prog 9 #[.slice (some ⟨gf, 0, none⟩) 1 1] W fun e W' => ∃ bp bs be vf ad, e = .returned (.tuple #[.pointer (some ⟨bp, 0, none⟩), .string ⟨#[]⟩, .int .i64 0]) ∧ Below W.heap.size W W' ∧ Po W' bp bs be vf 3 (gput (gput (gput (fun _ => none) (strOfNums [97, 46, 98]) (pkgV A)) (strOfNums [97]) (pkgV A)) (strOfNums [97, 46, 98, 46, 77]) (.agg #[.int .i64 2, .string A, .pointer ad, .pointer none, .pointer none])) := by
  have hmm := @run_makeMap Try.prog
  have QC : Hid _ := pconf1 A (strOfNums [97, 46, 98]) Y (strOfNums [77]) gm gf W hgm hgf
  have GM : Hid _ := hgm
  have GF : Hid _ := hgf
  have HAY : Hid (A.size ≤ 1000000 ∧ Y.size ≤ 1000000) := ⟨hA, hY⟩
  clear hgm hgf hA hY
  go_enter Try.func9, Try.ntmps9
  go_wp2_with fail
  refine Calls.mono QC.out ?_
  rintro e w1 ⟨rfl, hb1⟩
  obtain ⟨w2, hw2⟩ : ∃ w2, w2 = ((w1.alloc (.map #[] 0)).alloc (.map #[] 0)).alloc (.cells #[.slice none 0 0, .map (some w1.heap.size), .map (some (w1.heap.size + 1))] 59) := ⟨_, rfl⟩
  have hb2 : Below w1.heap.size w1 w2 := by rw [hw2]; exact (((Below.refl _ _).alloc (Nat.le_refl _) _).alloc (by simp) _).alloc (by simp; omega) _
  have P2 : Hid (Po w2 (w1.heap.size + 1 + 1) w1.heap.size (w1.heap.size + 1) (.slice none 0 0) 0 (fun _ => none)) := by
    refine ⟨?_, ?_, ?_, ⟨by omega, by omega, by omega⟩, ⟨_, _, _, rfl⟩⟩
    · rw [hw2]
      have := Ob.new ((w1.alloc (.map #[] 0)).alloc (.map #[] 0)) #[.slice none 0 0, .map (some w1.heap.size), .map (some (w1.heap.size + 1))] 59
      simpa using this
    · rw [hw2]
      exact ((Mg.made w1).below (m := w1.heap.size + 1) ((Below.refl _ _).alloc (by simp) _) (by omega)).below (m := w1.heap.size + 1) ((Below.refl _ _).alloc (by simp) _) (by omega)
    · rw [hw2]
      have := (Mg.made (w1.alloc (.map #[] 0))).below (m := w1.heap.size + 1 + 1) ((Below.refl _ _).alloc (o := .cells #[.slice none 0 0, .map (some w1.heap.size), .map (some (w1.heap.size + 1))] 59) (by simp)) (by simp)
      simpa using this
  have hgl := GM.out.lt
  have QF : Hid _ := pfill A Y HAY.out.1 HAY.out.2 gm gf w2 P2 ((GM.out.below hb1 GM.out.lt).below hb2 (Nat.lt_of_lt_of_le GM.out.lt hb1.size)) ((GF.out.below hb1 GF.out.lt).below hb2 (Nat.lt_of_lt_of_le GF.out.lt hb1.size)) (by have := hb1.size; omega)
  have HB2 : Hid (Below W.heap.size W w2) := hb1.trans (hb2.mono hb1.size)
  have HS : Hid (W.heap.size ≤ w1.heap.size) := hb1.size
  have HW2 : Hid _ := hw2
  clear hb1 hb2 hw2 QC GM GF hgl P2
  go_upto_region 4 with fail
  rw [← HW2.out]
  clear HW2
  go_wp2_with fail
  refine Calls.mono QF.out ?_
  rintro e w3 ⟨rfl, hk3, vf, ad, hp3⟩
  have hb3 : Below W.heap.size w2 w3 := ⟨hk3.os, hk3.tape, hk3.output, hk3.size, fun k hk => hk3.block k (by have := HB2.out.size; omega) (by have := HS.out; omega) (by have := HS.out; omega)⟩
  have HB3 : Hid (Below W.heap.size W w3) := HB2.out.trans hb3
  have P3 : Hid _ := hp3
  clear hk3 hp3 hb3 QF
  go_wp2
  go_ret3
  exact ⟨_, _, _, vf, ad, rfl, HB3.out, P3.out⟩

theorem s77 : strOfNums [77] = ⟨#[77]⟩ := by kernel_rfl

theorem s97 : strOfNums [97] = ⟨#[97]⟩ := by kernel_rfl

theorem sab : strOfNums [97, 46, 98] = ⟨#[97, 46, 98]⟩ := by kernel_rfl

theorem sabM : strOfNums [97, 46, 98, 46, 77] = ⟨#[97, 46, 98, 46, 77]⟩ := by kernel_rfl

theorem g3_a (A : ByteArray) (ad : Option Addr) : (gput (gput (gput (fun _ => none) (strOfNums [97, 46, 98]) (pkgV A)) (strOfNums [97]) (pkgV A)) (strOfNums [97, 46, 98, 46, 77]) (.agg #[.int .i64 2, .string A, .pointer ad, .pointer none, .pointer none])) (strOfNums [97]) = some (.agg #[.int .i64 1, .string A, .pointer none, .pointer none, .pointer none]) := by
  unfold gput
  rw [if_neg, if_pos rfl]
  · rfl
  · intro e; have := str_inj (by unfold byts; decide) (by unfold byts; decide) e; cases this

theorem g3_M (A : ByteArray) (ad : Option Addr) : (gput (gput (gput (fun _ => none) (strOfNums [97, 46, 98]) (pkgV A)) (strOfNums [97]) (pkgV A)) (strOfNums [97, 46, 98, 46, 77]) (.agg #[.int .i64 2, .string A, .pointer ad, .pointer none, .pointer none])) (strOfNums [97, 46, 98, 46, 77]) = some (.agg #[.int .i64 2, .string A, .pointer ad, .pointer none, .pointer none]) := by
  unfold gput
  rw [if_pos rfl]

set_option maxRecDepth 20000 in
set_option maxHeartbeats 4000000 in
theorem vawake_any (W : World) : Calls Try.prog 4 #[] W fun e W' => e = .returned (.bool true) ∧ Below W.heap.size W W' := by
  obtain ⟨w2, hw2⟩ : ∃ w2, w2 = (W.alloc (.cells #[.string ⟨#[77]⟩, .slice none 0 0, .slice none 0 0, .slice none 0 0, .slice none 0 0, .slice none 0 0, .slice none 0 0, .slice none 0 0, .slice none 0 0, .slice none 0 0, .slice none 0 0] 30)).alloc (.cells #[.string ⟨#[120]⟩, .string ⟨#[97, 46, 98]⟩, .slice none 0 0, .slice none 0 0, .slice (some ⟨W.heap.size, 0, none⟩) 1 1, .slice none 0 0, .slice none 0 0, .slice none 0 0, .string ⟨#[]⟩, .slice none 0 0, .slice none 0 0] 36) := ⟨_, rfl⟩
  have hb2 : Below W.heap.size W w2 := by rw [hw2]; exact ((Below.refl _ _).alloc (Nat.le_refl _) _).alloc (by simp) _
  have om : Ob w2 W.heap.size (msg0 (strOfNums [77])) 30 := by rw [hw2, s77]; exact (Ob.new _ _ _).alloc _
  have of : Ob w2 (W.heap.size + 1) (fil1 ⟨#[120]⟩ (strOfNums [97, 46, 98]) ⟨#[]⟩ W.heap.size) 36 := by
    rw [hw2, sab]
    have := Ob.new (W.alloc (.cells #[.string ⟨#[77]⟩, .slice none 0 0, .slice none 0 0, .slice none 0 0, .slice none 0 0, .slice none 0 0, .slice none 0 0, .slice none 0 0, .slice none 0 0, .slice none 0 0, .slice none 0 0] 30)) #[.string ⟨#[120]⟩, .string ⟨#[97, 46, 98]⟩, .slice none 0 0, .slice none 0 0, .slice (some ⟨W.heap.size, 0, none⟩) 1 1, .slice none 0 0, .slice none 0 0, .slice none 0 0, .string ⟨#[]⟩, .slice none 0 0, .slice none 0 0] 36
    simpa [fil1] using this
  have QN : Hid _ := pnew1 ⟨#[120]⟩ ⟨#[]⟩ (by decide) (by decide) W.heap.size (W.heap.size + 1) w2 om of
  have HB2 : Hid _ := hb2
  have HW2 : Hid _ := hw2
  have hx : ((⟨#[120]⟩ : ByteArray).toList == [120]) = true := by kernel_rfl
  clear hb2 om of hw2
  go_enter Try.func4, Try.ntmps4
  go_wp2_with fail
  rw [← HW2.out]
  clear HW2
  refine Calls.mono QN.out ?_
  rintro e w3 ⟨bp, bs, be, vf, ad, rfl, hb3, hp3⟩
  have QK : Hid _ := pkind1 w3 hp3 (strOfNums [97]) (by rw [strOfNums_size]; decide) 1 ⟨#[120]⟩ none none none (g3_a ⟨#[120]⟩ ad)
  rw [s97] at QK
  have P3 : Hid _ := hp3
  have HB3 : Hid (Below W.heap.size W w3) := HB2.out.trans (hb3.mono HB2.out.size)
  clear hp3 hb3 QN HB2
  go_wp2_with fail
  refine Calls.mono QK.out ?_
  rintro e w4 ⟨rfl, hb4⟩
  have hp4 := P3.out.below hb4 (Nat.le_refl _)
  have QM : Hid _ := pkind1 w4 hp4 (strOfNums [97, 46, 98, 46, 77]) (by rw [strOfNums_size]; decide) 2 ⟨#[120]⟩ ad none none (g3_M ⟨#[120]⟩ ad)
  rw [sabM] at QM
  have P4 : Hid _ := hp4
  have HB4 : Hid (Below W.heap.size W w4) := HB3.out.trans (hb4.mono HB3.out.size)
  clear hp4 hb4 QK P3 HB3
  go_wp2_with fail
  refine Calls.mono QM.out ?_
  rintro e w5 ⟨rfl, hb5⟩
  have hp5 := P4.out.below hb5 (Nat.le_refl _)
  have QH : Hid _ := phome1 w5 hp5 (strOfNums [97, 46, 98, 46, 77]) (by rw [strOfNums_size]; decide) 2 ⟨#[120]⟩ ad none none (g3_M ⟨#[120]⟩ ad) (by decide)
  rw [sabM] at QH
  have HB5 : Hid (Below W.heap.size W w5) := HB4.out.trans (hb5.mono HB4.out.size)
  clear hp5 hb5 QM P4 HB4
  go_wp2_with fail
  refine Calls.mono QH.out ?_
  rintro e w6 ⟨rfl, hb6⟩
  have HB6 : Hid (Below W.heap.size W w6) := HB5.out.trans (hb6.mono HB5.out.size)
  clear hb6 QH HB5
  go_wp2
  go_ret
  exact ⟨rfl, HB6.out⟩

end Go.Proofs.Ytjbppjemilijdaa

/- PoolEntries, walked. -/
namespace Go.Proofs.Ytjbppjemilijdaa
open Go.RowKit
set_option linter.unusedVariables false
set_option linter.unusedSimpArgs false

set_option maxRecDepth 100000 in
set_option maxHeartbeats 4000000 in
theorem pentries_walk (nm : ByteArray) (a1 : Option Addr) (n1 k1 : Nat) (m1 : List Md) (a2 : Option Addr) (n2 k2 : Nat) (m2 : List Md) (a3 : Option Addr) (n3 k3 : Nat) (m3 : List Md) (a4 : Option Addr) (n4 k4 : Nat) (m4 : List Md) (a5 : Option Addr) (n5 k5 : Nat) (m5 : List Md) (a6 : Option Addr) (n6 k6 : Nat) (m6 : List Md) (a7 : Option Addr) (n7 k7 : Nat) (m7 : List Md) (a8 : Option Addr) (n8 k8 : Nat) (m8 : List Md) (a9 : Option Addr) (n9 k9 : Nat) (m9 : List Md) (a10 : Option Addr) (n10 k10 : Nat) (m10 : List Md) (z9 : List Int) (w : World) (hm : Hid (MsgOk w nm a1 n1 k1 m1 a2 n2 k2 m2 a3 n3 k3 m3 a4 n4 k4 m4 a5 n5 k5 m5 a6 n6 k6 m6 a7 n7 k7 m7 a8 n8 k8 m8 a9 n9 k9 m9 a10 n10 k10 m10)) (hb : Hid (Bs w a9 n9 k9 z9)) (hu : Hid (n9 ≤ 1048576)) :
    Calls Try.prog 3 #[.agg #[.string nm, .slice a1 n1 k1, .slice a2 n2 k2, .slice a3 n3 k3, .slice a4 n4 k4, .slice a5 n5 k5, .slice a6 n6 k6, .slice a7 n7 k7, .slice a8 n8 k8, .slice a9 n9 k9, .slice a10 n10 k10]] w fun e w' => e = .returned (.bool true) ∧ Below w.heap.size w w' := by
  obtain ⟨W, hW⟩ : ∃ W, W = w.alloc (.cells #[.string nm, .slice a1 n1 k1, .slice a2 n2 k2, .slice a3 n3 k3, .slice a4 n4 k4, .slice a5 n5 k5, .slice a6 n6 k6, .slice a7 n7 k7, .slice a8 n8 k8, .slice a9 n9 k9, .slice a10 n10 k10] 30) := ⟨_, rfl⟩
  have hbW : Below w.heap.size w W := by rw [hW]; exact (Below.refl _ _).alloc (Nat.le_refl _) _
  have obW : Ob W w.heap.size #[.string nm, .slice a1 n1 k1, .slice a2 n2 k2, .slice a3 n3 k3, .slice a4 n4 k4, .slice a5 n5 k5, .slice a6 n6 k6, .slice a7 n7 k7, .slice a8 n8 k8, .slice a9 n9 k9, .slice a10 n10 k10] 30 := by rw [hW]; exact Ob.new _ _ _
  have HW : Hid _ := hW
  have HBW : Hid _ := hbW
  have OBW : Hid _ := obW
  clear hW hbW obW
  go_enter Try.func3, Try.ntmps3
  go_wp2_with fail
  rw [← HW.out]
  refine (vawake_any _).mono ?_
  rintro e w1 ⟨rfl, hb1⟩
  have HB1 : Hid (Below w.heap.size w w1) := HBW.out.trans (hb1.mono HBW.out.size)
  have O1 : Hid _ := OBW.out.below hb1 OBW.out.lt
  have hl1 : w.heap.size < w1.heap.size := O1.out.lt
  clear hb1 HW HBW OBW
  go_upto_region 3 with fail
  refine wp_region_any rfl ?_
  obtain ⟨⟨e0, e1, e2, e3, e4, e5, e6, e7, e8, e9, e10⟩, _, _⟩ := ob11 (show Ob w1 w.heap.size #[.string nm, .slice a1 n1 k1, .slice a2 n2 k2, .slice a3 n3 k3, .slice a4 n4 k4, .slice a5 n5 k5, .slice a6 n6 k6, .slice a7 n7 k7, .slice a8 n8 k8, .slice a9 n9 k9, .slice a10 n10 k10] 30 from O1.out)
  refine wpAny_force (i := 0) (by kernel_rfl) rfl ?_
  intro Q' hQ' hPn
  have HQ : Hid _ := hQ'
  clear hQ' hPn
  go_wp2
  refine HQ.out _ _ ?_
  clear HQ
  refine wpAny_force (i := 1) (by kernel_rfl) rfl ?_
  intro Q' hQ' hPn
  have HQ : Hid _ := hQ'
  clear hQ' hPn
  go_wp2_with fail
  refine Calls.mono (fmessage_any nm a1 n1 k1 m1 a2 n2 k2 m2 a3 n3 k3 m3 a4 n4 k4 m4 a5 n5 k5 m5 a6 n6 k6 m6 a7 n7 k7 m7 a8 n8 k8 m8 a9 n9 k9 m9 a10 n10 k10 m10 _) ?_
  rintro e w2 ⟨g, rfl, og, hb2⟩
  have hb2' : Below w1.heap.size w1 w2 := (Below.refl w1.heap.size w1).drew.trans hb2
  have HB2 : Hid (Below w.heap.size w w2) := HB1.out.trans (hb2'.mono HB1.out.size)
  have O2 : Hid _ := O1.out.below hb2' hl1
  have hl2 : w.heap.size < w2.heap.size := O2.out.lt
  have FW : Hid _ := ffew_any g _ w2 (show Hid _ from MsgOk.one (hm.out.under HB2.out) og)
  clear hb2 hb2' og e0 e1 e2 e3 e4 e5 e6 e7 e8 e9 e10 O1
  go_wp2
  refine HQ.out _ _ ?_
  clear HQ
  refine wpAny_force (i := 2) (by kernel_rfl) rfl ?_
  intro Q' hQ' hPn
  have HQ : Hid _ := hQ'
  clear hQ' hPn
  go_wp2_with fail
  refine Calls.mono FW.out ?_
  rintro e w3 ⟨fb, rfl, hb3⟩
  have HB3 : Hid (Below w.heap.size w w3) := HB2.out.trans (hb3.mono HB2.out.size)
  have O3 : Hid _ := O2.out.below hb3 hl2
  have hl3 : w.heap.size < w3.heap.size := O3.out.lt
  clear hb3 FW O2
  go_wp2
  refine HQ.out _ _ ?_
  clear HQ
  refine wpAny_force (i := 3) (by kernel_rfl) rfl ?_
  intro Q' hQ' hPn
  have HQ : Hid _ := hQ'
  clear hQ' hPn
  go_wp2
  refine HQ.out _ _ ?_
  clear HQ
  refine wpAny_force (i := 4) (by kernel_rfl) rfl ?_
  intro Q' hQ' hPn
  have HQ : Hid _ := hQ'
  clear hQ' hPn
  go_wp2
  refine HQ.out _ _ ?_
  clear HQ
  have d0 := fun x : Ext w3 => x.cell (p := ⟨w.heap.size, 0, none⟩) hl3 (O3.out.cell 0 rfl)
  have d1 := fun x : Ext w3 => x.cell (p := ⟨w.heap.size, 1, none⟩) hl3 (O3.out.cell 1 rfl)
  have d2 := fun x : Ext w3 => x.cell (p := ⟨w.heap.size, 2, none⟩) hl3 (O3.out.cell 2 rfl)
  have d3 := fun x : Ext w3 => x.cell (p := ⟨w.heap.size, 3, none⟩) hl3 (O3.out.cell 3 rfl)
  have d4 := fun x : Ext w3 => x.cell (p := ⟨w.heap.size, 4, none⟩) hl3 (O3.out.cell 4 rfl)
  have d5 := fun x : Ext w3 => x.cell (p := ⟨w.heap.size, 5, none⟩) hl3 (O3.out.cell 5 rfl)
  have d6 := fun x : Ext w3 => x.cell (p := ⟨w.heap.size, 6, none⟩) hl3 (O3.out.cell 6 rfl)
  have d7 := fun x : Ext w3 => x.cell (p := ⟨w.heap.size, 7, none⟩) hl3 (O3.out.cell 7 rfl)
  have d8 := fun x : Ext w3 => x.cell (p := ⟨w.heap.size, 8, none⟩) hl3 (O3.out.cell 8 rfl)
  have d9 := fun x : Ext w3 => x.cell (p := ⟨w.heap.size, 9, none⟩) hl3 (O3.out.cell 9 rfl)
  have d10 := fun x : Ext w3 => x.cell (p := ⟨w.heap.size, 10, none⟩) hl3 (O3.out.cell 10 rfl)
  have QA : Hid (∀ V, Below w3.heap.size w3 V → Calls Try.prog 7 #[.agg #[.string nm, .slice a1 n1 k1, .slice a2 n2 k2, .slice a3 n3 k3, .slice a4 n4 k4, .slice a5 n5 k5, .slice a6 n6 k6, .slice a7 n7 k7, .slice a8 n8 k8, .slice a9 n9 k9, .slice a10 n10 k10]] V fun e W' => e = .returned (.bool (eof n9 z9)) ∧ Below V.heap.size V W') := fun V hV => pentry_any nm a1 n1 k1 a2 n2 k2 a3 n3 k3 a4 n4 k4 a5 n5 k5 a6 n6 k6 a7 n7 k7 a8 n8 k8 a10 n10 k10 a9 n9 k9 z9 V (show Hid _ from hb.out.below (HB3.out.trans (hV.mono HB3.out.size)) (Nat.le_refl _)) hu
  have QB : Hid (∀ V, Below w3.heap.size w3 V → Calls Try.prog 8 #[.agg #[.string nm, .slice a1 n1 k1, .slice a2 n2 k2, .slice a3 n3 k3, .slice a4 n4 k4, .slice a5 n5 k5, .slice a6 n6 k6, .slice a7 n7 k7, .slice a8 n8 k8, .slice a9 n9 k9, .slice a10 n10 k10]] V fun e W' => e = .returned (.bool (eof n9 z9)) ∧ Below V.heap.size V W') := fun V hV => rentry_any nm a1 n1 k1 a2 n2 k2 a3 n3 k3 a4 n4 k4 a5 n5 k5 a6 n6 k6 a7 n7 k7 a8 n8 k8 a10 n10 k10 a9 n9 k9 z9 V (show Hid _ from hb.out.below (HB3.out.trans (hV.mono HB3.out.size)) (Nat.le_refl _)) hu
  clear hm hb hu HB1 HB2 O3
  generalize eof n9 z9 = B at QA QB
  refine wpAny_restE 5 rfl (by kernel_rfl) (by kernel_rfl) ?_
  simp only [List.drop]
  cases fb with
  | false =>
    clear QA QB
    simp only [Bool.not_false]
    repeat (go_big_quiet_step (fail))
    refine wpQuiet_nil ?_
    rintro w4 ⟨⟨_, hb4⟩, rfl⟩
    go_wp2
    go_ret
    exact ⟨rfl, HB3.out.trans (hb4.mono HB3.out.size)⟩
  | true =>
    simp only [Bool.not_true]
    repeat (go_big_quiet_step (first | (go_at_call 7; exact Ext.call QA.out _) | (go_at_call 8; exact Ext.call QB.out _)))
    refine wpQuiet_nil ?_
    rintro w4 ⟨⟨_, hb4⟩, rfl⟩
    go_wp2
    go_ret
    exact ⟨rfl, HB3.out.trans (hb4.mono HB3.out.size)⟩

end Go.Proofs.Ytjbppjemilijdaa

/- What the bound of the second form gives: how long a slice of bytes is that came in. -/
namespace Go.Proofs.Ytjbppjemilijdaa
open Go.ChangeShapes Go.WideShapes Go.ChangeAt Go.RowKit

theorem bulk_len {H : Type} (l : List (DataW H)) : l.length ≤ Rows.uptoBulkAll l := by
  induction l with
  | nil => simp
  | cons x r ih =>
    have h1 : 1 ≤ Rows.uptoBulk x := by
      cases x with
      | lit l => cases l <;> simp [Rows.uptoBulk]
      | _ => simp [Rows.uptoBulk]
    simp only [Rows.uptoBulkAll, List.length_cons]
    omega

theorem bs_open_upto {H : Type} {enc : TypeId × Value → H} {W : World} {a : Option Addr} {len cap fuel : Nat} {x : DataW H × List MemPlace}
    (hf : DataW.trod enc Try.prog W 0 (fun _ => true) true fuel 28 [.slice a len cap] = some x) : ∃ zs, Bs W a len cap zs ∧ len ≤ Rows.uptoBulk x.1 := by
  rcases open_ints Try.underlying28 Try.underlying5 (by kernel_rfl) hf with ⟨hcs, _⟩ | ⟨y, l, c, zs, hcs, _, hl, hm, hz, hx, hcell, hwz⟩
  · simp at hcs
    obtain ⟨rfl, rfl, rfl⟩ := hcs
    exact ⟨_, Bs.of_row (zs := []) (.inl ⟨rfl, rfl, rfl, rfl⟩), Nat.zero_le _⟩
  · simp at hcs
    obtain ⟨rfl, rfl, rfl⟩ := hcs
    refine ⟨_, Bs.of_row (zs := zs) (.inr ⟨_, rfl, hl, hm, by simpa using hz, hcell, hwz⟩), ?_⟩
    rw [hx]
    have h1 := bulk_len (lits (H := H) .u8 (zs.take len))
    have h2 : (lits (H := H) .u8 (zs.take len)).length = len := by
      simp only [if_true] at hz
      simp [lits]
      omega
    simp only [Rows.uptoBulk]
    omega

end Go.Proofs.Ytjbppjemilijdaa
