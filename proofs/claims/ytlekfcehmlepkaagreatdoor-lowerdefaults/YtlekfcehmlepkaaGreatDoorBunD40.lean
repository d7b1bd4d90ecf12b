/- Put together by a program out of these texts of mine: XFil. -/
import Derived.Test.YtlekfcehmlepkaaGreatDoorBunD39

namespace Go.Proofs.YtlekfcehmlepkaaGreatDoor
open Go.RowKit
set_option linter.unusedVariables false
set_option linter.unusedSimpArgs false

theorem Tryz.bytesMsg : ((Tryz.prog.info? 51).map (fun i => i.bytes)).getD 0 ≤ 1000 := of_decide_eq_true (show decide (((Tryz.prog.info? 51).map (fun i => i.bytes)).getD 0 ≤ 1000) = true from by kernel_rfl)

theorem Tryz.infoMsg : (Tryz.prog.info? 51).map (fun i => (i.zero,i.size,i.bytes)) = some (some (.agg (mA ⟨#[]⟩ (.slice none 0 0))),11,((Tryz.prog.info? 51).map (fun i => i.bytes)).getD 0) := by kernel_rfl

theorem Tryz.sizeFile : (Tryz.prog.info? 43).map (·.size) = some 11 := by kernel_rfl

theorem fil_ret {fn : Func} {R : Ending → World → Prop} {a : Act} {w : World} {p : Tmp} (h : fn.results = #[.cell p 43]) (gb : Nat) (cs : Array Value) (hs : cs.size = 11) (hp : a.tmps.getD p undef = .pointer (some ⟨gb,0,none⟩)) (hg : Ob w gb cs 43) (hd : a.defers = []) (hR : R (.returned (.agg cs)) w) : bodyPost Tryz.prog fn R .ret a w := by
 refine bodyPost_ret (v := .agg cs) ?_ hd hR
 have hp' : a.tmps[p]?.getD undef = .pointer (some ⟨gb,0,none⟩) := by simpa using hp
 have hl := run_loadVar_row (P := Tryz.prog) w gb 43 43 cs (0,0) _ hg.eq Tryz.underlying43 rfl (Tryz.sizeFile.trans (by rw [hs]))
 simp [results,h,hp',asAddr,hl]

def gA (Z : ByteArray) (ms : Value) : Array Value := #[.string Z,.string ⟨#[]⟩,.slice none 0 0,.slice none 0 0,ms,.slice none 0 0,.slice none 0 0,.slice none 0 0,.string ⟨#[]⟩,.slice none 0 0,.slice none 0 0]

set_option maxRecDepth 20000 in
set_option maxHeartbeats 2000000 in
theorem ppkg_a {w : World} {kb ko c : Nat} {k : Tn} (hk5 : k.kind = 5) (W : World) (hk : ∀ (j : Nat) (u : Value),k.cells[j]? = some u → W.cell? ⟨kb,ko + j,none⟩ = some u) (hkl : kb < W.heap.size) :
  Calls Tryz.prog 97 #[(tA (some ⟨kb,ko,none⟩) c k).val] W fun e W' => e = .returned (.string ⟨#[]⟩) ∧ Below W.heap.size W W' := by
 obtain ⟨kk,kt,kn,km,ka,kp,kd,kad,kc,ks⟩ := k
 obtain rfl : kk = 5 := hk5
 unfold tA Tn.val Tn.cells
 simp only [Tn.cells] at hk
 simp only [List.length_cons,List.length_nil,Nat.zero_add]
 generalize strOfNums [] = D
 generalize strOfNums kt = KT at hk
 generalize strOfNums kd = KD at hk
 obtain ⟨w1,hw1⟩ : ∃ w1,w1 = W.alloc (.cells #[.int .i64 1,.string D,.int .i64 0,.int .i64 0,.int .i64 0,.int .i64 0,.string D,.slice (some ⟨kb,ko,none⟩) 1 c] 28) := ⟨_,rfl⟩
 have hb1 : Below W.heap.size W w1 := by rw [hw1]; exact (Below.refl _ _).alloc (Nat.le_refl _) _
 have o0 : Hid (Ob w1 W.heap.size #[.int .i64 1,.string D,.int .i64 0,.int .i64 0,.int .i64 0,.int .i64 0,.string D,.slice (some ⟨kb,ko,none⟩) 1 c] 28) := by rw [hw1]; exact Ob.new _ _ _
 have HK : Hid (∀ (j : Nat) (u : Value),[Value.int .i64 5,.string KT,.int .i64 kn,.int .i64 km,.int .i64 ka,.int .i64 kp,.string KD,.slice kad ks.length kc][j]? = some u → w1.cell? ⟨kb,ko + j,none⟩ = some u) := fun j u hj => (hb1.cell hkl).trans (hk j u hj)
 have HKL : Hid (kb < w1.heap.size) := Nat.lt_of_lt_of_le hkl hb1.size
 have HB1 : Hid _ := hb1
 have HW1 : Hid _ := hw1
 clear hw1 hb1 hk hkl
 go_enter Tryz.func97,Tryz.ntmps97
 go_upto_region 1 with fail
 rw [← HW1.out]
 clear HW1
 have c7 := o0.out.cell 7 rfl
 have cl := o0.out.lt
 go_wp2
 go_loopw [8] (fun v wr => (v = .int .i64 0 ∧ w1 = wr) ∨ (v = .int .i64 1 ∧ Hid (Below W.heap.size W wr))) (fun v _ => 1 - (intOf v).toNat)
 case atStart => exact .inl ⟨rfl,rfl⟩
 case round =>
  rcases hrel with ⟨rfl,rfl⟩ | ⟨rfl,HR⟩
  ·have k0 := HK.out 0 _ rfl
   have k1 := HK.out 1 _ rfl
   have k2 := HK.out 2 _ rfl
   have k3 := HK.out 3 _ rfl
   have k4 := HK.out 4 _ rfl
   have k5 := HK.out 5 _ rfl
   have k6 := HK.out 6 _ rfl
   have k7 := HK.out 7 _ rfl
   rw [Nat.add_zero] at k0
   have kl := HKL.out
   have HB2 : Hid (Below W.heap.size W (w1.alloc (.cells #[.int .i64 5,.string KT,.int .i64 kn,.int .i64 km,.int .i64 ka,.int .i64 kp,.string KD,.slice kad ks.length kc] 28))) := HB1.out.alloc HB1.out.size _
   go_wp2
   go_roundw
   case rel => first | exact .inr ⟨rfl,HB2⟩ | ((repeat apply Exists.intro); exact ⟨.inr ⟨rfl,HB2⟩,rfl⟩)
   case measure => simp [intOf]
  ·go_wp2
   go_ret
   exact ⟨rfl,HR.out⟩

set_option maxRecDepth 40000 in
set_option maxHeartbeats 8000000 in
theorem pfile_a {w : World} {ad : Option Addr} {c : Nat} {ad2 : Option Addr} {c2 : Nat} {ad3 : Option Addr} {c3 : Nat} {ad4 : Option Addr} {c4 : Nat} (h : TnOk w (tA ad c (tM ad2 c2 (tF ad3 c3 (tT ad4 c4))))) (W : World) (hT : Hid (LoTab W)) (hB : Below w.heap.size w W) {g : Nat} {av : Value} (hg : Ob W g #[.bool false,av] 69) :
  Calls Tryz.prog 51 #[.pointer (some ⟨g,0,none⟩),(tA ad c (tM ad2 c2 (tF ad3 c3 (tT ad4 c4)))).val,.string (strOfNums [120])] W fun e W' => ∃ mb mc fb fc,e = .returned (.agg (gA (strOfNums [120]) (.slice (some ⟨mb,0,none⟩) 1 mc))) ∧ Below W.heap.size W W' ∧ (W.heap.size ≤ mb ∧ W.heap.size ≤ fb) ∧ mb < W'.heap.size ∧ fb < W'.heap.size ∧ (∀ (j : Nat) (v : Value),(mA (strOfNums [65]) (.slice (some ⟨fb,0,none⟩) 1 fc))[j]? = some v → W'.cell? ⟨mb,j,none⟩ = some v) ∧ ∀ (j : Nat) (v : Value),(fA 5 (strOfNums [98]))[j]? = some v → W'.cell? ⟨fb,j,none⟩ = some v := by
 obtain ⟨kb,ko,rfl,hkl,hkc,hkok⟩ : ∃ kb ko,ad = some ⟨kb,ko,none⟩ ∧ kb < w.heap.size ∧ (∀ (j : Nat) (u : Value),(tM ad2 c2 (tF ad3 c3 (tT ad4 c4))).cells[j]? = some u → w.cell? ⟨kb,ko + j,none⟩ = some u) ∧ TnOk w (tM ad2 c2 (tF ad3 c3 (tT ad4 c4))) := by
  have h' := h
  unfold tA at h'
  cases h' with
  | mk _ _ _ _ _ _ _ _ _ _ _ _ hmem hkids =>
   obtain ⟨b,off,rfl,h1,h2⟩ := hmem (by simp)
   exact ⟨b,off,rfl,h1,fun j u hj => by simpa using h2 0 _ rfl j u hj,hkids 0 _ rfl⟩
 have HK : Hid (∀ V,Below W.heap.size W V → ∀ (j : Nat) (u : Value),(tM ad2 c2 (tF ad3 c3 (tT ad4 c4))).cells[j]? = some u → V.cell? ⟨kb,ko + j,none⟩ = some u) := fun V hV j u hj => ((hB.trans (hV.mono hB.size)).cell hkl).trans (hkc j u hj)
 have HKL : Hid (kb < W.heap.size) := Nat.lt_of_lt_of_le hkl hB.size
 have QP : Hid (∀ V,Below W.heap.size W V → Calls Tryz.prog 97 #[(tA (some ⟨kb,ko,none⟩) c (tM ad2 c2 (tF ad3 c3 (tT ad4 c4)))).val] V fun e W' => e = .returned (.string ⟨#[]⟩) ∧ Below V.heap.size V W') := fun V hV => ppkg_a (w := w) rfl V (HK.out V hV) (Nat.lt_of_lt_of_le HKL.out hV.size)
 have QA : Hid (∀ V,Below W.heap.size W V → Calls Tryz.prog 98 #[.pointer (some ⟨g,0,none⟩),(tA (some ⟨kb,ko,none⟩) c (tM ad2 c2 (tF ad3 c3 (tT ad4 c4)))).val,.string { data := #[70,105,108,101] },.slice none 0 0] V fun e W' => e = .returned (.tuple #[]) ∧ Below V.heap.size V W') := fun V hV => pask_a h rfl (of_decide_eq_true (by rfl)) rfl V (show Hid _ from hT.out.below hV (Nat.le_refl _)) (hB.trans (hV.mono hB.size)) _ _ _
 have QC : Hid (∀ V Y,ByteArray.size Y ≤ 1000000 → Calls Tryz.prog 19 #[.string Y] V fun e W' => e = .returned (.string Y) ∧ Below V.heap.size V W') := fun V Y hY => pnclone_any Y V hY
 have QM : Hid (∀ V vp bp,Below W.heap.size W V → Hd V (ipd [4,0]) [vp] bp → Calls Tryz.prog 99 #[.pointer (some ⟨g,0,none⟩),(tM ad2 c2 (tF ad3 c3 (tT ad4 c4))).val,.string ⟨#[]⟩,vp] V fun e W' => ∃ fb fc,e = .returned (.agg (mA (strOfNums [65]) (.slice (some ⟨fb,0,none⟩) 1 fc))) ∧ Below V.heap.size V W' ∧ V.heap.size ≤ fb ∧ fb < W'.heap.size ∧ ∀ (j : Nat) (v : Value),(fA 5 (strOfNums [98]))[j]? = some v → W'.cell? ⟨fb,j,none⟩ = some v) := fun V vp bp hV hp => pmsg_a hkok V (show Hid _ from hT.out.below hV (Nat.le_refl _)) (hB.trans (hV.mono hB.size)) (hg.below hV hg.lt) hp
 have HG : Hid (Ob W g #[.bool false,av] 69) := hg
 unfold tA tM Tn.val Tn.cells at QP QA
 unfold tM Tn.val Tn.cells at QM
 unfold tM Tn.cells at HK
 unfold tA Tn.val Tn.cells
 simp only [List.length_cons,List.length_nil,Nat.zero_add,gA] at QP QA QM HK ⊢
 obtain ⟨M,HM⟩ : ∃ M,Hid (M = strOfNums [65]) := ⟨_,rfl⟩
 obtain ⟨X,HX⟩ : ∃ X,Hid (X = strOfNums [98]) := ⟨_,rfl⟩
 obtain ⟨D,HD⟩ : ∃ D,Hid (D = strOfNums []) := ⟨_,rfl⟩
 obtain ⟨Z,HZ⟩ : ∃ Z,Hid (Z = strOfNums [120]) := ⟨_,rfl⟩
 simp only [← HM.out,← HX.out,← HD.out,← HZ.out] at QP QA QM HK ⊢
 clear h hB hkl hkc hg hT hkok
 obtain ⟨w2,hw2⟩ : ∃ w2,w2 = (W.alloc (.cells #[.int .i64 1,.string D,.int .i64 0,.int .i64 0,.int .i64 0,.int .i64 0,.string D,.slice (some ⟨kb,ko,none⟩) 1 c] 28)).alloc (.cells #[.string ⟨#[]⟩,.string ⟨#[]⟩,.slice none 0 0,.slice none 0 0,.slice none 0 0,.slice none 0 0,.slice none 0 0,.slice none 0 0,.string ⟨#[]⟩,.slice none 0 0,.slice none 0 0] 43) := ⟨_,rfl⟩
 have o0 : Hid (Ob w2 W.heap.size #[.int .i64 1,.string D,.int .i64 0,.int .i64 0,.int .i64 0,.int .i64 0,.string D,.slice (some ⟨kb,ko,none⟩) 1 c] 28) := by rw [hw2]; exact (Ob.new W _ _).alloc _
 have o1 : Hid (Ob w2 (W.heap.size + 1) #[.string ⟨#[]⟩,.string ⟨#[]⟩,.slice none 0 0,.slice none 0 0,.slice none 0 0,.slice none 0 0,.slice none 0 0,.slice none 0 0,.string ⟨#[]⟩,.slice none 0 0,.slice none 0 0] 43) := by
  rw [hw2]
  have := Ob.new (W.alloc (.cells #[.int .i64 1,.string D,.int .i64 0,.int .i64 0,.int .i64 0,.int .i64 0,.string D,.slice (some ⟨kb,ko,none⟩) 1 c] 28)) #[.string ⟨#[]⟩,.string ⟨#[]⟩,.slice none 0 0,.slice none 0 0,.slice none 0 0,.slice none 0 0,.slice none 0 0,.slice none 0 0,.string ⟨#[]⟩,.slice none 0 0,.slice none 0 0] 43
  show Ob _ _ _ _
  simpa using this
 have HB2 : Hid (Below W.heap.size W w2) := by rw [hw2]; exact ((Below.refl _ W).alloc (Nat.le_refl _) _).alloc (by simp) _
 have HW2 : Hid _ := hw2
 clear hw2
 go_enter Tryz.func51,Tryz.ntmps51
 go_upto_region 1 with fail
 rw [← HW2.out]
 clear HW2
 obtain ⟨⟨a0,a1,a2,a3,a4,a5,a6,a7⟩,_,al⟩ := ob8 o0.out
 have QP2 : Hid _ := QP.out w2 HB2.out
 go_wp2_with fail
 refine Calls.mono QP2.out ?_
 rintro e w3 ⟨rfl,hb3⟩
 clear QP2 QP a0 a1 a2 a3 a4 a5 a6 a7 al
 have p0 : Hid (Ob w3 W.heap.size #[.int .i64 1,.string D,.int .i64 0,.int .i64 0,.int .i64 0,.int .i64 0,.string D,.slice (some ⟨kb,ko,none⟩) 1 c] 28) := o0.out.below hb3 o0.out.lt
 have p1 : Hid (Ob w3 (W.heap.size + 1) #[.string ⟨#[]⟩,.string ⟨#[]⟩,.slice none 0 0,.slice none 0 0,.slice none 0 0,.slice none 0 0,.slice none 0 0,.slice none 0 0,.string ⟨#[]⟩,.slice none 0 0,.slice none 0 0] 43) := o1.out.below hb3 o1.out.lt
 have HB3 : Hid (Below W.heap.size W w3) := HB2.out.trans (hb3.mono HB2.out.size)
 clear hb3 o0 o1 HB2
 have QC3 : Hid _ := QC.out w3 Z (by rw [HZ.out]; decide)
 go_wp2_with fail
 refine Calls.mono QC3.out ?_
 rintro e w35 ⟨rfl,hb35⟩
 clear QC3
 have q0 : Hid (Ob w35 W.heap.size #[.int .i64 1,.string D,.int .i64 0,.int .i64 0,.int .i64 0,.int .i64 0,.string D,.slice (some ⟨kb,ko,none⟩) 1 c] 28) := p0.out.below hb35 p0.out.lt
 have q1 : Hid (Ob w35 (W.heap.size + 1) #[.string ⟨#[]⟩,.string ⟨#[]⟩,.slice none 0 0,.slice none 0 0,.slice none 0 0,.slice none 0 0,.slice none 0 0,.slice none 0 0,.string ⟨#[]⟩,.slice none 0 0,.slice none 0 0] 43) := p1.out.below hb35 p1.out.lt
 have HB35 : Hid (Below W.heap.size W w35) := HB3.out.trans (hb35.mono HB3.out.size)
 clear hb35 p0 p1 HB3
 have QC4 : Hid _ := QC.out w35 ⟨#[]⟩ (by decide)
 go_wp2_with fail
 refine Calls.mono QC4.out ?_
 rintro e w4 ⟨rfl,hb4⟩
 clear QC4 QC
 have p0 : Hid (Ob w4 W.heap.size #[.int .i64 1,.string D,.int .i64 0,.int .i64 0,.int .i64 0,.int .i64 0,.string D,.slice (some ⟨kb,ko,none⟩) 1 c] 28) := q0.out.below hb4 q0.out.lt
 have p1 : Hid (Ob w4 (W.heap.size + 1) #[.string ⟨#[]⟩,.string ⟨#[]⟩,.slice none 0 0,.slice none 0 0,.slice none 0 0,.slice none 0 0,.slice none 0 0,.slice none 0 0,.string ⟨#[]⟩,.slice none 0 0,.slice none 0 0] 43) := q1.out.below hb4 q1.out.lt
 have HB4 : Hid (Below W.heap.size W w4) := HB35.out.trans (hb4.mono HB35.out.size)
 clear hb4 q0 q1 HB35
 obtain ⟨w5,hw5⟩ : ∃ w5,w5 = w4.alloc (.cells #[.string Z,.string ⟨#[]⟩,.slice none 0 0,.slice none 0 0,.slice none 0 0,.slice none 0 0,.slice none 0 0,.slice none 0 0,.string ⟨#[]⟩,.slice none 0 0,.slice none 0 0] 43) := ⟨_,rfl⟩
 have q0 : Hid (Ob w5 W.heap.size #[.int .i64 1,.string D,.int .i64 0,.int .i64 0,.int .i64 0,.int .i64 0,.string D,.slice (some ⟨kb,ko,none⟩) 1 c] 28) := by rw [hw5]; exact p0.out.alloc _
 have q1 : Hid (Ob w5 (W.heap.size + 1) #[.string ⟨#[]⟩,.string ⟨#[]⟩,.slice none 0 0,.slice none 0 0,.slice none 0 0,.slice none 0 0,.slice none 0 0,.slice none 0 0,.string ⟨#[]⟩,.slice none 0 0,.slice none 0 0] 43) := by rw [hw5]; exact p1.out.alloc _
 have q2 : Hid (Ob w5 w4.heap.size #[.string Z,.string ⟨#[]⟩,.slice none 0 0,.slice none 0 0,.slice none 0 0,.slice none 0 0,.slice none 0 0,.slice none 0 0,.string ⟨#[]⟩,.slice none 0 0,.slice none 0 0] 43) := by rw [hw5]; exact Ob.new _ _ _
 have HB5 : Hid (Below W.heap.size W w5) := by rw [hw5]; exact HB4.out.alloc HB4.out.size _
 have HFW : Hid (W.heap.size + 1 < w4.heap.size) := p1.out.lt
 go_upto_region 3 with fail
 rw [← hw5]
 clear hw5 p0 p1 HB4
 have m0 := (HG.out.below HB5.out HG.out.lt).cell 0 rfl
 have ml : g < w5.heap.size := Nat.lt_of_lt_of_le HG.out.lt HB5.out.size
 go_upto_region 5 with fail
 clear m0 ml
 obtain ⟨⟨a0,a1,a2,a3,a4,a5,a6,a7⟩,_,al⟩ := ob8 q0.out
 have QA5 : Hid _ := QA.out w5 HB5.out
 go_wp2_with fail
 refine Calls.mono QA5.out ?_
 rintro e w7 ⟨rfl,hb7⟩
 clear QA5 QA a0 a1 a2 a3 a4 a5 a6 a7 al
 have p0 : Hid (Ob w7 W.heap.size #[.int .i64 1,.string D,.int .i64 0,.int .i64 0,.int .i64 0,.int .i64 0,.string D,.slice (some ⟨kb,ko,none⟩) 1 c] 28) := q0.out.below hb7 q0.out.lt
 have p1 : Hid (Ob w7 (W.heap.size + 1) #[.string ⟨#[]⟩,.string ⟨#[]⟩,.slice none 0 0,.slice none 0 0,.slice none 0 0,.slice none 0 0,.slice none 0 0,.slice none 0 0,.string ⟨#[]⟩,.slice none 0 0,.slice none 0 0] 43) := q1.out.below hb7 q1.out.lt
 have p2 : Hid (Ob w7 w4.heap.size #[.string Z,.string ⟨#[]⟩,.slice none 0 0,.slice none 0 0,.slice none 0 0,.slice none 0 0,.slice none 0 0,.slice none 0 0,.string ⟨#[]⟩,.slice none 0 0,.slice none 0 0] 43) := q2.out.below hb7 q2.out.lt
 have HB7 : Hid (Below W.heap.size W w7) := HB5.out.trans (hb7.mono HB5.out.size)
 clear hb7 q0 q1 q2 HB5
 have q0 := p0
 have q1 := p1
 have q2 := p2
 clear p0 p1 p2
 have c7 := q0.out.cell 7 rfl
 have cl := q0.out.lt
 go_wp2
 go_loopw [29] (fun v wr => (v = .int .i64 0 ∧ w7 = wr) ∨ (v = .int .i64 1 ∧ Hid (∃ mb mc fb fc,Ob wr (W.heap.size + 1) #[.string ⟨#[]⟩,.string ⟨#[]⟩,.slice none 0 0,.slice none 0 0,.slice none 0 0,.slice none 0 0,.slice none 0 0,.slice none 0 0,.string ⟨#[]⟩,.slice none 0 0,.slice none 0 0] 43 ∧ Ob wr w4.heap.size #[.string Z,.string ⟨#[]⟩,.slice none 0 0,.slice none 0 0,.slice (some ⟨mb,0,none⟩) 1 mc,.slice none 0 0,.slice none 0 0,.slice none 0 0,.string ⟨#[]⟩,.slice none 0 0,.slice none 0 0] 43 ∧ Below W.heap.size W wr ∧ W.heap.size ≤ mb ∧ mb ≠ W.heap.size + 1 ∧ mb < wr.heap.size ∧ W.heap.size ≤ fb ∧ fb ≠ W.heap.size + 1 ∧ fb < wr.heap.size ∧ (∀ (j : Nat) (v : Value),(mA M (.slice (some ⟨fb,0,none⟩) 1 fc))[j]? = some v → wr.cell? ⟨mb,j,none⟩ = some v) ∧ ∀ (j : Nat) (v : Value),(fA 5 X)[j]? = some v → wr.cell? ⟨fb,j,none⟩ = some v))) (fun v _ => 1 - (intOf v).toNat)
 case atStart => exact .inl ⟨rfl,rfl⟩
 case round =>
  rcases hrel with ⟨rfl,rfl⟩ | ⟨rfl,HR⟩
  ·have k0 := HK.out w7 HB7.out 0 _ rfl
   have k1 := HK.out w7 HB7.out 1 _ rfl
   have k2 := HK.out w7 HB7.out 2 _ rfl
   have k3 := HK.out w7 HB7.out 3 _ rfl
   have k4 := HK.out w7 HB7.out 4 _ rfl
   have k5 := HK.out w7 HB7.out 5 _ rfl
   have k6 := HK.out w7 HB7.out 6 _ rfl
   have k7 := HK.out w7 HB7.out 7 _ rfl
   rw [Nat.add_zero] at k0
   have kl : kb < w7.heap.size := Nat.lt_of_lt_of_le HKL.out HB7.out.size
   obtain ⟨w8,hw8⟩ : ∃ w8,w8 = w7.alloc (.cells #[.int .i64 5,.string M,.int .i64 0,.int .i64 0,.int .i64 0,.int .i64 0,.string D,.slice ad2 1 c2] 28) := ⟨_,rfl⟩
   have r1 : Hid (Ob w8 (W.heap.size + 1) #[.string ⟨#[]⟩,.string ⟨#[]⟩,.slice none 0 0,.slice none 0 0,.slice none 0 0,.slice none 0 0,.slice none 0 0,.slice none 0 0,.string ⟨#[]⟩,.slice none 0 0,.slice none 0 0] 43) := by rw [hw8]; exact q1.out.alloc _
   have r2 : Hid (Ob w8 w4.heap.size #[.string Z,.string ⟨#[]⟩,.slice none 0 0,.slice none 0 0,.slice none 0 0,.slice none 0 0,.slice none 0 0,.slice none 0 0,.string ⟨#[]⟩,.slice none 0 0,.slice none 0 0] 43) := by rw [hw8]; exact q2.out.alloc _
   have r3 : Hid (Ob w8 w7.heap.size #[.int .i64 5,.string M,.int .i64 0,.int .i64 0,.int .i64 0,.int .i64 0,.string D,.slice ad2 1 c2] 28) := by rw [hw8]; exact Ob.new _ _ _
   have HB8 : Hid (Below W.heap.size W w8) := by rw [hw8]; exact HB7.out.alloc HB7.out.size _
   go_upto_region 15 with fail
   rw [← hw8]
   clear hw8 k0 k1 k2 k3 k4 k5 k6 k7 kl c7 cl q0 q1 q2 HB7
   refine wp_region_heldG 13 (S := fun V => Hid (Ob V w4.heap.size #[.string Z,.string ⟨#[]⟩,.slice none 0 0,.slice none 0 0,.slice none 0 0,.slice none 0 0,.slice none 0 0,.slice none 0 0,.string ⟨#[]⟩,.slice none 0 0,.slice none 0 0] 43 ∧ Ob V w7.heap.size #[.int .i64 5,.string M,.int .i64 0,.int .i64 0,.int .i64 0,.int .i64 0,.string D,.slice ad2 1 c2] 28)) rfl ?_
   obtain ⟨w8d,hw8d⟩ : ∃ w8d,w8d = w8.drew := ⟨_,rfl⟩
   have s1 : Hid (Ob w8d (W.heap.size + 1) #[.string ⟨#[]⟩,.string ⟨#[]⟩,.slice none 0 0,.slice none 0 0,.slice none 0 0,.slice none 0 0,.slice none 0 0,.slice none 0 0,.string ⟨#[]⟩,.slice none 0 0,.slice none 0 0] 43) := by rw [hw8d]; exact r1.out.drew
   have s2 : Hid (Ob w8d w4.heap.size #[.string Z,.string ⟨#[]⟩,.slice none 0 0,.slice none 0 0,.slice none 0 0,.slice none 0 0,.slice none 0 0,.slice none 0 0,.string ⟨#[]⟩,.slice none 0 0,.slice none 0 0] 43) := by rw [hw8d]; exact r2.out.drew
   have s3 : Hid (Ob w8d w7.heap.size #[.int .i64 5,.string M,.int .i64 0,.int .i64 0,.int .i64 0,.int .i64 0,.string D,.slice ad2 1 c2] 28) := by rw [hw8d]; exact r3.out.drew
   have HB8d : Hid (Below W.heap.size W w8d) := by rw [hw8d]; exact HB8.out.drew
   rw [← hw8d]
   clear hw8d r1 r2 r3 HB8
   have HS0 : Hid _ := (show Hid (_ ∧ _) from ⟨s2.out,s3.out⟩)
   refine wpAnyG_take (i := 0) (v := ?_) rfl (by kernel_rfl) (by kernel_rfl) (by kernel_rfl) (by kernel_rfl) (fun _ _ _ h => h) (Or.inl ⟨by rfl,?_⟩) HS0.out ?_
   rotate_left
   ·rintro V HV
    go_simp
    try with_reducible rfl
   refine wpAnyG_take (i := 1) (v := ?_) rfl (by kernel_rfl) (by kernel_rfl) (by kernel_rfl) (by kernel_rfl) (fun _ _ _ h => h) (Or.inl ⟨by rfl,?_⟩) HS0.out ?_
   rotate_left
   ·rintro V HV
    have z1 := HV.out.1.cell 4 rfl
    go_simp
    try with_reducible rfl
   refine wpAnyG_take (i := 2) (v := ?_) rfl (by kernel_rfl) (by kernel_rfl) (by kernel_rfl) (by kernel_rfl) (fun _ _ _ h => h) (Or.inl ⟨by rfl,?_⟩) HS0.out ?_
   rotate_left
   ·rintro V HV
    go_simp
    try with_reducible rfl
   refine wpAnyG_take (i := 3) (v := ?_) rfl (by kernel_rfl) (by kernel_rfl) (by kernel_rfl) (by kernel_rfl) (fun _ _ _ h => h) (Or.inl ⟨by rfl,?_⟩) HS0.out ?_
   rotate_left
   ·rintro V HV
    obtain ⟨⟨z0,z1,z2,z3,z4,z5,z6,z7⟩,_,zl⟩ := ob8 HV.out.2
    go_simp
    try with_reducible rfl
   refine wpAnyG_take (i := 4) (v := ?_) rfl (by kernel_rfl) (by kernel_rfl) (by kernel_rfl) (by kernel_rfl) (fun _ _ _ h => h) (Or.inl ⟨by rfl,?_⟩) HS0.out ?_
   rotate_left
   ·rintro V HV
    go_simp
    try with_reducible rfl
   refine wpAnyG_take (i := 5) (v := ?_) rfl (by kernel_rfl) (by kernel_rfl) (by kernel_rfl) (by kernel_rfl) (fun _ _ _ h => h) (Or.inl ⟨by rfl,?_⟩) HS0.out ?_
   rotate_left
   ·rintro V HV
    go_simp
    try with_reducible rfl
   refine wpAnyG_take (i := 6) (v := ?_) rfl (by kernel_rfl) (by kernel_rfl) (by kernel_rfl) (by kernel_rfl) (fun _ _ _ h => h) (Or.inl ⟨by rfl,?_⟩) HS0.out ?_
   rotate_left
   ·rintro V HV
    have z1 := HV.out.1.cell 4 rfl
    go_simp
    try with_reducible rfl
   refine wpAnyG_take (i := 7) (v := ?_) rfl (by kernel_rfl) (by kernel_rfl) (by kernel_rfl) (by kernel_rfl) (fun _ _ _ h => h) (Or.inl ⟨by rfl,?_⟩) HS0.out ?_
   rotate_left
   ·rintro V HV
    go_simp
    try with_reducible rfl
   refine wpAnyG_all (rs := [8]) (by kernel_rfl) (by simp) ?_
   intro i hi
   obtain rfl : i = 8 := by simpa using hi
   clear hi
   refine wpOp_one rfl ?_
   intro Q' hQ'
   have HQ : Hid _ := hQ'
   clear hQ'
   go_wp2_with fail
   obtain ⟨w9,hw9⟩ : ∃ w9,w9 = w8d.alloc (.cells #[.int .i64 4,.int .i64 0] 3) := ⟨_,rfl⟩
   have p1 : Hid (Ob w9 (W.heap.size + 1) #[.string ⟨#[]⟩,.string ⟨#[]⟩,.slice none 0 0,.slice none 0 0,.slice none 0 0,.slice none 0 0,.slice none 0 0,.slice none 0 0,.string ⟨#[]⟩,.slice none 0 0,.slice none 0 0] 43) := by rw [hw9]; exact s1.out.alloc _
   have p2 : Hid (Ob w9 w4.heap.size #[.string Z,.string ⟨#[]⟩,.slice none 0 0,.slice none 0 0,.slice none 0 0,.slice none 0 0,.slice none 0 0,.slice none 0 0,.string ⟨#[]⟩,.slice none 0 0,.slice none 0 0] 43) := by rw [hw9]; exact s2.out.alloc _
   have p3 : Hid (Ob w9 w7.heap.size #[.int .i64 5,.string M,.int .i64 0,.int .i64 0,.int .i64 0,.int .i64 0,.string D,.slice ad2 1 c2] 28) := by rw [hw9]; exact s3.out.alloc _
   have p4 : Hid (Ob w9 w8d.heap.size #[.int .i64 4,.int .i64 0] 3) := by rw [hw9]; exact Ob.new _ _ _
   have HB9 : Hid (Below W.heap.size W w9) := by rw [hw9]; exact HB8d.out.alloc HB8d.out.size _
   rw [← hw9]
   refine HQ.out _ _ ⟨.inr (show Hid (_ ∧ _) from ⟨p2.out,p3.out⟩),?_⟩
   clear HQ hw9 HS0 s1 s2 s3 HB8d
   refine wpAnyG_all (rs := [9]) (by kernel_rfl) (by simp) ?_
   intro i hi
   obtain rfl : i = 9 := by simpa using hi
   clear hi
   refine wpOp_one rfl ?_
   intro Q' hQ'
   have HQ : Hid _ := hQ'
   clear hQ'
   have QM9 : Hid _ := QM.out w9 (.slice (some ⟨w8d.heap.size,0,none⟩) 2 2) [w8d.heap.size] HB9.out (ipd_block [4,0] p4.out.eq (by decide))
   go_wp2_with fail
   refine Calls.mono QM9.out ?_
   rintro e w10 ⟨fb,fc,rfl,hb10,hfb1,hfb2,hfc⟩
   have r1 : Hid (Ob w10 (W.heap.size + 1) #[.string ⟨#[]⟩,.string ⟨#[]⟩,.slice none 0 0,.slice none 0 0,.slice none 0 0,.slice none 0 0,.slice none 0 0,.slice none 0 0,.string ⟨#[]⟩,.slice none 0 0,.slice none 0 0] 43) := p1.out.below hb10 p1.out.lt
   have r2 : Hid (Ob w10 w4.heap.size #[.string Z,.string ⟨#[]⟩,.slice none 0 0,.slice none 0 0,.slice none 0 0,.slice none 0 0,.slice none 0 0,.slice none 0 0,.string ⟨#[]⟩,.slice none 0 0,.slice none 0 0] 43) := p2.out.below hb10 p2.out.lt
   have r3 : Hid (Ob w10 w7.heap.size #[.int .i64 5,.string M,.int .i64 0,.int .i64 0,.int .i64 0,.int .i64 0,.string D,.slice ad2 1 c2] 28) := p3.out.below hb10 p3.out.lt
   have HB10 : Hid (Below W.heap.size W w10) := HB9.out.trans (hb10.mono HB9.out.size)
   have HFB : Hid (w9.heap.size ≤ fb ∧ fb < w10.heap.size) := ⟨hfb1,hfb2⟩
   have HFC : Hid (∀ (j : Nat) (v : Value),(fA 5 X)[j]? = some v → w10.cell? ⟨fb,j,none⟩ = some v) := hfc
   have HW9 : Hid (W.heap.size + 1 < w9.heap.size ∧ w4.heap.size < w9.heap.size) := ⟨p1.out.lt,p2.out.lt⟩
   clear hb10 hfb1 hfb2 hfc p1 p2 p3 p4 HB9 QM9 QM
   simp only [mA]
   go_wp2_with fail
   refine HQ.out _ _ ⟨.inr (show Hid (_ ∧ _) from ⟨r2.out,r3.out⟩),?_⟩
   clear HQ
   refine wpAnyG_all (rs := [10]) (by kernel_rfl) (by simp) ?_
   intro i hi
   obtain rfl : i = 10 := by simpa using hi
   clear hi
   refine wpOp_one rfl ?_
   intro Q' hQ'
   have HQ : Hid _ := hQ'
   clear hQ'
   go_wp2_with fail
   obtain ⟨w11,hw11⟩ : ∃ w11,w11 = w10.alloc (.cells #[.string M,.slice (some ⟨fb,0,none⟩) 1 fc,.slice none 0 0,.slice none 0 0,.slice none 0 0,.slice none 0 0,.slice none 0 0,.slice none 0 0,.slice none 0 0,.slice none 0 0,.slice none 0 0] 51) := ⟨_,rfl⟩
   have p1 : Hid (Ob w11 (W.heap.size + 1) #[.string ⟨#[]⟩,.string ⟨#[]⟩,.slice none 0 0,.slice none 0 0,.slice none 0 0,.slice none 0 0,.slice none 0 0,.slice none 0 0,.string ⟨#[]⟩,.slice none 0 0,.slice none 0 0] 43) := by rw [hw11]; exact r1.out.alloc _
   have p2 : Hid (Ob w11 w4.heap.size #[.string Z,.string ⟨#[]⟩,.slice none 0 0,.slice none 0 0,.slice none 0 0,.slice none 0 0,.slice none 0 0,.slice none 0 0,.string ⟨#[]⟩,.slice none 0 0,.slice none 0 0] 43) := by rw [hw11]; exact r2.out.alloc _
   have p3 : Hid (Ob w11 w7.heap.size #[.int .i64 5,.string M,.int .i64 0,.int .i64 0,.int .i64 0,.int .i64 0,.string D,.slice ad2 1 c2] 28) := by rw [hw11]; exact r3.out.alloc _
   have p4 : Hid (Ob w11 w10.heap.size #[.string M,.slice (some ⟨fb,0,none⟩) 1 fc,.slice none 0 0,.slice none 0 0,.slice none 0 0,.slice none 0 0,.slice none 0 0,.slice none 0 0,.slice none 0 0,.slice none 0 0,.slice none 0 0] 51) := by rw [hw11]; exact Ob.new _ _ _
   have HB11 : Hid (Below W.heap.size W w11) := by rw [hw11]; exact HB10.out.alloc HB10.out.size _
   have HFC2 : Hid (∀ (j : Nat) (v : Value),(fA 5 X)[j]? = some v → w11.cell? ⟨fb,j,none⟩ = some v) := fun j v hj => by
    rw [hw11]
    exact ((Below.refl _ w10).alloc (Nat.le_refl _) _ |>.cell HFB.out.2).trans (HFC.out j v hj)
   have HFB2 : Hid (w9.heap.size ≤ fb ∧ fb < w11.heap.size) := ⟨HFB.out.1,by rw [hw11]; have := HFB.out.2; simp; omega⟩
   rw [← hw11]
   refine HQ.out _ _ ⟨.inr (show Hid (_ ∧ _) from ⟨p2.out,p3.out⟩),?_⟩
   clear HQ hw11 r1 r2 r3 HB10 HFC HFB
   obtain ⟨v',w',bs',hrun,hH,hgr,hbs,_⟩ := hd_append (T := 37) (t := 51) (sz := 11) Tryz.underlying37 Tryz.infoMsg rfl (by decide) (Hd.nil w11 51 11) (qs := [.st ((#[.string M,.slice (some ⟨fb,0,none⟩) 1 fc,.slice none 0 0,.slice none 0 0,.slice none 0 0,.slice none 0 0,.slice none 0 0,.slice none 0 0,.slice none 0 0,.slice none 0 0,.slice none 0 0] : Array Value).toList.map Pd.one)]) (cq := (#[.string M,.slice (some ⟨fb,0,none⟩) 1 fc,.slice none 0 0,.slice none 0 0,.slice none 0 0,.slice none 0 0,.slice none 0 0,.slice none 0 0,.slice none 0 0,.slice none 0 0,.slice none 0 0] : Array Value).toList) (bq := []) (by have := Hds.cons (Hd.st (w := w11) (hds_cells (w := w11) (cs := (#[.string M,.slice (some ⟨fb,0,none⟩) 1 fc,.slice none 0 0,.slice none 0 0,.slice none 0 0,.slice none 0 0,.slice none 0 0,.slice none 0 0,.slice none 0 0,.slice none 0 0,.slice none 0 0] : Array Value).toList) (by intro u hu; simp at hu; rcases hu with rfl | rfl | rfl <;> rfl))) .nil (by simp); simpa using this) (fun p hp => by rw [List.mem_singleton] at hp; subst hp; rfl) (by simp) 37 ⟨w10.heap.size,0,none⟩ 1 (fun j u hj => by
    have hp : (⟨w10.heap.size,0,none⟩ : Addr).add j = ⟨w10.heap.size,j,none⟩ := by unfold Addr.add; split <;> simp_all
    rw [hp]
    exact p4.out.cell j (by simpa using hj)) (by have := Tryz.bytesMsg; simp only [List.length_nil,List.length_singleton]; omega) (by simp; unfold maxLen; omega)
   obtain ⟨cs9,bi9,ho9,hs9,_,_,hbs9⟩ := hH.open_ls
   have hc9 : cs9 = (#[.string M,.slice (some ⟨fb,0,none⟩) 1 fc,.slice none 0 0,.slice none 0 0,.slice none 0 0,.slice none 0 0,.slice none 0 0,.slice none 0 0,.slice none 0 0,.slice none 0 0,.slice none 0 0] : Array Value).toList := by
    cases hs9 with
    | cons h1 h2 _ =>
     cases h1 with
     | st h1 =>
      cases h2
      rw [hds_cells_eq h1]
      simp
   obtain ⟨mb,mc,hv9,hmb,hcells⟩ : ∃ mb mc,v' = .slice (some ⟨mb,0,none⟩) 1 mc ∧ mb = w11.heap.size ∧ ∀ (j : Nat) (u : Value),(#[.string M,.slice (some ⟨fb,0,none⟩) 1 fc,.slice none 0 0,.slice none 0 0,.slice none 0 0,.slice none 0 0,.slice none 0 0,.slice none 0 0,.slice none 0 0,.slice none 0 0,.slice none 0 0] : Array Value)[j]? = some u → w'.cell? ⟨mb,j,none⟩ = some u := by
    rcases ho9.2 with ⟨_,h0⟩ | ⟨gg,cc,cur,rfl,hgg,hh,_,_,_,_⟩
    ·simp at h0
    ·refine ⟨gg,cc,by simp,?_,fun j u hj => ?_⟩
     ·rcases hbs gg (by rw [hbs9]; simp [Value.ownBlock]) with h | h | h
      ·simp at h
      ·simp at h
      ·exact h
     ·have hj2 : j < 11 := (Array.getElem?_eq_some_iff.1 hj).1
      rw [ho9.cellAt j (by simp; omega),hc9]
      simpa using hj
   subst hv9
   have HB' : Hid (Below W.heap.size W w') := HB11.out.trans ⟨hgr.os,hgr.tape,hgr.output,hgr.size,fun k hk => hgr.block k (Nat.lt_of_lt_of_le hk HB11.out.size) (by simp [Value.ownBlock])⟩
   have HBN : Below w11.heap.size w11 w' := ⟨hgr.os,hgr.tape,hgr.output,hgr.size,fun k hk => hgr.block k hk (by simp [Value.ownBlock])⟩
   have r1 : Hid (Ob w' (W.heap.size + 1) #[.string ⟨#[]⟩,.string ⟨#[]⟩,.slice none 0 0,.slice none 0 0,.slice none 0 0,.slice none 0 0,.slice none 0 0,.slice none 0 0,.string ⟨#[]⟩,.slice none 0 0,.slice none 0 0] 43) := p1.out.below HBN p1.out.lt
   have r2 : Hid (Ob w' w4.heap.size #[.string Z,.string ⟨#[]⟩,.slice none 0 0,.slice none 0 0,.slice none 0 0,.slice none 0 0,.slice none 0 0,.slice none 0 0,.string ⟨#[]⟩,.slice none 0 0,.slice none 0 0] 43) := p2.out.below HBN p2.out.lt
   have r3 : Hid (Ob w' w7.heap.size #[.int .i64 5,.string M,.int .i64 0,.int .i64 0,.int .i64 0,.int .i64 0,.string D,.slice ad2 1 c2] 28) := p3.out.below HBN p3.out.lt
   have HC : Hid (∀ (j : Nat) (u : Value),(#[.string M,.slice (some ⟨fb,0,none⟩) 1 fc,.slice none 0 0,.slice none 0 0,.slice none 0 0,.slice none 0 0,.slice none 0 0,.slice none 0 0,.slice none 0 0,.slice none 0 0,.slice none 0 0] : Array Value)[j]? = some u → w'.cell? ⟨mb,j,none⟩ = some u) := hcells
   have HFC3 : Hid (∀ (j : Nat) (v : Value),(fA 5 X)[j]? = some v → w'.cell? ⟨fb,j,none⟩ = some v) := fun j v hj => (HBN.cell HFB2.out.2).trans (HFC2.out j v hj)
   have HMB : Hid (w11.heap.size ≤ mb ∧ mb < w'.heap.size) := ⟨by omega,cell_lt7 (hcells 0 _ rfl)⟩
   have HFB3 : Hid (w9.heap.size ≤ fb ∧ fb < w'.heap.size) := ⟨HFB2.out.1,Nat.lt_of_lt_of_le HFB2.out.2 hgr.size⟩
   have HL1 : Hid (W.heap.size + 1 < w11.heap.size ∧ w4.heap.size < w11.heap.size ∧ W.heap.size ≤ w11.heap.size) := ⟨p1.out.lt,p2.out.lt,HB11.out.size⟩
   have HRUN : Hid _ := hrun
   clear hrun hH hgr hbs ho9 hs9 hc9 hbs9 hcells hmb HBN p1 p2 p3 p4 HB11 HFC2 HFB2
   refine wpAnyG_all (rs := [11]) (by kernel_rfl) (by simp) ?_
   intro i hi
   obtain rfl : i = 11 := by simpa using hi
   clear hi
   refine wpOp_one rfl ?_
   intro Q' hQ'
   have HQ : Hid _ := hQ'
   clear hQ'
   refine wpList_append_eq rfl _ _ 37 rfl rfl rfl HRUN.out ?_
   clear HRUN
   go_wp2_with fail
   refine HQ.out _ _ ⟨.inr (show Hid (_ ∧ _) from ⟨r2.out,r3.out⟩),?_⟩
   clear HQ
   refine wpAnyG_take (i := 12) (v := ?_) rfl (by kernel_rfl) (by kernel_rfl) (by kernel_rfl) (by kernel_rfl) (fun _ _ _ h => h) (Or.inl ⟨by rfl,?_⟩) (show Hid (_ ∧ _) from ⟨r2.out,r3.out⟩).out ?_
   rotate_left
   ·rintro V HV
    go_simp
    try with_reducible rfl
   have f1 := r2.out.cell 4 rfl
   have g1 := r2.out.frozen 4
   have l1 := r2.out.lt
   refine wpAnyG_all (rs := [13]) (by kernel_rfl) (by simp) ?_
   intro i hi
   obtain rfl : i = 13 := by simpa using hi
   clear hi
   refine wpOp_one rfl ?_
   intro Q' hQ'
   have HQ : Hid _ := hQ'
   clear hQ'
   go_wp2_with fail
   refine HQ.out _ _ ⟨.inl (by first | rfl | trivial),?_⟩
   clear HQ
   refine wpAnyG_done (by kernel_rfl) ?_ _
   obtain ⟨w12,hw12⟩ : ∃ w12,w12 = w'.setCell ⟨w4.heap.size,4,none⟩ (.slice (some ⟨mb,0,none⟩) 1 mc) := ⟨_,rfl⟩
   have HREL : Hid (∃ mb mc fb fc,Ob w12 (W.heap.size + 1) #[.string ⟨#[]⟩,.string ⟨#[]⟩,.slice none 0 0,.slice none 0 0,.slice none 0 0,.slice none 0 0,.slice none 0 0,.slice none 0 0,.string ⟨#[]⟩,.slice none 0 0,.slice none 0 0] 43 ∧ Ob w12 w4.heap.size #[.string Z,.string ⟨#[]⟩,.slice none 0 0,.slice none 0 0,.slice (some ⟨mb,0,none⟩) 1 mc,.slice none 0 0,.slice none 0 0,.slice none 0 0,.string ⟨#[]⟩,.slice none 0 0,.slice none 0 0] 43 ∧ Below W.heap.size W w12 ∧ W.heap.size ≤ mb ∧ mb ≠ W.heap.size + 1 ∧ mb < w12.heap.size ∧ W.heap.size ≤ fb ∧ fb ≠ W.heap.size + 1 ∧ fb < w12.heap.size ∧ (∀ (j : Nat) (v : Value),(mA M (.slice (some ⟨fb,0,none⟩) 1 fc))[j]? = some v → w12.cell? ⟨mb,j,none⟩ = some v) ∧ ∀ (j : Nat) (v : Value),(fA 5 X)[j]? = some v → w12.cell? ⟨fb,j,none⟩ = some v) := by
    obtain ⟨x1,x2⟩ := HMB.out
    obtain ⟨x3,x4⟩ := HFB3.out
    obtain ⟨x5,x6⟩ := HW9.out
    obtain ⟨x7,x8,x9⟩ := HL1.out
    have x10 := HFW.out
    refine ⟨mb,mc,fb,fc,?_,?_,?_,by omega,by omega,?_,by omega,by omega,?_,fun j v hj => ?_,fun j v hj => ?_⟩
    ·rw [hw12]; exact r1.out.other (by omega) _ _
    ·rw [hw12]; have := r2.out.set 4 (.slice (some ⟨mb,0,none⟩) 1 mc); simpa using this
    ·rw [hw12]; exact HB'.out.setCell (p := ⟨w4.heap.size,4,none⟩) (by show W.heap.size ≤ w4.heap.size; omega) _
    ·rw [hw12]; simpa using x2
    ·rw [hw12]; simpa using x4
    ·rw [hw12,cell_other _ _ _ _ _ (by omega)]
     exact HC.out j v (by simpa [mA] using hj)
    ·rw [hw12,cell_other _ _ _ _ _ (by omega)]
     exact HFC3.out j v hj
   rw [← hw12]
   clear hw12 r1 r2 r3 HB' HC HFC3 HFB3 HMB HW9 HL1 f1 g1 l1
   go_wp2
   go_roundw
   case rel => first | exact .inr ⟨rfl,HREL⟩ | ((repeat apply Exists.intro); exact ⟨.inr ⟨rfl,HREL⟩,rfl⟩)
   case measure => simp [intOf]
  ·obtain ⟨mb,mc,fb,fc,r1,r2,hbr,y1,y2,y3,y4,y5,y6,y7,y8⟩ := HR.out
   have HC : Hid (∀ (j : Nat) (v : Value),(mA M (.slice (some ⟨fb,0,none⟩) 1 fc))[j]? = some v → wr.cell? ⟨mb,j,none⟩ = some v) := y7
   have HC2 : Hid (∀ (j : Nat) (v : Value),(fA 5 X)[j]? = some v → wr.cell? ⟨fb,j,none⟩ = some v) := y8
   have HY : Hid (W.heap.size ≤ mb ∧ mb ≠ W.heap.size + 1 ∧ mb < wr.heap.size ∧ W.heap.size ≤ fb ∧ fb ≠ W.heap.size + 1 ∧ fb < wr.heap.size) := ⟨y1,y2,y3,y4,y5,y6⟩
   have HBR : Hid _ := hbr
   obtain ⟨⟨b0,b1,b2,b3,b4,b5,b6,b7,b8,b9,b10⟩,_,bl⟩ := ob11 r2
   obtain ⟨⟨c0,c1,c2',c3',c4',c5,c6,c7',c8,c9,c10⟩,⟨d0,d1,d2,d3,d4,d5,d6,d7,d8,d9,d10⟩,dl⟩ := ob11 r1
   have Q1 : Hid _ := r1
   clear HR r1 r2 hbr y1 y2 y3 y4 y5 y6 y7 y8 c7 cl
   go_wp2
   refine fil_ret (p := 6) ?_ (W.heap.size + 1) #[.string Z,.string ⟨#[]⟩,.slice none 0 0,.slice none 0 0,.slice (some ⟨mb,0,none⟩) 1 mc,.slice none 0 0,.slice none 0 0,.slice none 0 0,.string ⟨#[]⟩,.slice none 0 0,.slice none 0 0] rfl ?_ ?_ ?_ ?_
   ·rfl
   ·rfl
   rotate_left
   ·rfl
   rotate_left
   ·have := (((((((((((Q1.out.set 0 (.string Z)).set 1 (.string ⟨#[]⟩)).set 2 (.slice none 0 0)).set 3 (.slice none 0 0)).set 4 (.slice (some ⟨mb,0,none⟩) 1 mc)).set 5 (.slice none 0 0)).set 6 (.slice none 0 0)).set 7 (.slice none 0 0)).set 8 (.string ⟨#[]⟩)).set 9 (.slice none 0 0)).set 10 (.slice none 0 0))
    simpa using this
   ·obtain ⟨y1,y2,y3,y4,y5,y6⟩ := HY.out
    refine ⟨mb,mc,fb,fc,rfl,?_,⟨y1,y4⟩,?_,?_,fun j v hj => ?_,fun j v hj => ?_⟩
    ·exact (((((((((((HBR.out.setCell (p := ⟨W.heap.size + 1,0,none⟩) (by simp) _).setCell (p := ⟨W.heap.size + 1,1,none⟩) (by simp) _).setCell (p := ⟨W.heap.size + 1,2,none⟩) (by simp) _).setCell (p := ⟨W.heap.size + 1,3,none⟩) (by simp) _).setCell (p := ⟨W.heap.size + 1,4,none⟩) (by simp) _).setCell (p := ⟨W.heap.size + 1,5,none⟩) (by simp) _).setCell (p := ⟨W.heap.size + 1,6,none⟩) (by simp) _).setCell (p := ⟨W.heap.size + 1,7,none⟩) (by simp) _).setCell (p := ⟨W.heap.size + 1,8,none⟩) (by simp) _).setCell (p := ⟨W.heap.size + 1,9,none⟩) (by simp) _).setCell (p := ⟨W.heap.size + 1,10,none⟩) (by simp) _)
    ·simpa using y3
    ·simpa using y6
    ·rw [cell_other _ _ _ _ _ y2,cell_other _ _ _ _ _ y2,cell_other _ _ _ _ _ y2,cell_other _ _ _ _ _ y2,cell_other _ _ _ _ _ y2,cell_other _ _ _ _ _ y2,cell_other _ _ _ _ _ y2,cell_other _ _ _ _ _ y2,cell_other _ _ _ _ _ y2,cell_other _ _ _ _ _ y2,cell_other _ _ _ _ _ y2]
     exact HC.out j v hj
    ·rw [cell_other _ _ _ _ _ y5,cell_other _ _ _ _ _ y5,cell_other _ _ _ _ _ y5,cell_other _ _ _ _ _ y5,cell_other _ _ _ _ _ y5,cell_other _ _ _ _ _ y5,cell_other _ _ _ _ _ y5,cell_other _ _ _ _ _ y5,cell_other _ _ _ _ _ y5,cell_other _ _ _ _ _ y5,cell_other _ _ _ _ _ y5]
     exact HC2.out j v hj

end Go.Proofs.YtlekfcehmlepkaaGreatDoor
