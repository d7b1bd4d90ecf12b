/- Put together by a program out of these texts of mine: XMsg. -/
import Derived.Test.YtlekfcehmlepkaaGreatDoorBunD38

namespace Go.Proofs.YtlekfcehmlepkaaGreatDoor
open Go.RowKit
set_option linter.unusedVariables false
set_option linter.unusedSimpArgs false

theorem Tryz.bytesFld : ((Tryz.prog.info? 53).map (fun i => i.bytes)).getD 0 ≤ 1000 := of_decide_eq_true (show decide (((Tryz.prog.info? 53).map (fun i => i.bytes)).getD 0 ≤ 1000) = true from by kernel_rfl)

theorem Tryz.infoFld : (Tryz.prog.info? 53).map (fun i => (i.zero,i.size,i.bytes)) = some (some (.agg f0),13,((Tryz.prog.info? 53).map (fun i => i.bytes)).getD 0) := by kernel_rfl

theorem cell_other (w : World) (b j k : Nat) (v : Value) {b' : Nat} (h : b' ≠ b) : (w.setCell ⟨b,j,none⟩ v).cell? ⟨b',k,none⟩ = w.cell? ⟨b',k,none⟩ := by
 have := heap_setCell_other w ⟨b,j,none⟩ b' v (by simpa using h)
 simp [World.cell?,this]

theorem msg_ret {fn : Func} {R : Ending → World → Prop} {a : Act} {w : World} {p : Tmp} (h : fn.results = #[.cell p 51]) (gb : Nat) (cs : Array Value) (hs : cs.size = 11) (hp : a.tmps.getD p undef = .pointer (some ⟨gb,0,none⟩)) (hg : Ob w gb cs 51) (hd : a.defers = []) (hR : R (.returned (.agg cs)) w) : bodyPost Tryz.prog fn R .ret a w := by
 refine bodyPost_ret (v := .agg cs) ?_ hd hR
 have hp' : a.tmps[p]?.getD undef = .pointer (some ⟨gb,0,none⟩) := by simpa using hp
 have hl := run_loadVar_row (P := Tryz.prog) w gb 51 51 cs (0,0) _ hg.eq Tryz.underlying51 rfl (Tryz.sizeMsg.trans (by rw [hs]))
 simp [results,h,hp',asAddr,hl]

theorem hds_cells_eq {w : World} : ∀ {cs cq : List Value} {bs : List Nat},Hds w (cs.map Pd.one) cq bs → cq = cs
 | [],_,_,h => by cases h; rfl
 | c :: cs,_,_,h => by
  cases h with
  | cons h1 h2 _ =>
   cases h1
   rw [hds_cells_eq h2]
   rfl

set_option maxRecDepth 40000 in
set_option maxHeartbeats 8000000 in
theorem pmsg_a {w : World} {ad : Option Addr} {c : Nat} {ad2 : Option Addr} {c2 : Nat} {ad3 : Option Addr} {c3 : Nat} (h : TnOk w (tM ad c (tF ad2 c2 (tT ad3 c3)))) (W : World) (hT : Hid (LoTab W)) (hB : Below w.heap.size w W) {g : Nat} {av : Value} (hg : Ob W g #[.bool false,av] 69) {vp : Value} {bp : List Nat} (hp : Hd W (ipd [4,0]) [vp] bp) :
  Calls Tryz.prog 99 #[.pointer (some ⟨g,0,none⟩),(tM ad c (tF ad2 c2 (tT ad3 c3))).val,.string ⟨#[]⟩,vp] W fun e W' => ∃ fb fc,e = .returned (.agg (mA (strOfNums [65]) (.slice (some ⟨fb,0,none⟩) 1 fc))) ∧ Below W.heap.size W W' ∧ W.heap.size ≤ fb ∧ fb < W'.heap.size ∧ ∀ (j : Nat) (v : Value),(fA 5 (strOfNums [98]))[j]? = some v → W'.cell? ⟨fb,j,none⟩ = some v := by
 obtain ⟨kb,ko,rfl,hkl,hkc,hkok⟩ : ∃ kb ko,ad = some ⟨kb,ko,none⟩ ∧ kb < w.heap.size ∧ (∀ (j : Nat) (u : Value),(tF ad2 c2 (tT ad3 c3)).cells[j]? = some u → w.cell? ⟨kb,ko + j,none⟩ = some u) ∧ TnOk w (tF ad2 c2 (tT ad3 c3)) := by
  have h' := h
  unfold tM at h'
  cases h' with
  | mk _ _ _ _ _ _ _ _ _ _ _ _ hmem hkids =>
   obtain ⟨b,off,rfl,h1,h2⟩ := hmem (by simp)
   exact ⟨b,off,rfl,h1,fun j u hj => by simpa using h2 0 _ rfl j u hj,hkids 0 _ rfl⟩
 have QA : Hid (∀ V,Below W.heap.size W V → Calls Tryz.prog 98 #[.pointer (some ⟨g,0,none⟩),(tM (some ⟨kb,ko,none⟩) c (tF ad2 c2 (tT ad3 c3))).val,.string { data := #[77,101,115,115,97,103,101] },vp] V fun e W' => e = .returned (.tuple #[]) ∧ Below V.heap.size V W') := fun V hV => pask_a h rfl (of_decide_eq_true (by rfl)) rfl V (show Hid _ from hT.out.below hV (Nat.le_refl _)) (hB.trans (hV.mono hB.size)) _ _ _
 have QC : Hid (∀ V,Calls Tryz.prog 19 #[.string (strOfNums [65])] V fun e W' => e = .returned (.string (strOfNums [65])) ∧ Below V.heap.size V W') := fun V => pnclone_any _ V (by rw [strOfNums_size]; decide)
 have QJ : Hid (∀ V,Calls Tryz.prog 129 #[.string ⟨#[]⟩,.string (strOfNums [65])] V fun e W' => e = .returned (.string (strOfNums [65])) ∧ Below V.heap.size V W') := fun V => pjoin_any [] [65] V (show Hid _ from trivial) (by show byts _; unfold byts; decide) (by show byts _; unfold byts; decide) (by decide) (by decide)
 have QF : Hid (∀ V ps,Below W.heap.size W V → Calls Tryz.prog 130 #[.pointer (some ⟨g,0,none⟩),(tF ad2 c2 (tT ad3 c3)).val,.agg f0,ps] V fun e W' => e = .returned (.agg (fA 5 (strOfNums [98]))) ∧ Below V.heap.size V W') := fun V ps hV => pfield_a hkok V (show Hid _ from hT.out.below hV (Nat.le_refl _)) (hB.trans (hV.mono hB.size)) (hg.below hV hg.lt) ps
 have HP : Hid (∀ V,Below W.heap.size W V → Hd V (ipd [4,0]) [vp] bp) := fun V hV => hp.kept (row := none) ⟨hV.os,hV.tape,hV.output,hV.size,fun k hk _ => hV.block k hk⟩ (by simp)
 obtain ⟨pa,pc,rfl⟩ := ipd_slice hp
 have HK : Hid (∀ V,Below W.heap.size W V → ∀ (j : Nat) (u : Value),(tF ad2 c2 (tT ad3 c3)).cells[j]? = some u → V.cell? ⟨kb,ko + j,none⟩ = some u) := fun V hV j u hj => ((hB.trans (hV.mono hB.size)).cell hkl).trans (hkc j u hj)
 have HKL : Hid (kb < W.heap.size) := Nat.lt_of_lt_of_le hkl hB.size
 unfold tM tF Tn.val Tn.cells at QA
 unfold tF Tn.val Tn.cells at QF
 unfold tF Tn.cells at HK
 unfold tM Tn.val Tn.cells
 simp only [List.length_cons,List.length_nil,Nat.zero_add,f0] at QA QF HK ⊢
 obtain ⟨M,HM⟩ : ∃ M,Hid (M = strOfNums [65]) := ⟨_,rfl⟩
 obtain ⟨X,HX⟩ : ∃ X,Hid (X = strOfNums [98]) := ⟨_,rfl⟩
 obtain ⟨D,HD⟩ : ∃ D,Hid (D = strOfNums []) := ⟨_,rfl⟩
 simp only [← HM.out,← HX.out,← HD.out] at QA QC QJ QF HK ⊢
 clear h hB hkl hkc hg hT hkok hp
 obtain ⟨w2,hw2⟩ : ∃ w2,w2 = (W.alloc (.cells #[.int .i64 5,.string M,.int .i64 0,.int .i64 0,.int .i64 0,.int .i64 0,.string D,.slice (some ⟨kb,ko,none⟩) 1 c] 28)).alloc (.cells #[.string ⟨#[]⟩,.slice none 0 0,.slice none 0 0,.slice none 0 0,.slice none 0 0,.slice none 0 0,.slice none 0 0,.slice none 0 0,.slice none 0 0,.slice none 0 0,.slice none 0 0] 51) := ⟨_,rfl⟩
 have o0 : Hid (Ob w2 W.heap.size #[.int .i64 5,.string M,.int .i64 0,.int .i64 0,.int .i64 0,.int .i64 0,.string D,.slice (some ⟨kb,ko,none⟩) 1 c] 28) := by rw [hw2]; exact (Ob.new W _ _).alloc _
 have o1 : Hid (Ob w2 (W.heap.size + 1) #[.string ⟨#[]⟩,.slice none 0 0,.slice none 0 0,.slice none 0 0,.slice none 0 0,.slice none 0 0,.slice none 0 0,.slice none 0 0,.slice none 0 0,.slice none 0 0,.slice none 0 0] 51) := by
  rw [hw2]
  have := Ob.new (W.alloc (.cells #[.int .i64 5,.string M,.int .i64 0,.int .i64 0,.int .i64 0,.int .i64 0,.string D,.slice (some ⟨kb,ko,none⟩) 1 c] 28)) #[.string ⟨#[]⟩,.slice none 0 0,.slice none 0 0,.slice none 0 0,.slice none 0 0,.slice none 0 0,.slice none 0 0,.slice none 0 0,.slice none 0 0,.slice none 0 0,.slice none 0 0] 51
  show Ob _ _ _ _
  simpa using this
 have HB2 : Hid (Below W.heap.size W w2) := by rw [hw2]; exact ((Below.refl _ W).alloc (Nat.le_refl _) _).alloc (by simp) _
 have HW2 : Hid _ := hw2
 clear hw2
 go_enter Tryz.func99,Tryz.ntmps99
 go_upto_region 1 with fail
 rw [← HW2.out]
 clear HW2
 have c1 := o0.out.cell 1 rfl
 have cl := o0.out.lt
 have QC2 : Hid _ := QC.out w2
 go_wp2_with fail
 refine Calls.mono QC2.out ?_
 rintro e w3 ⟨rfl,hb3⟩
 clear QC2 QC c1 cl
 have p0 : Hid (Ob w3 W.heap.size #[.int .i64 5,.string M,.int .i64 0,.int .i64 0,.int .i64 0,.int .i64 0,.string D,.slice (some ⟨kb,ko,none⟩) 1 c] 28) := o0.out.below hb3 o0.out.lt
 have p1 : Hid (Ob w3 (W.heap.size + 1) #[.string ⟨#[]⟩,.slice none 0 0,.slice none 0 0,.slice none 0 0,.slice none 0 0,.slice none 0 0,.slice none 0 0,.slice none 0 0,.slice none 0 0,.slice none 0 0,.slice none 0 0] 51) := o1.out.below hb3 o1.out.lt
 have HB3 : Hid (Below W.heap.size W w3) := HB2.out.trans (hb3.mono HB2.out.size)
 clear hb3 o0 o1 HB2
 go_upto_region 2 with fail
 obtain ⟨w4,hw4⟩ : ∃ w4,w4 = w3.alloc (.cells #[.string M,.slice none 0 0,.slice none 0 0,.slice none 0 0,.slice none 0 0,.slice none 0 0,.slice none 0 0,.slice none 0 0,.slice none 0 0,.slice none 0 0,.slice none 0 0] 51) := ⟨_,rfl⟩
 have q0 : Hid (Ob w4 W.heap.size #[.int .i64 5,.string M,.int .i64 0,.int .i64 0,.int .i64 0,.int .i64 0,.string D,.slice (some ⟨kb,ko,none⟩) 1 c] 28) := by rw [hw4]; exact p0.out.alloc _
 have q1 : Hid (Ob w4 (W.heap.size + 1) #[.string ⟨#[]⟩,.slice none 0 0,.slice none 0 0,.slice none 0 0,.slice none 0 0,.slice none 0 0,.slice none 0 0,.slice none 0 0,.slice none 0 0,.slice none 0 0,.slice none 0 0] 51) := by rw [hw4]; exact p1.out.alloc _
 have q2 : Hid (Ob w4 w3.heap.size #[.string M,.slice none 0 0,.slice none 0 0,.slice none 0 0,.slice none 0 0,.slice none 0 0,.slice none 0 0,.slice none 0 0,.slice none 0 0,.slice none 0 0,.slice none 0 0] 51) := by rw [hw4]; exact Ob.new _ _ _
 have HB4 : Hid (Below W.heap.size W w4) := by rw [hw4]; exact HB3.out.alloc HB3.out.size _
 have HMW : Hid (W.heap.size + 1 < w3.heap.size) := p1.out.lt
 rw [← hw4]
 clear hw4 p0 p1 HB3
 have c1 := q0.out.cell 1 rfl
 have cl := q0.out.lt
 have QJ4 : Hid _ := QJ.out w4
 go_wp2_with fail
 refine Calls.mono QJ4.out ?_
 rintro e w5 ⟨rfl,hb5⟩
 clear QJ4 QJ c1 cl
 have p0 : Hid (Ob w5 W.heap.size #[.int .i64 5,.string M,.int .i64 0,.int .i64 0,.int .i64 0,.int .i64 0,.string D,.slice (some ⟨kb,ko,none⟩) 1 c] 28) := q0.out.below hb5 q0.out.lt
 have p1 : Hid (Ob w5 (W.heap.size + 1) #[.string ⟨#[]⟩,.slice none 0 0,.slice none 0 0,.slice none 0 0,.slice none 0 0,.slice none 0 0,.slice none 0 0,.slice none 0 0,.slice none 0 0,.slice none 0 0,.slice none 0 0] 51) := q1.out.below hb5 q1.out.lt
 have p2 : Hid (Ob w5 w3.heap.size #[.string M,.slice none 0 0,.slice none 0 0,.slice none 0 0,.slice none 0 0,.slice none 0 0,.slice none 0 0,.slice none 0 0,.slice none 0 0,.slice none 0 0,.slice none 0 0] 51) := q2.out.below hb5 q2.out.lt
 have HB5 : Hid (Below W.heap.size W w5) := HB4.out.trans (hb5.mono HB4.out.size)
 clear hb5 q0 q1 q2 HB4
 go_upto_region 3 with fail
 obtain ⟨⟨a0,a1,a2,a3,a4,a5,a6,a7⟩,_,al⟩ := ob8 p0.out
 have QA5 : Hid _ := QA.out w5 HB5.out
 go_wp2_with fail
 refine Calls.mono QA5.out ?_
 rintro e w6 ⟨rfl,hb6⟩
 clear QA5 QA a0 a1 a2 a3 a4 a5 a6 a7 al
 have q0 : Hid (Ob w6 W.heap.size #[.int .i64 5,.string M,.int .i64 0,.int .i64 0,.int .i64 0,.int .i64 0,.string D,.slice (some ⟨kb,ko,none⟩) 1 c] 28) := p0.out.below hb6 p0.out.lt
 have q1 : Hid (Ob w6 (W.heap.size + 1) #[.string ⟨#[]⟩,.slice none 0 0,.slice none 0 0,.slice none 0 0,.slice none 0 0,.slice none 0 0,.slice none 0 0,.slice none 0 0,.slice none 0 0,.slice none 0 0,.slice none 0 0] 51) := p1.out.below hb6 p1.out.lt
 have q2 : Hid (Ob w6 w3.heap.size #[.string M,.slice none 0 0,.slice none 0 0,.slice none 0 0,.slice none 0 0,.slice none 0 0,.slice none 0 0,.slice none 0 0,.slice none 0 0,.slice none 0 0,.slice none 0 0] 51) := p2.out.below hb6 p2.out.lt
 have HB6 : Hid (Below W.heap.size W w6) := HB5.out.trans (hb6.mono HB5.out.size)
 clear hb6 p0 p1 p2 HB5
 have c7 := q0.out.cell 7 rfl
 have cl := q0.out.lt
 go_wp2
 go_loopw [30] (fun v wr => (v = .int .i64 0 ∧ w6 = wr) ∨ (v = .int .i64 1 ∧ Hid (∃ fb fc,Ob wr (W.heap.size + 1) #[.string ⟨#[]⟩,.slice none 0 0,.slice none 0 0,.slice none 0 0,.slice none 0 0,.slice none 0 0,.slice none 0 0,.slice none 0 0,.slice none 0 0,.slice none 0 0,.slice none 0 0] 51 ∧ Ob wr w3.heap.size #[.string M,.slice (some ⟨fb,0,none⟩) 1 fc,.slice none 0 0,.slice none 0 0,.slice none 0 0,.slice none 0 0,.slice none 0 0,.slice none 0 0,.slice none 0 0,.slice none 0 0,.slice none 0 0] 51 ∧ Below W.heap.size W wr ∧ W.heap.size ≤ fb ∧ fb ≠ w3.heap.size ∧ fb ≠ W.heap.size + 1 ∧ fb < wr.heap.size ∧ ∀ (j : Nat) (v : Value),(fA 5 X)[j]? = some v → wr.cell? ⟨fb,j,none⟩ = some v))) (fun v _ => 1 - (intOf v).toNat)
 case atStart => exact .inl ⟨rfl,rfl⟩
 case round =>
  rcases hrel with ⟨rfl,rfl⟩ | ⟨rfl,HR⟩
  ·have k0 := HK.out w6 HB6.out 0 _ rfl
   have k1 := HK.out w6 HB6.out 1 _ rfl
   have k2 := HK.out w6 HB6.out 2 _ rfl
   have k3 := HK.out w6 HB6.out 3 _ rfl
   have k4 := HK.out w6 HB6.out 4 _ rfl
   have k5 := HK.out w6 HB6.out 5 _ rfl
   have k6 := HK.out w6 HB6.out 6 _ rfl
   have k7 := HK.out w6 HB6.out 7 _ rfl
   rw [Nat.add_zero] at k0
   have kl : kb < w6.heap.size := Nat.lt_of_lt_of_le HKL.out HB6.out.size
   obtain ⟨w7,hw7⟩ : ∃ w7,w7 = w6.alloc (.cells #[.int .i64 9,.string X,.int .i64 1,.int .i64 0,.int .i64 1,.int .i64 12,.string D,.slice ad2 1 c2] 28) := ⟨_,rfl⟩
   have r1 : Hid (Ob w7 (W.heap.size + 1) #[.string ⟨#[]⟩,.slice none 0 0,.slice none 0 0,.slice none 0 0,.slice none 0 0,.slice none 0 0,.slice none 0 0,.slice none 0 0,.slice none 0 0,.slice none 0 0,.slice none 0 0] 51) := by rw [hw7]; exact q1.out.alloc _
   have r2 : Hid (Ob w7 w3.heap.size #[.string M,.slice none 0 0,.slice none 0 0,.slice none 0 0,.slice none 0 0,.slice none 0 0,.slice none 0 0,.slice none 0 0,.slice none 0 0,.slice none 0 0,.slice none 0 0] 51) := by rw [hw7]; exact q2.out.alloc _
   have r3 : Hid (Ob w7 w6.heap.size #[.int .i64 9,.string X,.int .i64 1,.int .i64 0,.int .i64 1,.int .i64 12,.string D,.slice ad2 1 c2] 28) := by rw [hw7]; exact Ob.new _ _ _
   have HB7 : Hid (Below W.heap.size W w7) := by rw [hw7]; exact HB6.out.alloc HB6.out.size _
   have HM6 : Hid (w3.heap.size < w6.heap.size) := q2.out.lt
   go_upto_region 9 with fail
   rw [← hw7]
   clear hw7 k0 k1 k2 k3 k4 k5 k6 k7 kl c7 cl q0 q1 q2 HB6
   refine wp_region_heldG 15 (S := fun V => Hid (Ob V w3.heap.size #[.string M,.slice none 0 0,.slice none 0 0,.slice none 0 0,.slice none 0 0,.slice none 0 0,.slice none 0 0,.slice none 0 0,.slice none 0 0,.slice none 0 0,.slice none 0 0] 51 ∧ Ob V w6.heap.size #[.int .i64 9,.string X,.int .i64 1,.int .i64 0,.int .i64 1,.int .i64 12,.string D,.slice ad2 1 c2] 28)) rfl ?_
   obtain ⟨w7d,hw7d⟩ : ∃ w7d,w7d = w7.drew := ⟨_,rfl⟩
   have s1 : Hid (Ob w7d (W.heap.size + 1) #[.string ⟨#[]⟩,.slice none 0 0,.slice none 0 0,.slice none 0 0,.slice none 0 0,.slice none 0 0,.slice none 0 0,.slice none 0 0,.slice none 0 0,.slice none 0 0,.slice none 0 0] 51) := by rw [hw7d]; exact r1.out.drew
   have s2 : Hid (Ob w7d w3.heap.size #[.string M,.slice none 0 0,.slice none 0 0,.slice none 0 0,.slice none 0 0,.slice none 0 0,.slice none 0 0,.slice none 0 0,.slice none 0 0,.slice none 0 0,.slice none 0 0] 51) := by rw [hw7d]; exact r2.out.drew
   have s3 : Hid (Ob w7d w6.heap.size #[.int .i64 9,.string X,.int .i64 1,.int .i64 0,.int .i64 1,.int .i64 12,.string D,.slice ad2 1 c2] 28) := by rw [hw7d]; exact r3.out.drew
   have HB7d : Hid (Below W.heap.size W w7d) := by rw [hw7d]; exact HB7.out.drew
   rw [← hw7d]
   clear hw7d r1 r2 r3 HB7
   have HS0 : Hid _ := (show Hid (_ ∧ _) from ⟨s2.out,s3.out⟩)
   refine wpAnyG_take (i := 0) (v := ?_) rfl (by kernel_rfl) (by kernel_rfl) (by kernel_rfl) (by kernel_rfl) (fun _ _ _ h => h) (Or.inl ⟨by rfl,?_⟩) HS0.out ?_
   rotate_left
   ·rintro V HV
    go_simp
    try with_reducible rfl
   refine wpAnyG_take (i := 1) (v := ?_) rfl (by kernel_rfl) (by kernel_rfl) (by kernel_rfl) (by kernel_rfl) (fun _ _ _ h => h) (Or.inl ⟨by rfl,?_⟩) HS0.out ?_
   rotate_left
   ·rintro V HV
    have z1 := HV.out.1.cell 1 rfl
    go_simp
    try with_reducible rfl
   refine wpAnyG_take (i := 2) (v := ?_) rfl (by kernel_rfl) (by kernel_rfl) (by kernel_rfl) (by kernel_rfl) (fun _ _ _ h => h) (Or.inl ⟨by rfl,?_⟩) HS0.out ?_
   rotate_left
   ·rintro V HV
    go_simp
    try with_reducible rfl
   refine wpAnyG_take (i := 3) (v := ?_) rfl (by kernel_rfl) (by kernel_rfl) (by kernel_rfl) (by kernel_rfl) (fun _ _ _ h => h) (Or.inl ⟨by rfl,?_⟩) HS0.out ?_
   rotate_left
   ·rintro V HV
    obtain ⟨⟨z0,z1,z2,z3,z4,z5,z6,z7⟩,_,zl⟩ := ob8 HV.out.2
    go_simp
    try with_reducible rfl
   refine wpAnyG_take (i := 4) (v := ?_) rfl (by kernel_rfl) (by kernel_rfl) (by kernel_rfl) (by kernel_rfl) (fun _ _ _ h => h) (Or.inl ⟨by rfl,?_⟩) HS0.out ?_
   rotate_left
   ·rintro V HV
    go_simp
    try with_reducible rfl
   refine wpAnyG_take (i := 5) (v := ?_) rfl (by kernel_rfl) (by kernel_rfl) (by kernel_rfl) (by kernel_rfl) (fun _ _ _ h => h) (Or.inl ⟨by rfl,?_⟩) HS0.out ?_
   rotate_left
   ·rintro V HV
    go_simp
    try with_reducible rfl
   refine wpAnyG_take (i := 6) (v := ?_) rfl (by kernel_rfl) (by kernel_rfl) (by kernel_rfl) (by kernel_rfl) (fun _ _ _ h => h) (Or.inl ⟨by rfl,?_⟩) HS0.out ?_
   rotate_left
   ·rintro V HV
    go_simp
    try with_reducible rfl
   refine wpAnyG_take (i := 7) (v := ?_) rfl (by kernel_rfl) (by kernel_rfl) (by kernel_rfl) (by kernel_rfl) (fun _ _ _ h => h) (Or.inl ⟨by rfl,?_⟩) HS0.out ?_
   rotate_left
   ·rintro V HV
    have z1 := HV.out.1.cell 1 rfl
    go_simp
    try with_reducible rfl
   refine wpAnyG_take (i := 8) (v := ?_) rfl (by kernel_rfl) (by kernel_rfl) (by kernel_rfl) (by kernel_rfl) (fun _ _ _ h => h) (Or.inl ⟨by rfl,?_⟩) HS0.out ?_
   rotate_left
   ·rintro V HV
    go_simp
    try with_reducible rfl
   refine wpAnyG_all (rs := [9]) (by kernel_rfl) (by simp) ?_
   intro i hi
   obtain rfl : i = 9 := by simpa using hi
   clear hi
   refine wpOp_one rfl ?_
   intro Q' hQ'
   have HQ : Hid _ := hQ'
   clear hQ'
   go_wp2_with fail
   obtain ⟨w8,hw8⟩ : ∃ w8,w8 = w7d.alloc (.cells #[.int .i64 2,.int .i64 0] 3) := ⟨_,rfl⟩
   have p1 : Hid (Ob w8 (W.heap.size + 1) #[.string ⟨#[]⟩,.slice none 0 0,.slice none 0 0,.slice none 0 0,.slice none 0 0,.slice none 0 0,.slice none 0 0,.slice none 0 0,.slice none 0 0,.slice none 0 0,.slice none 0 0] 51) := by rw [hw8]; exact s1.out.alloc _
   have p2 : Hid (Ob w8 w3.heap.size #[.string M,.slice none 0 0,.slice none 0 0,.slice none 0 0,.slice none 0 0,.slice none 0 0,.slice none 0 0,.slice none 0 0,.slice none 0 0,.slice none 0 0,.slice none 0 0] 51) := by rw [hw8]; exact s2.out.alloc _
   have p3 : Hid (Ob w8 w6.heap.size #[.int .i64 9,.string X,.int .i64 1,.int .i64 0,.int .i64 1,.int .i64 12,.string D,.slice ad2 1 c2] 28) := by rw [hw8]; exact s3.out.alloc _
   have p4 : Hid (Ob w8 w7d.heap.size #[.int .i64 2,.int .i64 0] 3) := by rw [hw8]; exact Ob.new _ _ _
   have HB8 : Hid (Below W.heap.size W w8) := by rw [hw8]; exact HB7d.out.alloc HB7d.out.size _
   rw [← hw8]
   refine HQ.out _ _ ⟨.inr (show Hid (_ ∧ _) from ⟨p2.out,p3.out⟩),?_⟩
   clear HQ hw8 HS0 s1 s2 s3 HB7d
   refine wpAnyG_all (rs := [10]) (by kernel_rfl) (by simp) ?_
   intro i hi
   obtain rfl : i = 10 := by simpa using hi
   clear hi
   refine wpOp_one rfl ?_
   intro Q' hQ'
   have HQ : Hid _ := hQ'
   clear hQ'
   have QP : Hid _ := pplace_any (p := [4,0]) (q := [2,0]) (show Hid _ from HP.out w8 HB8.out) (show Hid _ from ipd_block [2,0] p4.out.eq (by decide)) (by decide) (by decide)
   simp only [List.length_cons,List.length_nil,Nat.zero_add] at QP
   go_wp2_with fail
   refine Calls.mono QP.out ?_
   rintro e w9 ⟨v9,b9,rfl,hH9,_,hb9⟩
   obtain ⟨ya,yc,rfl⟩ := ipd_slice hH9
   have r1 : Hid (Ob w9 (W.heap.size + 1) #[.string ⟨#[]⟩,.slice none 0 0,.slice none 0 0,.slice none 0 0,.slice none 0 0,.slice none 0 0,.slice none 0 0,.slice none 0 0,.slice none 0 0,.slice none 0 0,.slice none 0 0] 51) := p1.out.below hb9 p1.out.lt
   have r2 : Hid (Ob w9 w3.heap.size #[.string M,.slice none 0 0,.slice none 0 0,.slice none 0 0,.slice none 0 0,.slice none 0 0,.slice none 0 0,.slice none 0 0,.slice none 0 0,.slice none 0 0,.slice none 0 0] 51) := p2.out.below hb9 p2.out.lt
   have r3 : Hid (Ob w9 w6.heap.size #[.int .i64 9,.string X,.int .i64 1,.int .i64 0,.int .i64 1,.int .i64 12,.string D,.slice ad2 1 c2] 28) := p3.out.below hb9 p3.out.lt
   have HB9 : Hid (Below W.heap.size W w9) := HB8.out.trans (hb9.mono HB8.out.size)
   clear hb9 hH9 p1 p2 p3 p4 HB8 QP
   go_wp2_with fail
   refine HQ.out _ _ ⟨.inr (show Hid (_ ∧ _) from ⟨r2.out,r3.out⟩),?_⟩
   clear HQ
   refine wpAnyG_all (rs := [11]) (by kernel_rfl) (by simp) ?_
   intro i hi
   obtain rfl : i = 11 := by simpa using hi
   clear hi
   refine wpOp_one rfl ?_
   intro Q' hQ'
   have HQ : Hid _ := hQ'
   clear hQ'
   have QF9 : Hid _ := QF.out w9 (.slice ya 4 yc) HB9.out
   simp only [fA,← HX.out] at QF9
   go_wp2_with fail
   refine Calls.mono QF9.out ?_
   rintro e w10 ⟨rfl,hb10⟩
   have p1 : Hid (Ob w10 (W.heap.size + 1) #[.string ⟨#[]⟩,.slice none 0 0,.slice none 0 0,.slice none 0 0,.slice none 0 0,.slice none 0 0,.slice none 0 0,.slice none 0 0,.slice none 0 0,.slice none 0 0,.slice none 0 0] 51) := r1.out.below hb10 r1.out.lt
   have p2 : Hid (Ob w10 w3.heap.size #[.string M,.slice none 0 0,.slice none 0 0,.slice none 0 0,.slice none 0 0,.slice none 0 0,.slice none 0 0,.slice none 0 0,.slice none 0 0,.slice none 0 0,.slice none 0 0] 51) := r2.out.below hb10 r2.out.lt
   have p3 : Hid (Ob w10 w6.heap.size #[.int .i64 9,.string X,.int .i64 1,.int .i64 0,.int .i64 1,.int .i64 12,.string D,.slice ad2 1 c2] 28) := r3.out.below hb10 r3.out.lt
   have HB10 : Hid (Below W.heap.size W w10) := HB9.out.trans (hb10.mono HB9.out.size)
   clear hb10 r1 r2 r3 HB9 QF9 QF
   go_wp2_with fail
   refine HQ.out _ _ ⟨.inr (show Hid (_ ∧ _) from ⟨p2.out,p3.out⟩),?_⟩
   clear HQ
   refine wpAnyG_all (rs := [12]) (by kernel_rfl) (by simp) ?_
   intro i hi
   obtain rfl : i = 12 := by simpa using hi
   clear hi
   refine wpOp_one rfl ?_
   intro Q' hQ'
   have HQ : Hid _ := hQ'
   clear hQ'
   go_wp2_with fail
   obtain ⟨w11,hw11⟩ : ∃ w11,w11 = w10.alloc (.cells #[.string X,.int .i64 1,.int .i64 1,.int .i64 5,.string ⟨#[]⟩,.string ⟨#[]⟩,.string ⟨#[]⟩,.bool false,.int .i64 0,.string X,.bool false,.slice none 0 0,.slice none 0 0] 53) := ⟨_,rfl⟩
   have r1 : Hid (Ob w11 (W.heap.size + 1) #[.string ⟨#[]⟩,.slice none 0 0,.slice none 0 0,.slice none 0 0,.slice none 0 0,.slice none 0 0,.slice none 0 0,.slice none 0 0,.slice none 0 0,.slice none 0 0,.slice none 0 0] 51) := by rw [hw11]; exact p1.out.alloc _
   have r2 : Hid (Ob w11 w3.heap.size #[.string M,.slice none 0 0,.slice none 0 0,.slice none 0 0,.slice none 0 0,.slice none 0 0,.slice none 0 0,.slice none 0 0,.slice none 0 0,.slice none 0 0,.slice none 0 0] 51) := by rw [hw11]; exact p2.out.alloc _
   have r3 : Hid (Ob w11 w6.heap.size #[.int .i64 9,.string X,.int .i64 1,.int .i64 0,.int .i64 1,.int .i64 12,.string D,.slice ad2 1 c2] 28) := by rw [hw11]; exact p3.out.alloc _
   have r4 : Hid (Ob w11 w10.heap.size #[.string X,.int .i64 1,.int .i64 1,.int .i64 5,.string ⟨#[]⟩,.string ⟨#[]⟩,.string ⟨#[]⟩,.bool false,.int .i64 0,.string X,.bool false,.slice none 0 0,.slice none 0 0] 53) := by rw [hw11]; exact Ob.new _ _ _
   have HB11 : Hid (Below W.heap.size W w11) := by rw [hw11]; exact HB10.out.alloc HB10.out.size _
   rw [← hw11]
   refine HQ.out _ _ ⟨.inr (show Hid (_ ∧ _) from ⟨r2.out,r3.out⟩),?_⟩
   clear HQ hw11 p1 p2 p3 HB10
   obtain ⟨v',w',bs',hrun,hH,hgr,hbs,_⟩ := hd_append (T := 40) (t := 53) (sz := 13) Tryz.underlying40 Tryz.infoFld rfl (by decide) (Hd.nil w11 53 13) (qs := [.st ((#[.string X,.int .i64 1,.int .i64 1,.int .i64 5,.string ⟨#[]⟩,.string ⟨#[]⟩,.string ⟨#[]⟩,.bool false,.int .i64 0,.string X,.bool false,.slice none 0 0,.slice none 0 0] : Array Value).toList.map Pd.one)]) (cq := (#[.string X,.int .i64 1,.int .i64 1,.int .i64 5,.string ⟨#[]⟩,.string ⟨#[]⟩,.string ⟨#[]⟩,.bool false,.int .i64 0,.string X,.bool false,.slice none 0 0,.slice none 0 0] : Array Value).toList) (bq := []) (by have := Hds.cons (Hd.st (w := w11) (hds_cells (w := w11) (cs := (#[.string X,.int .i64 1,.int .i64 1,.int .i64 5,.string ⟨#[]⟩,.string ⟨#[]⟩,.string ⟨#[]⟩,.bool false,.int .i64 0,.string X,.bool false,.slice none 0 0,.slice none 0 0] : Array Value).toList) (by intro u hu; simp at hu; rcases hu with rfl | rfl | rfl | rfl | rfl | rfl | rfl | rfl | rfl | rfl | rfl <;> rfl))) .nil (by simp); simpa using this) (fun p hp => by rw [List.mem_singleton] at hp; subst hp; rfl) (by simp) 40 ⟨w10.heap.size,0,none⟩ 1 (fun j u hj => by
    have hp : (⟨w10.heap.size,0,none⟩ : Addr).add j = ⟨w10.heap.size,j,none⟩ := by unfold Addr.add; split <;> simp_all
    rw [hp]
    exact r4.out.cell j (by simpa using hj)) (by have := Tryz.bytesFld; simp only [List.length_nil,List.length_singleton]; omega) (by simp; unfold maxLen; omega)
   obtain ⟨cs9,bi9,ho9,hs9,_,_,hbs9⟩ := hH.open_ls
   have hc9 : cs9 = (#[.string X,.int .i64 1,.int .i64 1,.int .i64 5,.string ⟨#[]⟩,.string ⟨#[]⟩,.string ⟨#[]⟩,.bool false,.int .i64 0,.string X,.bool false,.slice none 0 0,.slice none 0 0] : Array Value).toList := by
    cases hs9 with
    | cons h1 h2 _ =>
     cases h1 with
     | st h1 =>
      cases h2
      rw [hds_cells_eq h1]
      simp
   obtain ⟨fb,fc,hv9,hfb,hcells⟩ : ∃ fb fc,v' = .slice (some ⟨fb,0,none⟩) 1 fc ∧ fb = w11.heap.size ∧ ∀ (j : Nat) (u : Value),(#[.string X,.int .i64 1,.int .i64 1,.int .i64 5,.string ⟨#[]⟩,.string ⟨#[]⟩,.string ⟨#[]⟩,.bool false,.int .i64 0,.string X,.bool false,.slice none 0 0,.slice none 0 0] : Array Value)[j]? = some u → w'.cell? ⟨fb,j,none⟩ = some u := by
    rcases ho9.2 with ⟨_,h0⟩ | ⟨gg,cc,cur,rfl,hgg,hh,_,_,_,_⟩
    ·simp at h0
    ·refine ⟨gg,cc,by simp,?_,fun j u hj => ?_⟩
     ·rcases hbs gg (by rw [hbs9]; simp [Value.ownBlock]) with h | h | h
      ·simp at h
      ·simp at h
      ·exact h
     ·have hj2 : j < 13 := (Array.getElem?_eq_some_iff.1 hj).1
      rw [ho9.cellAt j (by simp; omega),hc9]
      simpa using hj
   subst hv9
   have HB' : Hid (Below W.heap.size W w') := HB11.out.trans ⟨hgr.os,hgr.tape,hgr.output,hgr.size,fun k hk => hgr.block k (Nat.lt_of_lt_of_le hk HB11.out.size) (by simp [Value.ownBlock])⟩
   have HBN : Below w11.heap.size w11 w' := ⟨hgr.os,hgr.tape,hgr.output,hgr.size,fun k hk => hgr.block k hk (by simp [Value.ownBlock])⟩
   have p1 : Hid (Ob w' (W.heap.size + 1) #[.string ⟨#[]⟩,.slice none 0 0,.slice none 0 0,.slice none 0 0,.slice none 0 0,.slice none 0 0,.slice none 0 0,.slice none 0 0,.slice none 0 0,.slice none 0 0,.slice none 0 0] 51) := r1.out.below HBN r1.out.lt
   have p2 : Hid (Ob w' w3.heap.size #[.string M,.slice none 0 0,.slice none 0 0,.slice none 0 0,.slice none 0 0,.slice none 0 0,.slice none 0 0,.slice none 0 0,.slice none 0 0,.slice none 0 0,.slice none 0 0] 51) := r2.out.below HBN r2.out.lt
   have p3 : Hid (Ob w' w6.heap.size #[.int .i64 9,.string X,.int .i64 1,.int .i64 0,.int .i64 1,.int .i64 12,.string D,.slice ad2 1 c2] 28) := r3.out.below HBN r3.out.lt
   have HC : Hid (∀ (j : Nat) (u : Value),(#[.string X,.int .i64 1,.int .i64 1,.int .i64 5,.string ⟨#[]⟩,.string ⟨#[]⟩,.string ⟨#[]⟩,.bool false,.int .i64 0,.string X,.bool false,.slice none 0 0,.slice none 0 0] : Array Value)[j]? = some u → w'.cell? ⟨fb,j,none⟩ = some u) := hcells
   have HFB : Hid (w11.heap.size ≤ fb) := by show _ ≤ _; omega
   have HFL : Hid (fb < w'.heap.size) := by
    have := hcells 0 _ rfl
    exact cell_lt7 this
   have HMB : Hid (w3.heap.size < w11.heap.size) := r2.out.lt
   have HMB1 : Hid (W.heap.size + 1 < w11.heap.size) := r1.out.lt
   have HRUN : Hid _ := hrun
   have HBW : Hid (W.heap.size ≤ w11.heap.size) := HB11.out.size
   clear hrun hH hgr hbs ho9 hs9 hc9 hbs9 hcells hfb HBN r1 r2 r3 r4 HB11
   refine wpAnyG_all (rs := [13]) (by kernel_rfl) (by simp) ?_
   intro i hi
   obtain rfl : i = 13 := by simpa using hi
   clear hi
   refine wpOp_one rfl ?_
   intro Q' hQ'
   have HQ : Hid _ := hQ'
   clear hQ'
   refine wpList_append_eq rfl _ _ 40 rfl rfl rfl HRUN.out ?_
   clear HRUN
   go_wp2_with fail
   refine HQ.out _ _ ⟨.inr (show Hid (_ ∧ _) from ⟨p2.out,p3.out⟩),?_⟩
   clear HQ
   refine wpAnyG_take (i := 14) (v := ?_) rfl (by kernel_rfl) (by kernel_rfl) (by kernel_rfl) (by kernel_rfl) (fun _ _ _ h => h) (Or.inl ⟨by rfl,?_⟩) (show Hid (_ ∧ _) from ⟨p2.out,p3.out⟩).out ?_
   rotate_left
   ·rintro V HV
    go_simp
    try with_reducible rfl
   have f1 := p2.out.cell 1 rfl
   have g1 := p2.out.frozen 1
   have l1 := p2.out.lt
   refine wpAnyG_all (rs := [15]) (by kernel_rfl) (by simp) ?_
   intro i hi
   obtain rfl : i = 15 := by simpa using hi
   clear hi
   refine wpOp_one rfl ?_
   intro Q' hQ'
   have HQ : Hid _ := hQ'
   clear hQ'
   go_wp2_with fail
   refine HQ.out _ _ ⟨.inl (by first | rfl | trivial),?_⟩
   clear HQ
   refine wpAnyG_done (by kernel_rfl) ?_ _
   obtain ⟨w12,hw12⟩ : ∃ w12,w12 = w'.setCell ⟨w3.heap.size,1,none⟩ (.slice (some ⟨fb,0,none⟩) 1 fc) := ⟨_,rfl⟩
   have HREL : Hid (∃ fb fc,Ob w12 (W.heap.size + 1) #[.string ⟨#[]⟩,.slice none 0 0,.slice none 0 0,.slice none 0 0,.slice none 0 0,.slice none 0 0,.slice none 0 0,.slice none 0 0,.slice none 0 0,.slice none 0 0,.slice none 0 0] 51 ∧ Ob w12 w3.heap.size #[.string M,.slice (some ⟨fb,0,none⟩) 1 fc,.slice none 0 0,.slice none 0 0,.slice none 0 0,.slice none 0 0,.slice none 0 0,.slice none 0 0,.slice none 0 0,.slice none 0 0,.slice none 0 0] 51 ∧ Below W.heap.size W w12 ∧ W.heap.size ≤ fb ∧ fb ≠ w3.heap.size ∧ fb ≠ W.heap.size + 1 ∧ fb < w12.heap.size ∧ ∀ (j : Nat) (v : Value),(fA 5 X)[j]? = some v → w12.cell? ⟨fb,j,none⟩ = some v) := by
    have x1 := HFB.out
    have x2 := HMB.out
    have x3 := HMB1.out
    have x4 := HMW.out
    have x5 := HBW.out
    refine ⟨fb,fc,?_,?_,?_,by omega,by omega,by omega,?_,fun j v hj => ?_⟩
    ·rw [hw12]; exact p1.out.other (by omega) _ _
    ·rw [hw12]; have := p2.out.set 1 (.slice (some ⟨fb,0,none⟩) 1 fc); simpa using this
    ·rw [hw12]; exact HB'.out.setCell (p := ⟨w3.heap.size,1,none⟩) (by show W.heap.size ≤ w3.heap.size; omega) _
    ·rw [hw12]; simpa using HFL.out
    ·rw [hw12,cell_other _ _ _ _ _ (by omega)]
     exact HC.out j v (by simpa [fA,← HX.out] using hj)
   rw [← hw12]
   clear hw12 p1 p2 p3 HB' HC HFB HFL HMB HMB1 HBW f1 g1 l1
   go_wp2
   go_roundw
   case rel => first | exact .inr ⟨rfl,HREL⟩ | ((repeat apply Exists.intro); exact ⟨.inr ⟨rfl,HREL⟩,rfl⟩)
   case measure => simp [intOf]
  ·obtain ⟨fb,fc,r1,r2,hbr,y1,y2,y3,y4,y5⟩ := HR.out
   have R1 : Hid _ := r1
   have R2 : Hid _ := r2
   have HBR : Hid _ := hbr
   have QS : Hid _ := papart_a (W := wr) (mb := w3.heap.size) (fb := fb) (fc := fc) (M := M) (X := X) r2 y5 y4
   have HC : Hid (∀ (j : Nat) (v : Value),(fA 5 X)[j]? = some v → wr.cell? ⟨fb,j,none⟩ = some v) := y5
   have HY : Hid (W.heap.size ≤ fb ∧ fb ≠ W.heap.size + 1 ∧ fb < wr.heap.size) := ⟨y1,y3,y4⟩
   clear HR r1 r2 hbr y1 y2 y3 y4 y5 c7 cl
   go_wp2_with fail
   refine Calls.mono QS.out ?_
   rintro e w13 ⟨rfl,hb13⟩
   have q1 := R1.out.below hb13 R1.out.lt
   have q2 := R2.out.below hb13 R2.out.lt
   have HB13 : Hid (Below W.heap.size W w13) := HBR.out.trans (hb13.mono HBR.out.size)
   have HC2 : Hid (∀ (j : Nat) (v : Value),(fA 5 X)[j]? = some v → w13.cell? ⟨fb,j,none⟩ = some v) := fun j v hj => (hb13.cell HY.out.2.2).trans (HC.out j v hj)
   have HY2 : Hid (W.heap.size ≤ fb ∧ fb ≠ W.heap.size + 1 ∧ fb < w13.heap.size) := ⟨HY.out.1,HY.out.2.1,Nat.lt_of_lt_of_le HY.out.2.2 hb13.size⟩
   obtain ⟨⟨b0,b1,b2,b3,b4,b5,b6,b7,b8,b9,b10⟩,_,bl⟩ := ob11 q2
   obtain ⟨⟨c0,c1,c2,c3,c4,c5,c6,c7,c8,c9,c10⟩,⟨d0,d1,d2,d3,d4,d5,d6,d7,d8,d9,d10⟩,dl⟩ := ob11 q1
   have Q1 : Hid _ := q1
   clear q1 q2 hb13 R1 R2 HBR HC HY QS
   go_wp2
   refine msg_ret (p := 8) ?_ (W.heap.size + 1) #[.string M,.slice (some ⟨fb,0,none⟩) 1 fc,.slice none 0 0,.slice none 0 0,.slice none 0 0,.slice none 0 0,.slice none 0 0,.slice none 0 0,.slice none 0 0,.slice none 0 0,.slice none 0 0] rfl ?_ ?_ ?_ ?_
   ·rfl
   ·rfl
   rotate_left
   ·rfl
   rotate_left
   ·have := (((((((((((Q1.out.set 0 (.string M)).set 1 (.slice (some ⟨fb,0,none⟩) 1 fc)).set 2 (.slice none 0 0)).set 3 (.slice none 0 0)).set 4 (.slice none 0 0)).set 5 (.slice none 0 0)).set 6 (.slice none 0 0)).set 7 (.slice none 0 0)).set 8 (.slice none 0 0)).set 9 (.slice none 0 0)).set 10 (.slice none 0 0))
    simpa using this
   ·refine ⟨fb,fc,rfl,?_,HY2.out.1,?_,fun j v hj => ?_⟩
    ·exact (((((((((((HB13.out.setCell (p := ⟨W.heap.size + 1,0,none⟩) (by simp) _).setCell (p := ⟨W.heap.size + 1,1,none⟩) (by simp) _).setCell (p := ⟨W.heap.size + 1,2,none⟩) (by simp) _).setCell (p := ⟨W.heap.size + 1,3,none⟩) (by simp) _).setCell (p := ⟨W.heap.size + 1,4,none⟩) (by simp) _).setCell (p := ⟨W.heap.size + 1,5,none⟩) (by simp) _).setCell (p := ⟨W.heap.size + 1,6,none⟩) (by simp) _).setCell (p := ⟨W.heap.size + 1,7,none⟩) (by simp) _).setCell (p := ⟨W.heap.size + 1,8,none⟩) (by simp) _).setCell (p := ⟨W.heap.size + 1,9,none⟩) (by simp) _).setCell (p := ⟨W.heap.size + 1,10,none⟩) (by simp) _)
    ·simpa using HY2.out.2.2
    ·have hne := HY2.out.2.1
     rw [cell_other _ _ _ _ _ hne,cell_other _ _ _ _ _ hne,cell_other _ _ _ _ _ hne,cell_other _ _ _ _ _ hne,cell_other _ _ _ _ _ hne,cell_other _ _ _ _ _ hne,cell_other _ _ _ _ _ hne,cell_other _ _ _ _ _ hne,cell_other _ _ _ _ _ hne,cell_other _ _ _ _ _ hne,cell_other _ _ _ _ _ hne]
     exact HC2.out j v hj

end Go.Proofs.YtlekfcehmlepkaaGreatDoor
