/- Put together by a program out of these texts of mine: XFl2, DMem, XMem. -/
import Derived.OrdersHeld
import Derived.Maps.AppendAt
import Derived.Maps.Range
import Derived.Test.YtlekfcehmlepkaaGreatDoorBunD1
import Derived.Test.YtlekfcehmlepkaaGreatDoorBunD34

namespace Go.Proofs.YtlekfcehmlepkaaGreatDoor
open Go.RowKit
set_option linter.unusedVariables false
set_option linter.unusedSimpArgs false

theorem wp_region_heldD {P : Program} {ops : Array Oper} {Q : Exit → Act → World → Prop} {S : World → Prop} {id : Nat} {a : Act} {w : World} (hm : P.follows .mixedOrders = true) (h : wpAnyH P .any ops Q S ops.size (Array.replicate ops.size false) a w.drew) : (Code.region id ops true).wp P Q a w := wp_region_held hm h

theorem Ob.drew {w : World} {b : Nat} {c : Array Value} {T : TypeId} (h : Ob w b c T) : Ob w.drew b c T := ⟨h.eq⟩

set_option maxRecDepth 20000 in
set_option maxHeartbeats 4000000 in
theorem pfield_a {w : World} {ad : Option Addr} {c : Nat} {ad2 : Option Addr} {c2 : Nat} (h : TnOk w (tF ad c (tT ad2 c2))) (W : World) (hT : Hid (LoTab W)) (hB : Below w.heap.size w W) {g : Nat} {av : Value} (hg : Ob W g #[.bool false,av] 69) (ps : Value) :
  Calls Tryz.prog 130 #[.pointer (some ⟨g,0,none⟩),(tF ad c (tT ad2 c2)).val,.agg f0,ps] W fun e W' => e = .returned (.agg (fA 5 (strOfNums [98]))) ∧ Below W.heap.size W W' := by
 have hfew : tfew (tF ad c (tT ad2 c2)) = true := by rfl
 have hdeep : tdeep (tF ad c (tT ad2 c2)) ≤ 64 := of_decide_eq_true (by rfl)
 have QP : Hid (∀ V,Below W.heap.size W V → Calls Tryz.prog 168 #[.pointer (some ⟨g,0,none⟩),(tF ad c (tT ad2 c2)).val,.agg (fA 5 ⟨#[]⟩),ps] V fun e W' => e = .returned (.agg (fA 5 (strOfNums [98]))) ∧ Below V.heap.size V W') := fun V hV => popt_a h hfew hdeep rfl V (show Hid _ from hT.out.below hV (Nat.le_refl _)) (hB.trans (hV.mono hB.size)) _ _
 have QL : Hid (∀ V,Calls Tryz.prog 166 #[.pointer (some ⟨g,0,none⟩),(tF ad c (tT ad2 c2)).val,.bool false] V fun e W' => e = .returned (.int .i64 1) ∧ Below V.heap.size V W') := fun V => plabel_a _ _ _ _ V false
 have QT : Hid (∀ V,Below W.heap.size W V → Calls Tryz.prog 167 #[(tT ad2 c2).val] V fun e W' => e = .returned (.tuple #[.int .i64 5,.string ⟨#[]⟩]) ∧ Below V.heap.size V W') := fun V hV => ptypeOf_a ad2 c2 V (show Hid _ from hT.out.below hV (Nat.le_refl _))
 have QC : Hid (∀ V,Calls Tryz.prog 19 #[.string (strOfNums [98])] V fun e W' => e = .returned (.string (strOfNums [98])) ∧ Below V.heap.size V W') := fun V => pnclone_any _ V (by rw [strOfNums_size]; decide)
 obtain ⟨kb,ko,rfl,hkl,hkc⟩ : ∃ kb ko,ad = some ⟨kb,ko,none⟩ ∧ kb < w.heap.size ∧ ∀ (j : Nat) (u : Value),(tT ad2 c2).cells[j]? = some u → w.cell? ⟨kb,ko + j,none⟩ = some u := by
  unfold tF at h
  cases h with
  | mk _ _ _ _ _ _ _ _ _ _ _ _ hmem _ =>
   obtain ⟨b,off,rfl,h1,h2⟩ := hmem (by simp)
   exact ⟨b,off,rfl,h1,fun j u hj => by simpa using h2 0 _ rfl j u hj⟩
 have HK : Hid (∀ V,Below W.heap.size W V → ∀ (j : Nat) (u : Value),(tT ad2 c2).cells[j]? = some u → V.cell? ⟨kb,ko + j,none⟩ = some u) := fun V hV j u hj => ((hB.trans (hV.mono hB.size)).cell hkl).trans (hkc j u hj)
 have HKL : Hid (kb < W.heap.size) := Nat.lt_of_lt_of_le hkl hB.size
 have HG : Hid (Ob W g #[.bool false,av] 69) := hg
 unfold tF tT Tn.val Tn.cells at QP QL
 unfold tT Tn.val Tn.cells at QT
 unfold tT Tn.cells at HK
 unfold tF tT Tn.val Tn.cells
 simp only [List.length_cons,List.length_nil,Nat.zero_add,fA,f0] at QP QL QT HK ⊢
 generalize strOfNums [98] = X at *
 generalize strOfNums [105,110,116,51,50] = Y at *
 generalize strOfNums [] = D at *
 clear h hfew hdeep hB hkl hkc hg hT
 obtain ⟨w3,hw3⟩ : ∃ w3,w3 = ((W.alloc (.cells #[.int .i64 9,.string X,.int .i64 1,.int .i64 0,.int .i64 1,.int .i64 12,.string D,.slice (some ⟨kb,ko,none⟩) 1 c] 28)).alloc (.cells #[.string ⟨#[]⟩,.int .i64 0,.int .i64 0,.int .i64 0,.string ⟨#[]⟩,.string ⟨#[]⟩,.string ⟨#[]⟩,.bool false,.int .i64 0,.string ⟨#[]⟩,.bool false,.slice none 0 0,.slice none 0 0] 53)).alloc (.cells #[.string ⟨#[]⟩,.int .i64 0,.int .i64 0,.int .i64 0,.string ⟨#[]⟩,.string ⟨#[]⟩,.string ⟨#[]⟩,.bool false,.int .i64 0,.string ⟨#[]⟩,.bool false,.slice none 0 0,.slice none 0 0] 53) := ⟨_,rfl⟩
 have o0 : Ob w3 W.heap.size #[.int .i64 9,.string X,.int .i64 1,.int .i64 0,.int .i64 1,.int .i64 12,.string D,.slice (some ⟨kb,ko,none⟩) 1 c] 28 := by rw [hw3]; exact ((Ob.new W _ _).alloc _).alloc _
 have o1 : Ob w3 (W.heap.size + 1) #[.string ⟨#[]⟩,.int .i64 0,.int .i64 0,.int .i64 0,.string ⟨#[]⟩,.string ⟨#[]⟩,.string ⟨#[]⟩,.bool false,.int .i64 0,.string ⟨#[]⟩,.bool false,.slice none 0 0,.slice none 0 0] 53 := by
  rw [hw3]
  have := (Ob.new (W.alloc (.cells #[.int .i64 9,.string X,.int .i64 1,.int .i64 0,.int .i64 1,.int .i64 12,.string D,.slice (some ⟨kb,ko,none⟩) 1 c] 28)) #[.string ⟨#[]⟩,.int .i64 0,.int .i64 0,.int .i64 0,.string ⟨#[]⟩,.string ⟨#[]⟩,.string ⟨#[]⟩,.bool false,.int .i64 0,.string ⟨#[]⟩,.bool false,.slice none 0 0,.slice none 0 0] 53).alloc (.cells #[.string ⟨#[]⟩,.int .i64 0,.int .i64 0,.int .i64 0,.string ⟨#[]⟩,.string ⟨#[]⟩,.string ⟨#[]⟩,.bool false,.int .i64 0,.string ⟨#[]⟩,.bool false,.slice none 0 0,.slice none 0 0] 53)
  simpa using this
 have o2 : Ob w3 (W.heap.size + 1 + 1) #[.string ⟨#[]⟩,.int .i64 0,.int .i64 0,.int .i64 0,.string ⟨#[]⟩,.string ⟨#[]⟩,.string ⟨#[]⟩,.bool false,.int .i64 0,.string ⟨#[]⟩,.bool false,.slice none 0 0,.slice none 0 0] 53 := by
  rw [hw3]
  have := Ob.new ((W.alloc (.cells #[.int .i64 9,.string X,.int .i64 1,.int .i64 0,.int .i64 1,.int .i64 12,.string D,.slice (some ⟨kb,ko,none⟩) 1 c] 28)).alloc (.cells #[.string ⟨#[]⟩,.int .i64 0,.int .i64 0,.int .i64 0,.string ⟨#[]⟩,.string ⟨#[]⟩,.string ⟨#[]⟩,.bool false,.int .i64 0,.string ⟨#[]⟩,.bool false,.slice none 0 0,.slice none 0 0] 53)) #[.string ⟨#[]⟩,.int .i64 0,.int .i64 0,.int .i64 0,.string ⟨#[]⟩,.string ⟨#[]⟩,.string ⟨#[]⟩,.bool false,.int .i64 0,.string ⟨#[]⟩,.bool false,.slice none 0 0,.slice none 0 0] 53
  simpa using this
 have hb3 : Below W.heap.size W w3 := by rw [hw3]; exact (((Below.refl _ W).alloc (Nat.le_refl _) _).alloc (by simp) _).alloc (by simp; omega) _
 have O0 : Hid _ := o0
 have O1 : Hid _ := o1
 have O2 : Hid _ := o2
 have HB3 : Hid _ := hb3
 have HW3 : Hid _ := hw3
 clear o0 o1 o2 hb3 hw3
 go_enter Tryz.func130,Tryz.ntmps130
 go_upto_region 1 with fail
 rw [← HW3.out]
 clear HW3
 refine wp_region_heldD (S := fun V => Hid (Ob V W.heap.size #[.int .i64 9,.string X,.int .i64 1,.int .i64 0,.int .i64 1,.int .i64 12,.string D,.slice (some ⟨kb,ko,none⟩) 1 c] 28)) rfl ?_
 have HS0 : Hid _ := (show Hid _ from O0.out.drew)
 refine wpAnyH_take (i := 0) (v := ?_) rfl (by kernel_rfl) (by kernel_rfl) (by kernel_rfl) (fun _ _ _ h => h) (Or.inl ⟨by rfl,?_⟩) HS0.out ?_
 rotate_left
 ·rintro V HV
  go_simp
  try with_reducible rfl
 refine wpAnyH_take (i := 1) (v := ?_) rfl (by kernel_rfl) (by kernel_rfl) (by kernel_rfl) (fun _ _ _ h => h) (Or.inl ⟨by rfl,?_⟩) HS0.out ?_
 rotate_left
 ·rintro V HV
  have z1 := HV.out.cell 1 rfl
  go_simp
  try with_reducible rfl
 refine wpAnyH_take (i := 3) (v := ?_) rfl (by kernel_rfl) (by kernel_rfl) (by kernel_rfl) (fun _ _ _ h => h) (Or.inl ⟨by rfl,?_⟩) HS0.out ?_
 rotate_left
 ·rintro V HV
  go_simp
  try with_reducible rfl
 refine wpAnyH_take (i := 4) (v := ?_) rfl (by kernel_rfl) (by kernel_rfl) (by kernel_rfl) (fun _ _ _ h => h) (Or.inl ⟨by rfl,?_⟩) HS0.out ?_
 rotate_left
 ·rintro V HV
  have z2 := HV.out.cell 2 rfl
  go_simp
  try with_reducible rfl
 refine wpAnyH_all (rs := [2]) (by kernel_rfl) (by simp) ?_
 intro i hi
 obtain rfl : i = 2 := by simpa using hi
 clear hi
 refine wpOp_one rfl ?_
 intro Q' hQ'
 have HQ : Hid _ := hQ'
 clear hQ'
 go_wp2_with fail
 refine Calls.mono (QC.out _) ?_
 rintro e w4 ⟨rfl,hb4⟩
 have P0 : Hid (Ob w4 W.heap.size #[.int .i64 9,.string X,.int .i64 1,.int .i64 0,.int .i64 1,.int .i64 12,.string D,.slice (some ⟨kb,ko,none⟩) 1 c] 28) := O0.out.drew.below hb4 O0.out.lt
 have P1 : Hid (Ob w4 (W.heap.size + 1) #[.string ⟨#[]⟩,.int .i64 0,.int .i64 0,.int .i64 0,.string ⟨#[]⟩,.string ⟨#[]⟩,.string ⟨#[]⟩,.bool false,.int .i64 0,.string ⟨#[]⟩,.bool false,.slice none 0 0,.slice none 0 0] 53) := O1.out.drew.below hb4 O1.out.lt
 have P2 : Hid (Ob w4 (W.heap.size + 1 + 1) #[.string ⟨#[]⟩,.int .i64 0,.int .i64 0,.int .i64 0,.string ⟨#[]⟩,.string ⟨#[]⟩,.string ⟨#[]⟩,.bool false,.int .i64 0,.string ⟨#[]⟩,.bool false,.slice none 0 0,.slice none 0 0] 53) := O2.out.drew.below hb4 O2.out.lt
 have HB4 : Hid (Below W.heap.size W w4) := HB3.out.drew.trans (hb4.mono HB3.out.size)
 clear hb4 O0 O1 O2 HB3 HS0
 go_wp2_with fail
 refine HQ.out _ _ ⟨P0,?_⟩
 clear HQ
 obtain ⟨⟨a0,a1,a2,a3,a4,a5,a6,a7,a8,a9,a10,a11,a12⟩,⟨d0,d1,d2,d3,d4,d5,d6,d7,d8,d9,d10,d11,d12⟩,dl⟩ := ob13 P1.out
 clear a2 a3 a4 a5 a6 a7 a8 a9 a10 a11 a12 d2 d3 d4 d5 d6 d7 d8 d9 d10 d11 d12
 refine wpAnyH_take (i := 5) (v := ?_) rfl (by kernel_rfl) (by kernel_rfl) (by kernel_rfl) (fun _ _ _ h => h) (Or.inl ⟨by rfl,?_⟩) P0.out ?_
 rotate_left
 ·rintro V HV
  go_simp
  try with_reducible rfl
 refine wpAnyH_all (rs := [6]) (by kernel_rfl) (by simp) ?_
 intro i hi
 obtain rfl : i = 6 := by simpa using hi
 clear hi
 refine wpOp_one rfl ?_
 intro Q' hQ'
 have HQ : Hid _ := hQ'
 clear hQ'
 go_wp2_with fail
 have P0' : Hid (Ob (w4.setCell ⟨W.heap.size + 1,0,none⟩ (.string X)) W.heap.size #[.int .i64 9,.string X,.int .i64 1,.int .i64 0,.int .i64 1,.int .i64 12,.string D,.slice (some ⟨kb,ko,none⟩) 1 c] 28) := P0.out.other (by omega) _ _
 refine HQ.out _ _ ⟨P0',?_⟩
 clear HQ
 refine wpAnyH_take (i := 7) (v := ?_) rfl (by kernel_rfl) (by kernel_rfl) (by kernel_rfl) (fun _ _ _ h => h) (Or.inl ⟨by rfl,?_⟩) P0'.out ?_
 rotate_left
 ·rintro V HV
  go_simp
  try with_reducible rfl
 refine wpAnyH_all (rs := [8]) (by kernel_rfl) (by simp) ?_
 intro i hi
 obtain rfl : i = 8 := by simpa using hi
 clear hi
 refine wpOp_one rfl ?_
 intro Q' hQ'
 have HQ : Hid _ := hQ'
 clear hQ'
 go_wp2_with fail
 refine HQ.out _ _ ⟨(show Hid (Ob _ _ _ _) from P0'.out.other (by omega) _ _),?_⟩
 clear HQ
 refine wpAnyH_done (by kernel_rfl) ?_ _
 obtain ⟨w5,hw5⟩ : ∃ w5,w5 = (w4.setCell ⟨W.heap.size + 1,0,none⟩ (.string X)).setCell ⟨W.heap.size + 1,1,none⟩ (.int .i64 1) := ⟨_,rfl⟩
 have R0 : Hid (Ob w5 W.heap.size #[.int .i64 9,.string X,.int .i64 1,.int .i64 0,.int .i64 1,.int .i64 12,.string D,.slice (some ⟨kb,ko,none⟩) 1 c] 28) := by rw [hw5]; exact (P0.out.other (by omega) _ _).other (by omega) _ _
 have R1 : Hid (Ob w5 (W.heap.size + 1) #[.string X,.int .i64 1,.int .i64 0,.int .i64 0,.string ⟨#[]⟩,.string ⟨#[]⟩,.string ⟨#[]⟩,.bool false,.int .i64 0,.string ⟨#[]⟩,.bool false,.slice none 0 0,.slice none 0 0] 53) := by rw [hw5]; have := (P1.out.set 0 (.string X)).set 1 (.int .i64 1); show Ob _ _ _ _; simpa using this
 have R2 : Hid (Ob w5 (W.heap.size + 1 + 1) #[.string ⟨#[]⟩,.int .i64 0,.int .i64 0,.int .i64 0,.string ⟨#[]⟩,.string ⟨#[]⟩,.string ⟨#[]⟩,.bool false,.int .i64 0,.string ⟨#[]⟩,.bool false,.slice none 0 0,.slice none 0 0] 53) := by rw [hw5]; exact (P2.out.other (by omega) _ _).other (by omega) _ _
 have HB5 : Hid (Below W.heap.size W w5) := by rw [hw5]; exact (HB4.out.setCell (p := ⟨W.heap.size + 1,0,none⟩) (by simp) _).setCell (p := ⟨W.heap.size + 1,1,none⟩) (by simp) _
 rw [← hw5]
 clear hw5 P0 P0' P1 P2 HB4 a0 a1 d0 d1 dl
 obtain ⟨⟨e0,e1,e2,e3,e4,e5,e6,e7⟩,_,el⟩ := ob8 R0.out
 have e8 := R1.out.cell 8 rfl
 have e9 := R1.out.lt
 have QL5 : Hid _ := QL.out w5
 go_wp2_with fail
 refine Calls.mono QL5.out ?_
 rintro e w6 ⟨rfl,hb6⟩
 clear QL5 QL e0 e1 e2 e3 e4 e5 e6 e7 el e8 e9
 have P0 : Hid (Ob w6 W.heap.size #[.int .i64 9,.string X,.int .i64 1,.int .i64 0,.int .i64 1,.int .i64 12,.string D,.slice (some ⟨kb,ko,none⟩) 1 c] 28) := R0.out.below hb6 R0.out.lt
 have P1 : Hid (Ob w6 (W.heap.size + 1) #[.string X,.int .i64 1,.int .i64 0,.int .i64 0,.string ⟨#[]⟩,.string ⟨#[]⟩,.string ⟨#[]⟩,.bool false,.int .i64 0,.string ⟨#[]⟩,.bool false,.slice none 0 0,.slice none 0 0] 53) := R1.out.below hb6 R1.out.lt
 have P2 : Hid (Ob w6 (W.heap.size + 1 + 1) #[.string ⟨#[]⟩,.int .i64 0,.int .i64 0,.int .i64 0,.string ⟨#[]⟩,.string ⟨#[]⟩,.string ⟨#[]⟩,.bool false,.int .i64 0,.string ⟨#[]⟩,.bool false,.slice none 0 0,.slice none 0 0] 53) := R2.out.below hb6 R2.out.lt
 have HB6 : Hid (Below W.heap.size W w6) := HB5.out.trans (hb6.mono HB5.out.size)
 clear hb6 R0 R1 R2 HB5
 obtain ⟨w7,hw7⟩ : ∃ w7,w7 = w6.setCell ⟨W.heap.size + 1,2,none⟩ (.int .i64 1) := ⟨_,rfl⟩
 have R0 : Hid (Ob w7 W.heap.size #[.int .i64 9,.string X,.int .i64 1,.int .i64 0,.int .i64 1,.int .i64 12,.string D,.slice (some ⟨kb,ko,none⟩) 1 c] 28) := by rw [hw7]; exact P0.out.other (by omega) _ _
 have R1 : Hid (Ob w7 (W.heap.size + 1) #[.string X,.int .i64 1,.int .i64 1,.int .i64 0,.string ⟨#[]⟩,.string ⟨#[]⟩,.string ⟨#[]⟩,.bool false,.int .i64 0,.string ⟨#[]⟩,.bool false,.slice none 0 0,.slice none 0 0] 53) := by rw [hw7]; have := P1.out.set 2 (.int .i64 1); show Ob _ _ _ _; simpa using this
 have R2 : Hid (Ob w7 (W.heap.size + 1 + 1) #[.string ⟨#[]⟩,.int .i64 0,.int .i64 0,.int .i64 0,.string ⟨#[]⟩,.string ⟨#[]⟩,.string ⟨#[]⟩,.bool false,.int .i64 0,.string ⟨#[]⟩,.bool false,.slice none 0 0,.slice none 0 0] 53) := by rw [hw7]; exact P2.out.other (by omega) _ _
 have HB7 : Hid (Below W.heap.size W w7) := by rw [hw7]; exact HB6.out.setCell (p := ⟨W.heap.size + 1,2,none⟩) (by simp) _
 have f2 := P1.out.cell 2 rfl
 have g2 := P1.out.frozen 2
 have l2 := P1.out.lt
 go_upto_region 3 with fail
 rw [← hw7]
 clear hw7 P0 P1 P2 HB6 f2 g2 l2
 have e7 := R0.out.cell 7 rfl
 have el := R0.out.lt
 have HK7 : Hid _ := HK.out w7 HB7.out
 have k0 := HK7.out 0 _ rfl
 have k1 := HK7.out 1 _ rfl
 have k2 := HK7.out 2 _ rfl
 have k3 := HK7.out 3 _ rfl
 have k4 := HK7.out 4 _ rfl
 have k5 := HK7.out 5 _ rfl
 have k6 := HK7.out 6 _ rfl
 have k7 := HK7.out 7 _ rfl
 have kl : kb < w7.heap.size := Nat.lt_of_lt_of_le HKL.out HB7.out.size
 rw [Nat.add_zero] at k0
 have QT7 : Hid _ := QT.out w7 HB7.out
 clear HK7
 go_wp2_with fail
 refine Calls.mono QT7.out ?_
 rintro e w8 ⟨rfl,hb8⟩
 clear QT7 k0 k1 k2 k3 k4 k5 k6 k7 kl e7 el
 have P0 : Hid (Ob w8 W.heap.size #[.int .i64 9,.string X,.int .i64 1,.int .i64 0,.int .i64 1,.int .i64 12,.string D,.slice (some ⟨kb,ko,none⟩) 1 c] 28) := R0.out.below hb8 R0.out.lt
 have P1 : Hid (Ob w8 (W.heap.size + 1) #[.string X,.int .i64 1,.int .i64 1,.int .i64 0,.string ⟨#[]⟩,.string ⟨#[]⟩,.string ⟨#[]⟩,.bool false,.int .i64 0,.string ⟨#[]⟩,.bool false,.slice none 0 0,.slice none 0 0] 53) := R1.out.below hb8 R1.out.lt
 have P2 : Hid (Ob w8 (W.heap.size + 1 + 1) #[.string ⟨#[]⟩,.int .i64 0,.int .i64 0,.int .i64 0,.string ⟨#[]⟩,.string ⟨#[]⟩,.string ⟨#[]⟩,.bool false,.int .i64 0,.string ⟨#[]⟩,.bool false,.slice none 0 0,.slice none 0 0] 53) := R2.out.below hb8 R2.out.lt
 have HB8 : Hid (Below W.heap.size W w8) := HB7.out.trans (hb8.mono HB7.out.size)
 clear hb8 R0 R1 R2 HB7
 obtain ⟨w9,hw9⟩ : ∃ w9,w9 = (w8.setCell ⟨W.heap.size + 1,3,none⟩ (.int .i64 5)).setCell ⟨W.heap.size + 1,4,none⟩ (.string ⟨#[]⟩) := ⟨_,rfl⟩
 have R0 : Hid (Ob w9 W.heap.size #[.int .i64 9,.string X,.int .i64 1,.int .i64 0,.int .i64 1,.int .i64 12,.string D,.slice (some ⟨kb,ko,none⟩) 1 c] 28) := by rw [hw9]; exact (P0.out.other (by omega) _ _).other (by omega) _ _
 have R1 : Hid (Ob w9 (W.heap.size + 1) #[.string X,.int .i64 1,.int .i64 1,.int .i64 5,.string ⟨#[]⟩,.string ⟨#[]⟩,.string ⟨#[]⟩,.bool false,.int .i64 0,.string ⟨#[]⟩,.bool false,.slice none 0 0,.slice none 0 0] 53) := by rw [hw9]; have := (P1.out.set 3 (.int .i64 5)).set 4 (.string ⟨#[]⟩); show Ob _ _ _ _; simpa using this
 have R2 : Hid (Ob w9 (W.heap.size + 1 + 1) #[.string ⟨#[]⟩,.int .i64 0,.int .i64 0,.int .i64 0,.string ⟨#[]⟩,.string ⟨#[]⟩,.string ⟨#[]⟩,.bool false,.int .i64 0,.string ⟨#[]⟩,.bool false,.slice none 0 0,.slice none 0 0] 53) := by rw [hw9]; exact (P2.out.other (by omega) _ _).other (by omega) _ _
 have HB9 : Hid (Below W.heap.size W w9) := by rw [hw9]; exact (HB8.out.setCell (p := ⟨W.heap.size + 1,3,none⟩) (by simp) _).setCell (p := ⟨W.heap.size + 1,4,none⟩) (by simp) _
 have f3 := P1.out.cell 3 rfl
 have g3 := P1.out.frozen 3
 have f4 := P1.out.cell 4 rfl
 have g4 := P1.out.frozen 4
 have l2 := P1.out.lt
 go_upto_region 4 with fail
 rw [← hw9]
 clear hw9 P0 P1 P2 HB8 f3 g3 f4 g4 l2
 have hgl := HG.out.lt
 have m0 := (HG.out.below HB9.out hgl).cell 0 rfl
 have ml : g < w9.heap.size := Nat.lt_of_lt_of_le hgl HB9.out.size
 have f10 := R1.out.cell 10 rfl
 have g10 := R1.out.frozen 10
 have l2 := R1.out.lt
 obtain ⟨w10,hw10⟩ : ∃ w10,w10 = w9.setCell ⟨W.heap.size + 1,10,none⟩ (.bool false) := ⟨_,rfl⟩
 have P0 : Hid (Ob w10 W.heap.size #[.int .i64 9,.string X,.int .i64 1,.int .i64 0,.int .i64 1,.int .i64 12,.string D,.slice (some ⟨kb,ko,none⟩) 1 c] 28) := by rw [hw10]; exact R0.out.other (by omega) _ _
 have P1 : Hid (Ob w10 (W.heap.size + 1) #[.string X,.int .i64 1,.int .i64 1,.int .i64 5,.string ⟨#[]⟩,.string ⟨#[]⟩,.string ⟨#[]⟩,.bool false,.int .i64 0,.string ⟨#[]⟩,.bool false,.slice none 0 0,.slice none 0 0] 53) := by rw [hw10]; have := R1.out.set 10 (.bool false); show Ob _ _ _ _; simpa using this
 have P2 : Hid (Ob w10 (W.heap.size + 1 + 1) #[.string ⟨#[]⟩,.int .i64 0,.int .i64 0,.int .i64 0,.string ⟨#[]⟩,.string ⟨#[]⟩,.string ⟨#[]⟩,.bool false,.int .i64 0,.string ⟨#[]⟩,.bool false,.slice none 0 0,.slice none 0 0] 53) := by rw [hw10]; exact R2.out.other (by omega) _ _
 have HB10 : Hid (Below W.heap.size W w10) := by rw [hw10]; exact HB9.out.setCell (p := ⟨W.heap.size + 1,10,none⟩) (by simp) _
 clear R0 R1 R2 HB9
 go_upto_region 5 with fail
 rw [← hw10]
 clear hw10 m0 ml f10 g10 l2
 obtain ⟨⟨e0,e1,e2,e3,e4,e5,e6,e7⟩,_,el⟩ := ob8 P0.out
 obtain ⟨⟨b0,b1,b2,b3,b4,b5,b6,b7,b8,b9,b10,b11,b12⟩,_,bl⟩ := ob13 P1.out
 have QP10 : Hid _ := QP.out w10 HB10.out
 go_wp2_with fail
 refine Calls.mono QP10.out ?_
 rintro e w11 ⟨rfl,hb11⟩
 have q2 := P2.out.below hb11 P2.out.lt
 have HB11 : Hid (Below W.heap.size W w11) := HB10.out.trans (hb11.mono HB10.out.size)
 obtain ⟨⟨c0,c1,c2,c3,c4,c5,c6,c7,c8,c9,c10,c11,c12⟩,⟨d0,d1,d2,d3,d4,d5,d6,d7,d8,d9,d10,d11,d12⟩,dl⟩ := ob13 q2
 have Q2 : Hid _ := q2
 clear e0 e1 e2 e3 e4 e5 e6 e7 el b0 b1 b2 b3 b4 b5 b6 b7 b8 b9 b10 b11 b12 bl q2 hb11 P0 P1 P2 HB10 QP10
 go_wp2
 refine fld_ret (p := 8) ?_ (W.heap.size + 1 + 1) #[.string X,.int .i64 1,.int .i64 1,.int .i64 5,.string ⟨#[]⟩,.string ⟨#[]⟩,.string ⟨#[]⟩,.bool false,.int .i64 0,.string X,.bool false,.slice none 0 0,.slice none 0 0] rfl ?_ ?_ ?_ ?_
 ·rfl
 ·rfl
 rotate_left
 ·rfl
 rotate_left
 ·have := (((((((((((((Q2.out.set 0 (.string X)).set 1 (.int .i64 1)).set 2 (.int .i64 1)).set 3 (.int .i64 5)).set 4 (.string ⟨#[]⟩)).set 5 (.string ⟨#[]⟩)).set 6 (.string ⟨#[]⟩)).set 7 (.bool false)).set 8 (.int .i64 0)).set 9 (.string X)).set 10 (.bool false)).set 11 (.slice none 0 0)).set 12 (.slice none 0 0))
  simpa using this
 ·refine ⟨rfl,?_⟩
  exact (((((((((((((HB11.out.setCell (p := ⟨W.heap.size + 1 + 1,0,none⟩) (by simp; omega) _).setCell (p := ⟨W.heap.size + 1 + 1,1,none⟩) (by simp; omega) _).setCell (p := ⟨W.heap.size + 1 + 1,2,none⟩) (by simp; omega) _).setCell (p := ⟨W.heap.size + 1 + 1,3,none⟩) (by simp; omega) _).setCell (p := ⟨W.heap.size + 1 + 1,4,none⟩) (by simp; omega) _).setCell (p := ⟨W.heap.size + 1 + 1,5,none⟩) (by simp; omega) _).setCell (p := ⟨W.heap.size + 1 + 1,6,none⟩) (by simp; omega) _).setCell (p := ⟨W.heap.size + 1 + 1,7,none⟩) (by simp; omega) _).setCell (p := ⟨W.heap.size + 1 + 1,8,none⟩) (by simp; omega) _).setCell (p := ⟨W.heap.size + 1 + 1,9,none⟩) (by simp; omega) _).setCell (p := ⟨W.heap.size + 1 + 1,10,none⟩) (by simp; omega) _).setCell (p := ⟨W.heap.size + 1 + 1,11,none⟩) (by simp; omega) _).setCell (p := ⟨W.heap.size + 1 + 1,12,none⟩) (by simp; omega) _)

inductive Pd where
 | one (v : Value)
 | st (ps : List Pd)
 | ls (t : TypeId) (sz : Nat) (ps : List Pd)

mutual
def plen : Pd → Nat
 | .one _ => 1
 | .st ps => plens ps
 | .ls _ _ _ => 1

def plens : List Pd → Nat
 | [] => 0
 | p :: ps => plen p + plens ps
end

mutual
inductive Hd (w : World) : Pd → List Value → List Nat → Prop
 | one {v : Value} (h : v.oneCell' = true) : Hd w (.one v) [v] []
 | st {ps : List Pd} {cs : List Value} {bs : List Nat} (h : Hds w ps cs bs) : Hd w (.st ps) cs bs
 | ls {t : TypeId} {sz : Nat} {ps : List Pd} {v : Value} {cs : List Value} {bs : List Nat} (ho : w.ownsRow 0 t sz v ps.length cs) (hs : Hds w ps cs bs) (hz : ∀ p ∈ ps,plen p = sz) (hb : ∀ k,v.ownBlock = some k → k ∉ bs) : Hd w (.ls t sz ps) [v] (v.ownBlock.toList ++ bs)

inductive Hds (w : World) : List Pd → List Value → List Nat → Prop
 | nil : Hds w [] [] []
 | cons {p : Pd} {ps : List Pd} {c cs : List Value} {b bs : List Nat} (h : Hd w p c b) (hs : Hds w ps cs bs) (hd : ∀ k ∈ b,k ∉ bs) : Hds w (p :: ps) (c ++ cs) (b ++ bs)
end

mutual
theorem Hd.len {w : World} : ∀ {p : Pd} {cs : List Value} {bs : List Nat},Hd w p cs bs → cs.length = plen p
 | _,_,_,.one _ => rfl
 | _,_,_,.st h => by rw [plen]; exact h.len
 | _,_,_,.ls _ _ _ _ => rfl

theorem Hds.len {w : World} : ∀ {ps : List Pd} {cs : List Value} {bs : List Nat},Hds w ps cs bs → cs.length = plens ps
 | _,_,_,.nil => rfl
 | _,_,_,.cons h hs _ => by rw [plens,List.length_append,h.len,hs.len]
end

mutual
theorem Hd.kept {w w' : World} {row : Option Nat} (hg : w.grownBy w' row) : ∀ {p : Pd} {cs : List Value} {bs : List Nat},Hd w p cs bs → (∀ k,row = some k → k ∉ bs) → Hd w' p cs bs
 | _,_,_,.one h,_ => .one h
 | _,_,_,.st h,hr => .st (h.kept hg hr)
 | _,_,_,.ls ho hs hz hb,hr => .ls (ho.kept hg (by
   rename_i v _ _ 
   cases hq : Value.ownBlock _ with
   | none => exact .inl rfl
   | some k => exact .inr (fun e => hr k e.symm (by rw [hq]; simp)))) (hs.kept hg (fun k hk hm => hr k hk (by simp [hm]))) hz hb

theorem Hds.kept {w w' : World} {row : Option Nat} (hg : w.grownBy w' row) : ∀ {ps : List Pd} {cs : List Value} {bs : List Nat},Hds w ps cs bs → (∀ k,row = some k → k ∉ bs) → Hds w' ps cs bs
 | _,_,_,.nil,_ => .nil
 | _,_,_,.cons h hs hd,hr => .cons (h.kept hg (fun k hk hm => hr k hk (by simp [hm]))) (hs.kept hg (fun k hk hm => hr k hk (by simp [hm]))) hd
end

mutual
theorem Hd.lt {w : World} : ∀ {p : Pd} {cs : List Value} {bs : List Nat},Hd w p cs bs → ∀ k ∈ bs,k < w.heap.size
 | _,_,_,.one _,k,hk => by simp at hk
 | _,_,_,.st h,k,hk => h.lt k hk
 | _,_,_,.ls ho hs _ _,k,hk => by
  rcases List.mem_append.1 hk with hk | hk
  ·exact (ho.lt k (by simpa using hk)).2
  ·exact hs.lt k hk

theorem Hds.lt {w : World} : ∀ {ps : List Pd} {cs : List Value} {bs : List Nat},Hds w ps cs bs → ∀ k ∈ bs,k < w.heap.size
 | _,_,_,.nil,k,hk => by simp at hk
 | _,_,_,.cons h hs _,k,hk => by
  rcases List.mem_append.1 hk with hk | hk
  ·exact h.lt k hk
  ·exact hs.lt k hk
end

theorem own_one {w : World} {base : Nat} {t : TypeId} {sz n : Nat} {v : Value} {xs : List Value} (h : w.ownsRow base t sz v n xs) : v.oneCell' = true := by
 rcases h.2 with ⟨rfl,_⟩ | ⟨_,_,_,rfl,_⟩ <;> rfl

mutual
theorem Hd.ones {w : World} : ∀ {p : Pd} {cs : List Value} {bs : List Nat},Hd w p cs bs → ∀ u ∈ cs,u.oneCell' = true
 | _,_,_,.one h,u,hu => by simp at hu; subst hu; exact h
 | _,_,_,.st h,u,hu => h.ones u hu
 | _,_,_,.ls ho _ _ _,u,hu => by simp at hu; subst hu; exact own_one ho

theorem Hds.ones {w : World} : ∀ {ps : List Pd} {cs : List Value} {bs : List Nat},Hds w ps cs bs → ∀ u ∈ cs,u.oneCell' = true
 | _,_,_,.nil,u,hu => by simp at hu
 | _,_,_,.cons h hs _,u,hu => by
  rcases List.mem_append.1 hu with hu | hu
  ·exact h.ones u hu
  ·exact hs.ones u hu
end

theorem Hds.join {w : World} : ∀ {ps qs : List Pd} {cs cq : List Value} {bs bq : List Nat},Hds w ps cs bs → Hds w qs cq bq → (∀ k ∈ bq,k ∉ bs) → Hds w (ps ++ qs) (cs ++ cq) (bs ++ bq)
 | _,_,_,_,_,_,.nil,hq,_ => hq
 | _,_,_,_,_,_,.cons h hs hd,hq,hn => by
  have := Hds.cons h (hs.join hq (fun k hk hm => hn k hk (by simp [hm]))) (fun k hk hm => by
   rcases List.mem_append.1 hm with hm | hm
   ·exact hd k hk hm
   ·exact hn k hm (by simp [hk]))
  simpa [List.append_assoc] using this

theorem plens_all {sz : Nat} : ∀ (ps : List Pd),(∀ p ∈ ps,plen p = sz) → plens ps = ps.length * sz
 | [],_ => by simp [plens]
 | p :: ps,h => by
  rw [plens,h p (by simp),plens_all ps (fun q hq => h q (by simp [hq])),List.length_cons,Nat.succ_mul]
  omega

theorem hd_append {w : World} {T t : TypeId} {sz bytes : Nat} {z : Value} {ps qs : List Pd} {v : Value} {cq : List Value} {bs bq : List Nat} (hT : Tryz.prog.underlying T = some (.slice t)) (hinfo : (Tryz.prog.info? t).map (fun i => (i.zero,i.size,i.bytes)) = some (some z,sz,bytes)) (hzc : z.cells.size = sz) (hsz : 0 < sz)
  (h : Hd w (.ls t sz ps) [v] bs) (hq : Hds w qs cq bq) (hqz : ∀ p ∈ qs,plen p = sz) (hdis : ∀ k ∈ bq,k ∉ bs) (ty : TypeId) (a : Addr) (c : Nat) (hc : ∀ (j : Nat) (u : Value),cq[j]? = some u → w.cell? (a.add j) = some u) (hn : (ps.length + qs.length) * bytes ≤ 140737488355328) (hn2 : ps.length + qs.length ≤ maxLen) :
  ∃ v' w' bs',(Builtin.append_ #[T,T] ty #[v,.slice (some a) qs.length c]).run Tryz.prog w = .ok v' w' ∧ Hd w' (.ls t sz (ps ++ qs)) [v'] bs' ∧ w.grownBy w' v.ownBlock ∧ (∀ k ∈ bs',k ∈ bs ∨ k ∈ bq ∨ k = w.heap.size) ∧ (v.ownBlock = none ∨ ∃ k,v.ownBlock = some k ∧ k ∈ bs) := by
 obtain ⟨i0,hi,hz0,hz1,hz2⟩ := info_parts hinfo
 generalize hp0 : Pd.ls t sz ps = p0 at h
 generalize hv0 : [v] = cv at h
 cases h with
 | one _ => cases hp0
 | st _ => cases hp0
 | ls ho hs hz hb =>
  rename_i t' sz' ps' v' cs' bs'
  simp only [Pd.ls.injEq] at hp0
  obtain ⟨rfl,rfl,rfl⟩ := hp0
  simp only [List.cons.injEq,and_true] at hv0
  subst hv0
  obtain ⟨v2,w2,hrun,h1,h2,_,h3⟩ := run_append_own_at (P := Tryz.prog) w 0 T ty t i0 z sz bytes hT hi hz0 hz1 hz2 hzc hsz v ps.length cs' ho a qs.length c cq (by rw [hq.len,plens_all qs hqz]) hc hq.ones hn2 hn (Nat.zero_le _)
  have hne : ∀ k,v.ownBlock = some k → k ∉ bq := fun k hk hm => hdis k hm (by simp [hk])
  have hs2 := hs.kept h2 (fun k hk => hb k hk)
  have hq2 := hq.kept h2 (fun k hk => hne k hk)
  have hall : Hds w2 (ps ++ qs) (cs' ++ cq) (bs' ++ bq) := hs2.join hq2 (fun k hk hm => hdis k hk (by simp [hm]))
  refine ⟨v2,w2,_,hrun,.ls (by rw [List.length_append]; exact h1) hall (fun p hp => ?_) (fun k hk hm => ?_),h2,fun k hk => ?_,?_⟩
  ·rcases List.mem_append.1 hp with hp | hp
   ·exact hz p hp
   ·exact hqz p hp
  ·rcases h3 with h3 | h3
   ·rw [h3] at hk
    rcases List.mem_append.1 hm with hm | hm
    ·exact hb k hk hm
    ·exact hne k hk hm
   ·rw [h3] at hk
    cases hk
    rcases List.mem_append.1 hm with hm | hm
    ·exact absurd (hs.lt _ hm) (Nat.lt_irrefl _)
    ·exact absurd (hq.lt _ hm) (Nat.lt_irrefl _)
  ·rcases List.mem_append.1 hk with hk | hk
   ·rcases h3 with h3 | h3
    ·rw [h3] at hk
     exact .inl (by simp at hk; simp [hk])
    ·rw [h3] at hk
     simp at hk
     exact .inr (.inr hk)
   ·rcases List.mem_append.1 hk with hk | hk
    ·exact .inl (by simp [hk])
    ·exact .inr (.inl hk)
  ·cases hq3 : v.ownBlock with
   | none => exact .inl rfl
   | some k => exact .inr ⟨k,rfl,by simp⟩

theorem Hd.open_ls {w : World} {t : TypeId} {sz : Nat} {ps : List Pd} {v : Value} {bs : List Nat} (h : Hd w (.ls t sz ps) [v] bs) : ∃ cs bi,w.ownsRow 0 t sz v ps.length cs ∧ Hds w ps cs bi ∧ (∀ p ∈ ps,plen p = sz) ∧ (∀ k,v.ownBlock = some k → k ∉ bi) ∧ bs = v.ownBlock.toList ++ bi := by
 generalize hp0 : Pd.ls t sz ps = p0 at h
 generalize hv0 : [v] = cv at h
 cases h with
 | one _ => cases hp0
 | st _ => cases hp0
 | ls ho hs hz hb =>
  simp only [Pd.ls.injEq] at hp0
  obtain ⟨rfl,rfl,rfl⟩ := hp0
  simp only [List.cons.injEq,and_true] at hv0
  subst hv0
  exact ⟨_,_,ho,hs,hz,hb,rfl⟩

theorem Hd.nil (w : World) (t : TypeId) (sz : Nat) : Hd w (.ls t sz []) [.slice none 0 0] [] := by
 have := Hd.ls (w := w) (t := t) (sz := sz) (ps := []) (v := .slice none 0 0) (cs := []) (bs := []) ⟨by simp,.inl ⟨rfl,rfl⟩⟩ .nil (by simp) (by simp)
 simpa [Value.ownBlock] using this

theorem Hd.slice {w : World} {t : TypeId} {sz : Nat} {ps : List Pd} {v : Value} {bs : List Nat} (h : Hd w (.ls t sz ps) [v] bs) : ∃ a c,v = .slice a ps.length c := by
 obtain ⟨cs,bi,ho,_⟩ := h.open_ls
 rcases ho.2 with ⟨rfl,hn⟩ | ⟨g,c,cur,rfl,_⟩
 ·exact ⟨none,0,by rw [hn]⟩
 ·exact ⟨_,c,rfl⟩

theorem hd_append2 {w : World} {T t : TypeId} {sz bytes : Nat} {z : Value} {ps qs : List Pd} {v vq : Value} {bs bq : List Nat} (hT : Tryz.prog.underlying T = some (.slice t)) (hinfo : (Tryz.prog.info? t).map (fun i => (i.zero,i.size,i.bytes)) = some (some z,sz,bytes)) (hzc : z.cells.size = sz) (hsz : 0 < sz)
  (h : Hd w (.ls t sz ps) [v] bs) (hq : Hd w (.ls t sz qs) [vq] bq) (hdis : ∀ k ∈ bq,k ∉ bs) (ty : TypeId) (hn : (ps.length + qs.length) * bytes ≤ 140737488355328) (hn2 : ps.length + qs.length ≤ maxLen) :
  ∃ v' w' bs',(Builtin.append_ #[T,T] ty #[v,vq]).run Tryz.prog w = .ok v' w' ∧ Hd w' (.ls t sz (ps ++ qs)) [v'] bs' ∧ w.grownBy w' v.ownBlock ∧ (∀ k ∈ bs',k ∈ bs ∨ (k ∈ bq ∧ vq.ownBlock ≠ some k) ∨ k = w.heap.size) ∧ (∀ k,v.ownBlock = some k → k ∈ bs) := by
 obtain ⟨cs1,bi1,ho1,hs1,hz1,hb1,rfl⟩ := h.open_ls
 obtain ⟨cq,bi,ho,hs,hz,hb,rfl⟩ := hq.open_ls
 have hown : ∀ k,v.ownBlock = some k → k ∈ v.ownBlock.toList ++ bi1 := fun k hk => by simp [hk]
 rcases ho.2 with ⟨rfl,hn0⟩ | ⟨g,c,cur,rfl,hg,hh,h1,h2,h3,h4⟩
 ·have hq0 : qs = [] := List.eq_nil_of_length_eq_zero hn0
  subst hq0
  obtain ⟨i0,hi,hz0,hz1',hz2⟩ := info_parts hinfo
  refine ⟨v,w,_,?_,by rw [List.append_nil]; exact h,⟨rfl,rfl,rfl,Nat.le_refl _,fun _ _ _ => rfl⟩,fun k hk => .inl hk,hown⟩
  rcases ho1.2 with ⟨rfl,hn1⟩ | ⟨g1,c1,cur1,rfl,hg1,hh1,k1,k2,k3,k4⟩
  ·simp [Builtin.append_,run_underlying hT,sizeOf,typeInfo,hi,Builtin.lenOf,Builtin.firstCells,loadCells,loadCellsFrom]
  ·simp [Builtin.append_,run_underlying hT,sizeOf,typeInfo,hi,Builtin.lenOf,Builtin.firstCells,loadCells,loadCellsFrom,storeCells,k1]
 ·obtain ⟨v',w',bs',hrun,hH,hgr,hbs,_⟩ := hd_append hT hinfo hzc hsz h hs hz (fun k hk => hdis k (by simp [hk])) ty ⟨g,0,none⟩ c (fun j u hj => by
   have hp : (⟨g,0,none⟩ : Addr).add j = ⟨g,j,none⟩ := by unfold Addr.add; split <;> simp_all
   have hjl : j < qs.length * sz := by rw [← ho.1]; exact (List.getElem?_eq_some_iff.1 hj).1
   rw [hp,ho.cellAt j (by omega)]
   exact hj) hn hn2
  refine ⟨v',w',bs',hrun,hH,hgr,fun k hk => ?_,hown⟩
  rcases hbs k hk with h9 | h9 | h9
  ·exact .inl h9
  ·exact .inr (.inl ⟨by simp [h9],fun e => hb k e h9⟩)
  ·exact .inr (.inr h9)

def ipd (zs : List Int) : Pd := .ls 3 1 (zs.map fun z => .one (.int .i64 z))

theorem hds_ones {w : World} : ∀ {zs : List Int} {cs : List Value} {bs : List Nat},Hds w (zs.map fun z => .one (.int .i64 z)) cs bs → bs = []
 | [],_,_,h => by cases h; rfl
 | z :: zs,_,_,h => by
  cases h with
  | cons h hs hd =>
   cases h
   rw [hds_ones hs]
   rfl

theorem ipd_blocks {w : World} {zs : List Int} {v : Value} {bs : List Nat} (h : Hd w (ipd zs) [v] bs) : bs = v.ownBlock.toList := by
 obtain ⟨cs,bi,ho,hs,hz,hb,rfl⟩ := h.open_ls
 rw [hds_ones hs,List.append_nil]

theorem ipd_slice {w : World} {zs : List Int} {v : Value} {bs : List Nat} (h : Hd w (ipd zs) [v] bs) : ∃ a c,v = .slice a zs.length c := by
 obtain ⟨a,c,e⟩ := Hd.slice h
 rw [List.length_map] at e
 exact ⟨a,c,e⟩

theorem wpList_append_eq {w : World} {ops : Array Oper} {rest : List Oper} {o : Oper} {f : Act} {Q : Exit → Act → World → Prop} (hgd : o.guard = none) (s x : Operand) (T : TypeId)
  (ho : o.op = .call { callee := .builtin .append,args := #[s,x],argTypes := #[T,T] }) {vs vx v' : Value} {w' : World} (hs : f.eval s = vs) (hx : f.eval x = vx) (hrun : (Builtin.append_ #[T,T] o.type #[vs,vx]).run Tryz.prog w = .ok v' w') (h : wpList Tryz.prog ops Q rest (f.put o.dst v') w') :
  wpList Tryz.prog ops Q (o :: rest) f w := by
 refine wpList_plain hgd fun K hK => ?_
 unfold Oper.wp
 simp [execOp,ho,resolve,invoke,builtin,hs,hx,hrun,Result.andThen]
 exact hK _ _ h

theorem hds_cells {w : World} : ∀ {cs : List Value},(∀ c ∈ cs,c.oneCell' = true) → Hds w (cs.map Pd.one) cs []
 | [],_ => .nil
 | c :: cs,h => by
  have := Hds.cons (Hd.one (w := w) (v := c) (h c (by simp))) (hds_cells (cs := cs) (fun x hx => h x (by simp [hx]))) (by simp)
  simpa using this

theorem ipd_block {w : World} {b : Nat} (zs : List Int) (h : w.heap[b]? = some (.cells (zs.map fun z => Value.int .i64 z).toArray 3 (0,0))) (hz : zs.length ≤ 1000) : Hd w (ipd zs) [.slice (some ⟨b,0,none⟩) zs.length zs.length] [b] := by
 have h1 : Hds w (zs.map fun z => Pd.one (.int .i64 z)) (zs.map fun z => Value.int .i64 z) [] := by
  have := hds_cells (w := w) (cs := zs.map fun z => Value.int .i64 z) (fun c hc => by obtain ⟨z,_,rfl⟩ := List.mem_map.1 hc; rfl)
  simpa [List.map_map,Function.comp_def] using this
 have h2 := Hd.ls (w := w) (t := 3) (sz := 1) (ps := zs.map fun z => Pd.one (.int .i64 z)) (v := .slice (some ⟨b,0,none⟩) zs.length zs.length) (cs := zs.map fun z => Value.int .i64 z) (bs := []) (by
  refine ⟨by simp,.inr ⟨b,zs.length,(zs.map fun z => Value.int .i64 z).toArray,by simp,?_⟩⟩
  refine ⟨Nat.zero_le _,h,by simp,by unfold maxLen; omega,by simp,?_⟩
  rw [List.take_of_length_le (by simp)]) h1 (fun p hp => by obtain ⟨z,_,rfl⟩ := List.mem_map.1 hp; rfl) (by simp)
 unfold ipd
 simpa [Value.ownBlock] using h2

end Go.Proofs.YtlekfcehmlepkaaGreatDoor
