/- Put together by a program out of these texts of mine: XFi2, XFi3, XAwk. -/
import Derived.Defers
import Derived.Recover
import Derived.Laws.EntriesVeiled
import Derived.Test.YtlekfcehmlepkaaGreatDoorBunD16
import Derived.Test.YtlekfcehmlepkaaGreatDoorBunD33
import Derived.Test.YtlekfcehmlepkaaGreatDoorBunD40

namespace Go.Proofs.YtlekfcehmlepkaaGreatDoor
open Go.RowKit
set_option linter.unusedVariables false
set_option linter.unusedSimpArgs false

theorem opsS_of_list {P : Program} {ops : Array Oper} {Q : Exit → Act → List Frame → World → Prop} {cs : List Frame} (hno : ¬ LetsOut (fun e a w => Q e a cs w)) : ∀ (os : List Oper) (k : Nat) (a : Act) (w : World),(∀ j,os[j]? = ops[k + j]? ∨ os.length ≤ j) → wpList P ops (fun e a w => Q e a cs w) os a w → wpOpsS P ops Q (List.range' k os.length) a cs w
 | [],k,a,w,_,h => h
 | o :: os,k,a,w,ho,h => by
  have h0 : ops[k]? = some o := by
   rcases ho 0 with h1 | h1
   ·simpa using h1.symm
   ·simp at h1
  have ih := fun a w => opsS_of_list (P := P) hno os (k + 1) a w (fun j => by
   rcases ho (j + 1) with h1 | h1
   ·left
    simpa [Nat.add_assoc,Nat.add_comm 1 j] using h1
   ·right
    simpa using h1)
  simp only [List.length_cons,List.range'_succ,wpOpsS,h0]
  simp only [wpList] at h
  split
  ·rename_i hw
   rw [if_pos hw] at h
   rcases h with h | h
   ·unfold Oper.wp at h
    generalize (execOp a.eval o).run P w = r at h ⊢
    split
    ·simp [Oper.upon] at h
    ·cases r with
     | ok n w' =>
      cases n <;> simp only [Oper.upon] at h ⊢ <;>
       first
        | exact ih _ _ h
        | exact Calls.mono h (fun e w'' he => by cases e <;> first | exact ih _ _ he | exact he)
        | exact Rows.mono h (fun _ _ he => ih _ _ he)
     | halt x w' => cases x <;> simp only [Oper.upon] at h ⊢ <;> exact h
   ·exact absurd h.2 hno
  ·rename_i hw
   rw [if_neg hw] at h
   exact ih _ _ h

theorem opsS_rest {P : Program} {ops : Array Oper} {Q : Exit → Act → List Frame → World → Prop} {cs : List Frame} {a : Act} {w : World} (k n : Nat) (hn : (ops.toList.drop k).length = n) (hno : ¬ LetsOut (fun e a w => Q e a cs w)) (h : wpList P ops (fun e a w => Q e a cs w) (ops.toList.drop k) a w) : wpOpsS P ops Q (List.range' k n) a cs w := by
 subst hn
 exact opsS_of_list hno _ k a w (fun j => .inl (by rw [List.getElem?_drop,Array.getElem?_toList])) h

theorem range_rest {α : Type} (l : List α) : List.range (l.length + 1) = 0 :: List.range' 1 l.length := by
 rw [List.range_eq_range',List.range'_succ]

theorem wpS_recover_none {P : Program} {id : Nat} {Q : Exit → Act → List Frame → World → Prop} {cs : List Frame} {a : Act} {w : World} {o : Oper} {os : List Oper} (hg : o.guard = none)
  (hop : o.op = .call { callee := .builtin .recover,args := #[],argTypes := #[] }) (hr : recoverD cs = none) (hno : ¬ LetsOut (fun e a w => Q e a cs w))
  (h : wpList P (o :: os).toArray (fun e a w => Q e a cs w) os (a.put o.dst .nilIface) w) : (Code.region id (o :: os).toArray false).wpS P Q a cs w := by
 refine wpS_region ?_
 have hw : Region.wanted o (yielded (o :: os).toArray a.tmps) = true := by simp [Region.wanted,hg]
 have hx : (execOp a.eval o).run P w = .ok .recover w := by simp [execOp,hop,resolve,invoke,builtin]
 rw [List.size_toArray,List.length_cons,range_rest]
 have h0 : (o :: os).toArray[0]? = some o := by simp
 simp only [wpOpsS,h0,hw,if_true,hx,hr]
 exact opsS_rest 1 _ (by simp) hno (by simpa using h)

set_option maxRecDepth 10000 in
set_option maxHeartbeats 1000000 in
theorem lcatch_idle (p : Addr) (w : World) :
  CallsD Tryz.prog 50 #[.pointer (some p)] .returning w fun e u' w' => e = .returned (.tuple #[]) ∧ u' = .returning ∧ w' = w.alloc (.cells #[.int .i64 0,.int .i64 0] 71) := by
 have hta : ∀ W,(Instr.typeAssert .nilIface 20 71 true).run Tryz.prog W = .ok (.tuple #[.agg #[.int .i64 0,.int .i64 0],.bool false]) W := fun W => by kernel_rfl
 refine callsD_of_wpS Tryz.func50 rfl fun c₀ cs hu => ?_
 have hr : recoverD (c₀ :: cs) = none := by simp [recoverD,hu]
 apply wpS_seq
 refine wpS_recover_none rfl rfl hr ?_ ?_
 ·rintro ⟨a,w,h⟩
  simp [Exit.thenS,bodyPostS] at h
 ·simp only [Tryz.ntmps50]
  go_wp2
  simp only [Exit.thenS]
  refine wpS_of_wp ?_
  simp only [Array.replicate_succ,Array.replicate_zero,List.push_toArray,List.append_toArray,List.nil_append,List.cons_append,List.setIfInBounds_toArray,List.set_cons_zero,List.set_cons_succ]
  go_wp2
  refine ⟨rfl,.returning,by cases c₀; simp_all,.tuple #[],?_,rfl,rfl,rfl⟩
  simp [results,Tryz.results50]

theorem Tryz.sizeFault : (Tryz.prog.info? 71).map (·.size) = some 2 := by kernel_rfl

theorem caught_res {tmps : Array Value} {V : World} {g1 g2 : Nat} {cs : Array Value} {x y : Value} (hs : cs.size = 11) (h4 : tmps[6]?.getD undef = .pointer (some ⟨g1,0,none⟩)) (h5 : tmps[7]?.getD undef = .pointer (some ⟨g2,0,none⟩)) (b0 : Ob V g1 cs 43) (b1 : Ob V g2 #[x,y] 71) :
  (results Tryz.f25 tmps).run Tryz.prog V = .ok (.tuple #[.agg cs,.agg #[x,y]]) V := by
 have hl := run_loadVar_row (P := Tryz.prog) V g2 71 71 #[x,y] (0,0) _ b1.eq Tryz.underlying71 rfl Tryz.sizeFault
 have hl0 := run_loadVar_row (P := Tryz.prog) V g1 43 43 cs (0,0) _ b0.eq Tryz.underlying43 rfl (Tryz.sizeFile.trans (by rw [hs]))
 simp [results,Tryz.results25,h4,h5,asAddr,hl,hl0]

set_option maxRecDepth 20000 in
set_option maxHeartbeats 4000000 in
theorem pcaught_a {w : World} {ad : Option Addr} {c : Nat} {ad2 : Option Addr} {c2 : Nat} {ad3 : Option Addr} {c3 : Nat} {ad4 : Option Addr} {c4 : Nat} (h : TnOk w (tA ad c (tM ad2 c2 (tF ad3 c3 (tT ad4 c4))))) (W : World) (hT : Hid (LoTab W)) (hB : Below w.heap.size w W) {g : Nat} {av : Value} (hg : Ob W g #[.bool false,av] 69) :
  Calls Tryz.prog 25 #[.pointer (some ⟨g,0,none⟩),(tA ad c (tM ad2 c2 (tF ad3 c3 (tT ad4 c4)))).val,.string (strOfNums [120])] W fun e W' => ∃ mb mc fb fc,e = .returned (.tuple #[.agg (gA (strOfNums [120]) (.slice (some ⟨mb,0,none⟩) 1 mc)),.agg #[.int .i64 0,.int .i64 0]]) ∧ Below W.heap.size W W' ∧ (W.heap.size ≤ mb ∧ W.heap.size ≤ fb) ∧ mb < W'.heap.size ∧ fb < W'.heap.size ∧ (∀ (j : Nat) (v : Value),(mA (strOfNums [65]) (.slice (some ⟨fb,0,none⟩) 1 fc))[j]? = some v → W'.cell? ⟨mb,j,none⟩ = some v) ∧ ∀ (j : Nat) (v : Value),(fA 5 (strOfNums [98]))[j]? = some v → W'.cell? ⟨fb,j,none⟩ = some v := by
 have hmf : ∀ (fn : Fn) (first cap : Array Value) (w : World),(Instr.makeFunc fn first cap).run Tryz.prog w = .ok (.func fn first cap) w := fun _ _ _ _ => rfl
 have QF : Hid _ := fun V (hV : Below W.heap.size W V) => pfile_a h V (show Hid _ from hT.out.below hV (Nat.le_refl _)) (hB.trans (hV.mono hB.size)) (hg.below hV hg.lt)
 unfold tA Tn.val Tn.cells at QF ⊢
 simp only [List.length_cons,List.length_nil,Nat.zero_add,gA] at QF ⊢
 obtain ⟨D,HD⟩ : ∃ D,Hid (D = strOfNums []) := ⟨_,rfl⟩
 obtain ⟨Z,HZ⟩ : ∃ Z,Hid (Z = strOfNums [120]) := ⟨_,rfl⟩
 simp only [← HD.out,← HZ.out] at QF ⊢
 clear h hB hg hT
 obtain ⟨w3,hw3⟩ : ∃ w3,w3 = ((W.alloc (.cells #[.int .i64 1,.string D,.int .i64 0,.int .i64 0,.int .i64 0,.int .i64 0,.string D,.slice ad 1 c] 28)).alloc (.cells #[.string ⟨#[]⟩,.string ⟨#[]⟩,.slice none 0 0,.slice none 0 0,.slice none 0 0,.slice none 0 0,.slice none 0 0,.slice none 0 0,.string ⟨#[]⟩,.slice none 0 0,.slice none 0 0] 43)).alloc (.cells #[.int .i64 0,.int .i64 0] 71) := ⟨_,rfl⟩
 have o0 : Hid (Ob w3 W.heap.size #[.int .i64 1,.string D,.int .i64 0,.int .i64 0,.int .i64 0,.int .i64 0,.string D,.slice ad 1 c] 28) := by rw [hw3]; exact ((Ob.new W _ _).alloc _).alloc _
 have o1 : Hid (Ob w3 (W.heap.size + 1) #[.string ⟨#[]⟩,.string ⟨#[]⟩,.slice none 0 0,.slice none 0 0,.slice none 0 0,.slice none 0 0,.slice none 0 0,.slice none 0 0,.string ⟨#[]⟩,.slice none 0 0,.slice none 0 0] 43) := by
  rw [hw3]
  have := (Ob.new (W.alloc (.cells #[.int .i64 1,.string D,.int .i64 0,.int .i64 0,.int .i64 0,.int .i64 0,.string D,.slice ad 1 c] 28)) #[.string ⟨#[]⟩,.string ⟨#[]⟩,.slice none 0 0,.slice none 0 0,.slice none 0 0,.slice none 0 0,.slice none 0 0,.slice none 0 0,.string ⟨#[]⟩,.slice none 0 0,.slice none 0 0] 43).alloc (.cells #[.int .i64 0,.int .i64 0] 71)
  show Ob _ _ _ _
  simpa using this
 have o2 : Hid (Ob w3 (W.heap.size + 1 + 1) #[.int .i64 0,.int .i64 0] 71) := by
  rw [hw3]
  have := Ob.new ((W.alloc (.cells #[.int .i64 1,.string D,.int .i64 0,.int .i64 0,.int .i64 0,.int .i64 0,.string D,.slice ad 1 c] 28)).alloc (.cells #[.string ⟨#[]⟩,.string ⟨#[]⟩,.slice none 0 0,.slice none 0 0,.slice none 0 0,.slice none 0 0,.slice none 0 0,.slice none 0 0,.string ⟨#[]⟩,.slice none 0 0,.slice none 0 0] 43)) #[.int .i64 0,.int .i64 0] 71
  show Ob _ _ _ _
  simpa using this
 have HB3 : Hid (Below W.heap.size W w3) := by rw [hw3]; exact (((Below.refl _ W).alloc (Nat.le_refl _) _).alloc (by simp) _).alloc (by simp; omega) _
 have HW3 : Hid _ := hw3
 clear hw3
 obtain ⟨⟨a0,a1,a2,a3,a4,a5,a6,a7⟩,_,al⟩ := ob8 o0.out
 have Q3 : Hid _ := QF.out w3 HB3.out
 go_enter_defers Tryz.func25,Tryz.ntmps25
 go_upto_region 2 with fail
 rw [← HW3.out]
 clear HW3 QF
 go_wp2_with fail
 refine Calls.mono Q3.out ?_
 rintro e w4 ⟨mb,mc,fb,fc,rfl,hb4,⟨x5,x6⟩,x1,x2,x3,x4⟩
 have q1 := o1.out.below hb4 o1.out.lt
 have q2 := o2.out.below hb4 o2.out.lt
 have HB4 : Hid (Below W.heap.size W w4) := HB3.out.trans (hb4.mono HB3.out.size)
 have HNE : Hid (mb ≠ W.heap.size + 1 ∧ mb ≠ W.heap.size + 1 + 1 ∧ fb ≠ W.heap.size + 1 ∧ fb ≠ W.heap.size + 1 + 1) := by
  have k1 := o2.out.lt
  exact ⟨by omega,by omega,by omega,by omega⟩
 have X1 : Hid (mb < w4.heap.size ∧ fb < w4.heap.size) := ⟨x1,x2⟩
 have X5 : Hid (W.heap.size ≤ mb ∧ W.heap.size ≤ fb) := ⟨Nat.le_trans HB3.out.size x5,Nat.le_trans HB3.out.size x6⟩
 have X3 : Hid (∀ (j : Nat) (v : Value),(mA (strOfNums [65]) (.slice (some ⟨fb,0,none⟩) 1 fc))[j]? = some v → w4.cell? ⟨mb,j,none⟩ = some v) := x3
 have X4 : Hid (∀ (j : Nat) (v : Value),(fA 5 (strOfNums [98]))[j]? = some v → w4.cell? ⟨fb,j,none⟩ = some v) := x4
 obtain ⟨⟨c0,c1,c2',c3',c4',c5,c6,c7,c8,c9,c10⟩,⟨d0,d1,d2,d3,d4,d5,d6,d7,d8,d9,d10⟩,dl⟩ := ob11 q1
 have e0 := q2.cell 0 rfl
 have e1 := q2.cell 1 rfl
 have e2 := q2.frozen 0
 have e3 := q2.frozen 1
 have e4 := q2.lt
 have Q1 : Hid _ := q1
 have Q2 : Hid _ := q2
 clear q1 q2 hb4 x1 x2 x3 x4 x5 x6 a0 a1 a2 a3 a4 a5 a6 a7 al o0 o1 o2 HB3 Q3
 go_wp2
 refine leaves_cons (f := 50) (args := #[.pointer (some ⟨W.heap.size + 1 + 1,0,none⟩)]) (by simp) (by simp [go_sem]) ?_
 refine (lcatch_idle _ _).mono ?_
 rintro e u' w5 ⟨rfl,rfl,rfl⟩
 have s1 : Ob ((((((((((((((w4.setCell ⟨W.heap.size + 1,0,none⟩ (.string Z)).setCell ⟨W.heap.size + 1,1,none⟩ (.string ⟨#[]⟩)).setCell ⟨W.heap.size + 1,2,none⟩ (.slice none 0 0)).setCell ⟨W.heap.size + 1,3,none⟩ (.slice none 0 0)).setCell ⟨W.heap.size + 1,4,none⟩ (.slice (some ⟨mb,0,none⟩) 1 mc)).setCell ⟨W.heap.size + 1,5,none⟩ (.slice none 0 0)).setCell ⟨W.heap.size + 1,6,none⟩ (.slice none 0 0)).setCell ⟨W.heap.size + 1,7,none⟩ (.slice none 0 0)).setCell ⟨W.heap.size + 1,8,none⟩ (.string ⟨#[]⟩)).setCell ⟨W.heap.size + 1,9,none⟩ (.slice none 0 0)).setCell ⟨W.heap.size + 1,10,none⟩ (.slice none 0 0)).setCell ⟨W.heap.size + 1 + 1,0,none⟩ (.int .i64 0)).setCell ⟨W.heap.size + 1 + 1,1,none⟩ (.int .i64 0))) (W.heap.size + 1) #[.string Z,.string ⟨#[]⟩,.slice none 0 0,.slice none 0 0,.slice (some ⟨mb,0,none⟩) 1 mc,.slice none 0 0,.slice none 0 0,.slice none 0 0,.string ⟨#[]⟩,.slice none 0 0,.slice none 0 0] 43 := by
  have := (((((((((((Q1.out.set 0 (.string Z)).set 1 (.string ⟨#[]⟩)).set 2 (.slice none 0 0)).set 3 (.slice none 0 0)).set 4 (.slice (some ⟨mb,0,none⟩) 1 mc)).set 5 (.slice none 0 0)).set 6 (.slice none 0 0)).set 7 (.slice none 0 0)).set 8 (.string ⟨#[]⟩)).set 9 (.slice none 0 0)).set 10 (.slice none 0 0))
  have h9 := (this.other (b' := W.heap.size + 1 + 1) (by omega) 0 (.int .i64 0)).other (b' := W.heap.size + 1 + 1) (by omega) 1 (.int .i64 0)
  simpa using h9
 have s2 : Ob ((((((((((((((w4.setCell ⟨W.heap.size + 1,0,none⟩ (.string Z)).setCell ⟨W.heap.size + 1,1,none⟩ (.string ⟨#[]⟩)).setCell ⟨W.heap.size + 1,2,none⟩ (.slice none 0 0)).setCell ⟨W.heap.size + 1,3,none⟩ (.slice none 0 0)).setCell ⟨W.heap.size + 1,4,none⟩ (.slice (some ⟨mb,0,none⟩) 1 mc)).setCell ⟨W.heap.size + 1,5,none⟩ (.slice none 0 0)).setCell ⟨W.heap.size + 1,6,none⟩ (.slice none 0 0)).setCell ⟨W.heap.size + 1,7,none⟩ (.slice none 0 0)).setCell ⟨W.heap.size + 1,8,none⟩ (.string ⟨#[]⟩)).setCell ⟨W.heap.size + 1,9,none⟩ (.slice none 0 0)).setCell ⟨W.heap.size + 1,10,none⟩ (.slice none 0 0)).setCell ⟨W.heap.size + 1 + 1,0,none⟩ (.int .i64 0)).setCell ⟨W.heap.size + 1 + 1,1,none⟩ (.int .i64 0))) (W.heap.size + 1 + 1) #[.int .i64 0,.int .i64 0] 71 := by
  have := (((((((((((Q2.out.other (b' := W.heap.size + 1) (by omega) 0 (.string Z)).other (b' := W.heap.size + 1) (by omega) 1 (.string ⟨#[]⟩)).other (b' := W.heap.size + 1) (by omega) 2 (.slice none 0 0)).other (b' := W.heap.size + 1) (by omega) 3 (.slice none 0 0)).other (b' := W.heap.size + 1) (by omega) 4 (.slice (some ⟨mb,0,none⟩) 1 mc)).other (b' := W.heap.size + 1) (by omega) 5 (.slice none 0 0)).other (b' := W.heap.size + 1) (by omega) 6 (.slice none 0 0)).other (b' := W.heap.size + 1) (by omega) 7 (.slice none 0 0)).other (b' := W.heap.size + 1) (by omega) 8 (.string ⟨#[]⟩)).other (b' := W.heap.size + 1) (by omega) 9 (.slice none 0 0)).other (b' := W.heap.size + 1) (by omega) 10 (.slice none 0 0))
  have h9 := (this.set 0 (.int .i64 0)).set 1 (.int .i64 0)
  simpa using h9
 have HBL : Below W.heap.size W ((((((((((((((w4.setCell ⟨W.heap.size + 1,0,none⟩ (.string Z)).setCell ⟨W.heap.size + 1,1,none⟩ (.string ⟨#[]⟩)).setCell ⟨W.heap.size + 1,2,none⟩ (.slice none 0 0)).setCell ⟨W.heap.size + 1,3,none⟩ (.slice none 0 0)).setCell ⟨W.heap.size + 1,4,none⟩ (.slice (some ⟨mb,0,none⟩) 1 mc)).setCell ⟨W.heap.size + 1,5,none⟩ (.slice none 0 0)).setCell ⟨W.heap.size + 1,6,none⟩ (.slice none 0 0)).setCell ⟨W.heap.size + 1,7,none⟩ (.slice none 0 0)).setCell ⟨W.heap.size + 1,8,none⟩ (.string ⟨#[]⟩)).setCell ⟨W.heap.size + 1,9,none⟩ (.slice none 0 0)).setCell ⟨W.heap.size + 1,10,none⟩ (.slice none 0 0)).setCell ⟨W.heap.size + 1 + 1,0,none⟩ (.int .i64 0)).setCell ⟨W.heap.size + 1 + 1,1,none⟩ (.int .i64 0))) := (((((((((((((HB4.out.setCell (p := ⟨W.heap.size + 1,0,none⟩) (by simp) _).setCell (p := ⟨W.heap.size + 1,1,none⟩) (by simp) _).setCell (p := ⟨W.heap.size + 1,2,none⟩) (by simp) _).setCell (p := ⟨W.heap.size + 1,3,none⟩) (by simp) _).setCell (p := ⟨W.heap.size + 1,4,none⟩) (by simp) _).setCell (p := ⟨W.heap.size + 1,5,none⟩) (by simp) _).setCell (p := ⟨W.heap.size + 1,6,none⟩) (by simp) _).setCell (p := ⟨W.heap.size + 1,7,none⟩) (by simp) _).setCell (p := ⟨W.heap.size + 1,8,none⟩) (by simp) _).setCell (p := ⟨W.heap.size + 1,9,none⟩) (by simp) _).setCell (p := ⟨W.heap.size + 1,10,none⟩) (by simp) _).setCell (p := ⟨W.heap.size + 1 + 1,0,none⟩) (by simp; omega) _).setCell (p := ⟨W.heap.size + 1 + 1,1,none⟩) (by simp; omega) _)
 have hsz : ((((((((((((((w4.setCell ⟨W.heap.size + 1,0,none⟩ (.string Z)).setCell ⟨W.heap.size + 1,1,none⟩ (.string ⟨#[]⟩)).setCell ⟨W.heap.size + 1,2,none⟩ (.slice none 0 0)).setCell ⟨W.heap.size + 1,3,none⟩ (.slice none 0 0)).setCell ⟨W.heap.size + 1,4,none⟩ (.slice (some ⟨mb,0,none⟩) 1 mc)).setCell ⟨W.heap.size + 1,5,none⟩ (.slice none 0 0)).setCell ⟨W.heap.size + 1,6,none⟩ (.slice none 0 0)).setCell ⟨W.heap.size + 1,7,none⟩ (.slice none 0 0)).setCell ⟨W.heap.size + 1,8,none⟩ (.string ⟨#[]⟩)).setCell ⟨W.heap.size + 1,9,none⟩ (.slice none 0 0)).setCell ⟨W.heap.size + 1,10,none⟩ (.slice none 0 0)).setCell ⟨W.heap.size + 1 + 1,0,none⟩ (.int .i64 0)).setCell ⟨W.heap.size + 1 + 1,1,none⟩ (.int .i64 0))).heap.size = w4.heap.size := by simp
 have hcm : ∀ (j : Nat),((((((((((((((w4.setCell ⟨W.heap.size + 1,0,none⟩ (.string Z)).setCell ⟨W.heap.size + 1,1,none⟩ (.string ⟨#[]⟩)).setCell ⟨W.heap.size + 1,2,none⟩ (.slice none 0 0)).setCell ⟨W.heap.size + 1,3,none⟩ (.slice none 0 0)).setCell ⟨W.heap.size + 1,4,none⟩ (.slice (some ⟨mb,0,none⟩) 1 mc)).setCell ⟨W.heap.size + 1,5,none⟩ (.slice none 0 0)).setCell ⟨W.heap.size + 1,6,none⟩ (.slice none 0 0)).setCell ⟨W.heap.size + 1,7,none⟩ (.slice none 0 0)).setCell ⟨W.heap.size + 1,8,none⟩ (.string ⟨#[]⟩)).setCell ⟨W.heap.size + 1,9,none⟩ (.slice none 0 0)).setCell ⟨W.heap.size + 1,10,none⟩ (.slice none 0 0)).setCell ⟨W.heap.size + 1 + 1,0,none⟩ (.int .i64 0)).setCell ⟨W.heap.size + 1 + 1,1,none⟩ (.int .i64 0))).cell? ⟨mb,j,none⟩ = w4.cell? ⟨mb,j,none⟩ := fun j => by
  have n1 := HNE.out.1
  have n2 := HNE.out.2.1
  rw [cell_other _ _ _ _ _ n2,cell_other _ _ _ _ _ n2,cell_other _ _ _ _ _ n1,cell_other _ _ _ _ _ n1,cell_other _ _ _ _ _ n1,cell_other _ _ _ _ _ n1,cell_other _ _ _ _ _ n1,cell_other _ _ _ _ _ n1,cell_other _ _ _ _ _ n1,cell_other _ _ _ _ _ n1,cell_other _ _ _ _ _ n1,cell_other _ _ _ _ _ n1,cell_other _ _ _ _ _ n1]
 have hcf : ∀ (j : Nat),((((((((((((((w4.setCell ⟨W.heap.size + 1,0,none⟩ (.string Z)).setCell ⟨W.heap.size + 1,1,none⟩ (.string ⟨#[]⟩)).setCell ⟨W.heap.size + 1,2,none⟩ (.slice none 0 0)).setCell ⟨W.heap.size + 1,3,none⟩ (.slice none 0 0)).setCell ⟨W.heap.size + 1,4,none⟩ (.slice (some ⟨mb,0,none⟩) 1 mc)).setCell ⟨W.heap.size + 1,5,none⟩ (.slice none 0 0)).setCell ⟨W.heap.size + 1,6,none⟩ (.slice none 0 0)).setCell ⟨W.heap.size + 1,7,none⟩ (.slice none 0 0)).setCell ⟨W.heap.size + 1,8,none⟩ (.string ⟨#[]⟩)).setCell ⟨W.heap.size + 1,9,none⟩ (.slice none 0 0)).setCell ⟨W.heap.size + 1,10,none⟩ (.slice none 0 0)).setCell ⟨W.heap.size + 1 + 1,0,none⟩ (.int .i64 0)).setCell ⟨W.heap.size + 1 + 1,1,none⟩ (.int .i64 0))).cell? ⟨fb,j,none⟩ = w4.cell? ⟨fb,j,none⟩ := fun j => by
  have n1 := HNE.out.2.2.1
  have n2 := HNE.out.2.2.2
  rw [cell_other _ _ _ _ _ n2,cell_other _ _ _ _ _ n2,cell_other _ _ _ _ _ n1,cell_other _ _ _ _ _ n1,cell_other _ _ _ _ _ n1,cell_other _ _ _ _ _ n1,cell_other _ _ _ _ _ n1,cell_other _ _ _ _ _ n1,cell_other _ _ _ _ _ n1,cell_other _ _ _ _ _ n1,cell_other _ _ _ _ _ n1,cell_other _ _ _ _ _ n1,cell_other _ _ _ _ _ n1]
 generalize ((((((((((((((w4.setCell ⟨W.heap.size + 1,0,none⟩ (.string Z)).setCell ⟨W.heap.size + 1,1,none⟩ (.string ⟨#[]⟩)).setCell ⟨W.heap.size + 1,2,none⟩ (.slice none 0 0)).setCell ⟨W.heap.size + 1,3,none⟩ (.slice none 0 0)).setCell ⟨W.heap.size + 1,4,none⟩ (.slice (some ⟨mb,0,none⟩) 1 mc)).setCell ⟨W.heap.size + 1,5,none⟩ (.slice none 0 0)).setCell ⟨W.heap.size + 1,6,none⟩ (.slice none 0 0)).setCell ⟨W.heap.size + 1,7,none⟩ (.slice none 0 0)).setCell ⟨W.heap.size + 1,8,none⟩ (.string ⟨#[]⟩)).setCell ⟨W.heap.size + 1,9,none⟩ (.slice none 0 0)).setCell ⟨W.heap.size + 1,10,none⟩ (.slice none 0 0)).setCell ⟨W.heap.size + 1 + 1,0,none⟩ (.int .i64 0)).setCell ⟨W.heap.size + 1 + 1,1,none⟩ (.int .i64 0))) = V at s1 s2 HBL hsz hcm hcf ⊢
 have hA : Below V.heap.size V (V.alloc (.cells #[.int .i64 0,.int .i64 0] 71)) := (Below.refl _ _).alloc (Nat.le_refl _) _
 refine ⟨.tuple #[.agg #[.string Z,.string ⟨#[]⟩,.slice none 0 0,.slice none 0 0,.slice (some ⟨mb,0,none⟩) 1 mc,.slice none 0 0,.slice none 0 0,.slice none 0 0,.string ⟨#[]⟩,.slice none 0 0,.slice none 0 0],.agg #[.int .i64 0,.int .i64 0]],caught_res rfl rfl rfl (s1.alloc _) (s2.alloc _),mb,mc,fb,fc,rfl,HBL.trans (hA.mono HBL.size),X5.out,?_,?_,fun j v hj => ?_,fun j v hj => ?_⟩
 ·have := X1.out.1; simp; omega
 ·have := X1.out.2; simp; omega
 ·rw [hA.cell (by rw [hsz]; exact X1.out.1),hcm]; exact X3.out j v hj
 ·rw [hA.cell (by rw [hsz]; exact X1.out.2),hcf]; exact X4.out j v hj

theorem file_ret {R : Ending → World → Prop} {a : Act} {V : World} {g1 : Nat} {cs : Array Value} {x y z : Value} (hs : cs.size = 11) (h4 : a.tmps[4]?.getD undef = .pointer (some ⟨g1,0,none⟩)) (h5 : a.tmps[5]?.getD undef = x) (h6 : a.tmps[6]?.getD undef = y) (h7 : a.tmps[7]?.getD undef = z) (b0 : Ob V g1 cs 43) (hd : a.defers = []) (hR : R (.returned (.tuple #[.agg cs,x,y,z])) V) : bodyPost Tryz.prog Tryz.f15 R .ret a V := by
 refine bodyPost_ret (v := .tuple #[.agg cs,x,y,z]) ?_ hd hR
 have hl0 := run_loadVar_row (P := Tryz.prog) V g1 43 43 cs (0,0) _ b0.eq Tryz.underlying43 rfl (Tryz.sizeFile.trans (by rw [hs]))
 simp [results,Tryz.results15,h4,h5,h6,h7,asAddr,hl0]

set_option maxRecDepth 20000 in
set_option maxHeartbeats 4000000 in
theorem pFile_a {w : World} {ad : Option Addr} {c : Nat} {ad2 : Option Addr} {c2 : Nat} {ad3 : Option Addr} {c3 : Nat} {ad4 : Option Addr} {c4 : Nat} (h : TnOk w (tA ad c (tM ad2 c2 (tF ad3 c3 (tT ad4 c4))))) (W : World) (hT : Hid (LoTab W)) (hB : Below w.heap.size w W) :
  Calls Tryz.prog 15 #[(tA ad c (tM ad2 c2 (tF ad3 c3 (tT ad4 c4)))).val,.string (strOfNums [120])] W fun e W' => ∃ mb mc fb fc,e = .returned (.tuple #[.agg (gA (strOfNums [120]) (.slice (some ⟨mb,0,none⟩) 1 mc)),.slice none 0 0,.int .i64 0,.int .i64 0]) ∧ Below W.heap.size W W' ∧ mb < W'.heap.size ∧ fb < W'.heap.size ∧ (∀ (j : Nat) (v : Value),(mA (strOfNums [65]) (.slice (some ⟨fb,0,none⟩) 1 fc))[j]? = some v → W'.cell? ⟨mb,j,none⟩ = some v) ∧ ∀ (j : Nat) (v : Value),(fA 5 (strOfNums [98]))[j]? = some v → W'.cell? ⟨fb,j,none⟩ = some v := by
 have QK : Hid (∀ V,Below W.heap.size W V → Calls Tryz.prog 24 #[(tA ad c (tM ad2 c2 (tF ad3 c3 (tT ad4 c4)))).val] V fun e W' => e = .returned (.bool true) ∧ Below V.heap.size V W') := fun V hV => by
  have := pcheck_all h (tfew_short rfl) V (show Hid _ from (hT.out.below hV (Nat.le_refl _)).1) (hB.trans (hV.mono hB.size))
  rw [show pcheckB (tA ad c (tM ad2 c2 (tF ad3 c3 (tT ad4 c4)))) = true from by kernel_rfl] at this
  exact this
 have QC : Hid _ := fun V g (hV : Below W.heap.size W V) (hg : Ob V g #[.bool false,.slice none 0 0] 69) => pcaught_a h V (show Hid _ from hT.out.below hV (Nat.le_refl _)) (hB.trans (hV.mono hB.size)) hg
 unfold tA Tn.val Tn.cells at QK QC ⊢
 simp only [List.length_cons,List.length_nil,Nat.zero_add,gA] at QK QC ⊢
 have hne : ((strOfNums []).toList == [112,114,111,116,111,51]) = false := by kernel_rfl
 obtain ⟨D,HD⟩ : ∃ D,Hid (D = strOfNums []) := ⟨_,rfl⟩
 obtain ⟨Z,HZ⟩ : ∃ Z,Hid (Z = strOfNums [120]) := ⟨_,rfl⟩
 simp only [← HD.out,← HZ.out] at QK QC hne ⊢
 clear h hB hT
 obtain ⟨w2,hw2⟩ : ∃ w2,w2 = (W.alloc (.cells #[.int .i64 1,.string D,.int .i64 0,.int .i64 0,.int .i64 0,.int .i64 0,.string D,.slice ad 1 c] 28)).alloc (.cells #[.string ⟨#[]⟩,.string ⟨#[]⟩,.slice none 0 0,.slice none 0 0,.slice none 0 0,.slice none 0 0,.slice none 0 0,.slice none 0 0,.string ⟨#[]⟩,.slice none 0 0,.slice none 0 0] 43) := ⟨_,rfl⟩
 have o0 : Hid (Ob w2 W.heap.size #[.int .i64 1,.string D,.int .i64 0,.int .i64 0,.int .i64 0,.int .i64 0,.string D,.slice ad 1 c] 28) := by rw [hw2]; exact (Ob.new W _ _).alloc _
 have o1 : Hid (Ob w2 (W.heap.size + 1) #[.string ⟨#[]⟩,.string ⟨#[]⟩,.slice none 0 0,.slice none 0 0,.slice none 0 0,.slice none 0 0,.slice none 0 0,.slice none 0 0,.string ⟨#[]⟩,.slice none 0 0,.slice none 0 0] 43) := by
  rw [hw2]
  have := Ob.new (W.alloc (.cells #[.int .i64 1,.string D,.int .i64 0,.int .i64 0,.int .i64 0,.int .i64 0,.string D,.slice ad 1 c] 28)) #[.string ⟨#[]⟩,.string ⟨#[]⟩,.slice none 0 0,.slice none 0 0,.slice none 0 0,.slice none 0 0,.slice none 0 0,.slice none 0 0,.string ⟨#[]⟩,.slice none 0 0,.slice none 0 0] 43
  show Ob _ _ _ _
  simpa using this
 have HB2 : Hid (Below W.heap.size W w2) := by rw [hw2]; exact ((Below.refl _ W).alloc (Nat.le_refl _) _).alloc (by simp) _
 have HW2 : Hid _ := hw2
 clear hw2
 obtain ⟨⟨a0,a1,a2,a3,a4,a5,a6,a7⟩,_,al⟩ := ob8 o0.out
 have QK2 : Hid _ := QK.out w2 HB2.out
 go_enter Tryz.func15,Tryz.ntmps15
 go_upto_region 1 with fail
 rw [← HW2.out]
 clear HW2
 go_wp2_with fail
 refine Calls.mono QK2.out ?_
 rintro e w3 ⟨rfl,hb3⟩
 clear QK QK2 a0 a1 a2 a3 a4 a5 a6 a7 al
 have p0 : Hid (Ob w3 W.heap.size #[.int .i64 1,.string D,.int .i64 0,.int .i64 0,.int .i64 0,.int .i64 0,.string D,.slice ad 1 c] 28) := o0.out.below hb3 o0.out.lt
 have p1 : Hid (Ob w3 (W.heap.size + 1) #[.string ⟨#[]⟩,.string ⟨#[]⟩,.slice none 0 0,.slice none 0 0,.slice none 0 0,.slice none 0 0,.slice none 0 0,.slice none 0 0,.string ⟨#[]⟩,.slice none 0 0,.slice none 0 0] 43) := o1.out.below hb3 o1.out.lt
 have HB3 : Hid (Below W.heap.size W w3) := HB2.out.trans (hb3.mono HB2.out.size)
 clear hb3 o0 o1 HB2
 have a1 := p0.out.cell 1 rfl
 have al := p0.out.lt
 obtain ⟨w4,hw4⟩ : ∃ w4,w4 = w3.alloc (.cells #[.bool false,.slice none 0 0] 69) := ⟨_,rfl⟩
 have q0 : Hid (Ob w4 W.heap.size #[.int .i64 1,.string D,.int .i64 0,.int .i64 0,.int .i64 0,.int .i64 0,.string D,.slice ad 1 c] 28) := by rw [hw4]; exact p0.out.alloc _
 have q1 : Hid (Ob w4 (W.heap.size + 1) #[.string ⟨#[]⟩,.string ⟨#[]⟩,.slice none 0 0,.slice none 0 0,.slice none 0 0,.slice none 0 0,.slice none 0 0,.slice none 0 0,.string ⟨#[]⟩,.slice none 0 0,.slice none 0 0] 43) := by rw [hw4]; exact p1.out.alloc _
 have q2 : Hid (Ob w4 w3.heap.size #[.bool false,.slice none 0 0] 69) := by rw [hw4]; exact Ob.new _ _ _
 have HB4 : Hid (Below W.heap.size W w4) := by rw [hw4]; exact HB3.out.alloc HB3.out.size _
 have HLW : Hid (W.heap.size + 1 < w3.heap.size) := p1.out.lt
 go_upto_region 4 with fail
 rw [← hw4]
 clear hw4 p0 p1 HB3 a1 al
 obtain ⟨⟨a0,a1,a2,a3,a4,a5,a6,a7⟩,_,al⟩ := ob8 q0.out
 have QC4 : Hid _ := QC.out w4 w3.heap.size HB4.out q2.out
 go_wp2_with fail
 refine Calls.mono QC4.out ?_
 rintro e w5 ⟨mb,mc,fb,fc,rfl,hb5,⟨x5,x6⟩,x1,x2,x3,x4⟩
 have p1 : Hid (Ob w5 (W.heap.size + 1) #[.string ⟨#[]⟩,.string ⟨#[]⟩,.slice none 0 0,.slice none 0 0,.slice none 0 0,.slice none 0 0,.slice none 0 0,.slice none 0 0,.string ⟨#[]⟩,.slice none 0 0,.slice none 0 0] 43) := q1.out.below hb5 q1.out.lt
 have p2 : Hid (Ob w5 w3.heap.size #[.bool false,.slice none 0 0] 69) := q2.out.below hb5 q2.out.lt
 have HB5 : Hid (Below W.heap.size W w5) := HB4.out.trans (hb5.mono HB4.out.size)
 have HNE : Hid (mb ≠ W.heap.size + 1 ∧ fb ≠ W.heap.size + 1) := by
  have k1 := q1.out.lt
  exact ⟨by omega,by omega⟩
 have HLB : Hid (W.heap.size + 1 < w3.heap.size ∧ w3.heap.size < w5.heap.size) := ⟨HLW.out,p2.out.lt⟩
 obtain ⟨w7,hw7⟩ : ∃ w7,w7 = (w5.alloc (.cells #[.string Z,.string ⟨#[]⟩,.slice none 0 0,.slice none 0 0,.slice (some ⟨mb,0,none⟩) 1 mc,.slice none 0 0,.slice none 0 0,.slice none 0 0,.string ⟨#[]⟩,.slice none 0 0,.slice none 0 0] 43)).alloc (.cells #[.int .i64 0,.int .i64 0] 71) := ⟨_,rfl⟩
 have r1 : Hid (Ob w7 (W.heap.size + 1) #[.string ⟨#[]⟩,.string ⟨#[]⟩,.slice none 0 0,.slice none 0 0,.slice none 0 0,.slice none 0 0,.slice none 0 0,.slice none 0 0,.string ⟨#[]⟩,.slice none 0 0,.slice none 0 0] 43) := by rw [hw7]; exact (p1.out.alloc _).alloc _
 have r2 : Hid (Ob w7 w3.heap.size #[.bool false,.slice none 0 0] 69) := by rw [hw7]; exact (p2.out.alloc _).alloc _
 have r3 : Hid (Ob w7 w5.heap.size #[.string Z,.string ⟨#[]⟩,.slice none 0 0,.slice none 0 0,.slice (some ⟨mb,0,none⟩) 1 mc,.slice none 0 0,.slice none 0 0,.slice none 0 0,.string ⟨#[]⟩,.slice none 0 0,.slice none 0 0] 43) := by rw [hw7]; exact (Ob.new _ _ _).alloc _
 have r4 : Hid (Ob w7 (w5.heap.size + 1) #[.int .i64 0,.int .i64 0] 71) := by
  rw [hw7]
  have := Ob.new (w5.alloc (.cells #[.string Z,.string ⟨#[]⟩,.slice none 0 0,.slice none 0 0,.slice (some ⟨mb,0,none⟩) 1 mc,.slice none 0 0,.slice none 0 0,.slice none 0 0,.string ⟨#[]⟩,.slice none 0 0,.slice none 0 0] 43)) #[.int .i64 0,.int .i64 0] 71
  show Ob _ _ _ _
  simpa using this
 have HB7 : Hid (Below W.heap.size W w7) := by rw [hw7]; exact (HB5.out.alloc HB5.out.size _).alloc (by have := HB5.out.size; simp; omega) _
 have hb7 : Below w5.heap.size w5 w7 := by rw [hw7]; exact ((Below.refl _ w5).alloc (Nat.le_refl _) _).alloc (by simp) _
 have X1 : Hid (mb < w7.heap.size ∧ fb < w7.heap.size) := ⟨Nat.lt_of_lt_of_le x1 hb7.size,Nat.lt_of_lt_of_le x2 hb7.size⟩
 have X3 : Hid (∀ (j : Nat) (v : Value),(mA (strOfNums [65]) (.slice (some ⟨fb,0,none⟩) 1 fc))[j]? = some v → w7.cell? ⟨mb,j,none⟩ = some v) := fun j v hj => (hb7.cell x1).trans (x3 j v hj)
 have X4 : Hid (∀ (j : Nat) (v : Value),(fA 5 (strOfNums [98]))[j]? = some v → w7.cell? ⟨fb,j,none⟩ = some v) := fun j v hj => (hb7.cell x2).trans (x4 j v hj)
 clear QC QC4 a0 a1 a2 a3 a4 a5 a6 a7 al q0 q1 q2 HB4 hb5 x1 x2 x3 x4 x5 x6 p1 p2 hb7 HB5
 have q1 := r1
 have q2 := r2
 have q3 := r3
 clear r1 r2 r3
 go_upto_region 5 with fail
 rw [← hw7]
 clear hw7
 have e1 := r4.out.cell 1 rfl
 have el := r4.out.lt
 go_upto_region 7 with fail
 clear e1 el r4
 refine wp_region_heldD (S := fun V => Hid (Ob V w5.heap.size #[.string Z,.string ⟨#[]⟩,.slice none 0 0,.slice none 0 0,.slice (some ⟨mb,0,none⟩) 1 mc,.slice none 0 0,.slice none 0 0,.slice none 0 0,.string ⟨#[]⟩,.slice none 0 0,.slice none 0 0] 43 ∧ Ob V w3.heap.size #[.bool false,.slice none 0 0] 69)) rfl ?_
 obtain ⟨w7d,hw7d⟩ : ∃ w7d,w7d = w7.drew := ⟨_,rfl⟩
 have s1 : Hid (Ob w7d (W.heap.size + 1) #[.string ⟨#[]⟩,.string ⟨#[]⟩,.slice none 0 0,.slice none 0 0,.slice none 0 0,.slice none 0 0,.slice none 0 0,.slice none 0 0,.string ⟨#[]⟩,.slice none 0 0,.slice none 0 0] 43) := by rw [hw7d]; exact q1.out.drew
 have s2 : Hid (Ob w7d w3.heap.size #[.bool false,.slice none 0 0] 69) := by rw [hw7d]; exact q2.out.drew
 have s3 : Hid (Ob w7d w5.heap.size #[.string Z,.string ⟨#[]⟩,.slice none 0 0,.slice none 0 0,.slice (some ⟨mb,0,none⟩) 1 mc,.slice none 0 0,.slice none 0 0,.slice none 0 0,.string ⟨#[]⟩,.slice none 0 0,.slice none 0 0] 43) := by rw [hw7d]; exact q3.out.drew
 have HB7d : Hid (Below W.heap.size W w7d) := by rw [hw7d]; exact HB7.out.drew
 have hcm : Hid (∀ (j : Nat) (v : Value),(mA (strOfNums [65]) (.slice (some ⟨fb,0,none⟩) 1 fc))[j]? = some v → w7d.cell? ⟨mb,j,none⟩ = some v) := by rw [hw7d]; exact X3.out
 have hcf : Hid (∀ (j : Nat) (v : Value),(fA 5 (strOfNums [98]))[j]? = some v → w7d.cell? ⟨fb,j,none⟩ = some v) := by rw [hw7d]; exact X4.out
 have X1d : Hid (mb < w7d.heap.size ∧ fb < w7d.heap.size) := by rw [hw7d]; exact X1.out
 rw [← hw7d]
 clear hw7d q1 q2 q3 HB7 X3 X4 X1
 obtain ⟨⟨c0,c1,c2',c3',c4',c5,c6,c7,c8,c9,c10⟩,⟨d0,d1,d2,d3,d4,d5,d6,d7,d8,d9,d10⟩,dl⟩ := ob11 s1.out
 have HS0 : Hid _ := (show Hid (_ ∧ _) from ⟨s3.out,s2.out⟩)
 refine wpAnyH_take (i := 0) (v := ?_) rfl (by kernel_rfl) (by kernel_rfl) (by kernel_rfl) (fun _ _ _ h => h) (Or.inl ⟨by rfl,?_⟩) HS0.out ?_
 rotate_left
 ·rintro V HV
  obtain ⟨⟨z0,z1,z2,z3,z4,z5,z6,z7,z8,z9,z10⟩,_,zl⟩ := ob11 HV.out.1
  go_simp
  try with_reducible rfl
 refine wpAnyH_take (i := 1) (v := ?_) rfl (by kernel_rfl) (by kernel_rfl) (by kernel_rfl) (fun _ _ _ h => h) (Or.inl ⟨by rfl,?_⟩) HS0.out ?_
 rotate_left
 ·rintro V HV
  go_simp
  try with_reducible rfl
 refine wpAnyH_take (i := 2) (v := ?_) rfl (by kernel_rfl) (by kernel_rfl) (by kernel_rfl) (fun _ _ _ h => h) (Or.inl ⟨by rfl,?_⟩) HS0.out ?_
 rotate_left
 ·rintro V HV
  have z1 := HV.out.2.cell 1 rfl
  go_simp
  try with_reducible rfl
 refine wpAnyH_all (rs := [3]) (by kernel_rfl) (by simp) ?_
 intro i hi
 obtain rfl : i = 3 := by simpa using hi
 clear hi
 refine wpOp_one rfl ?_
 intro Q' hQ'
 have HQ : Hid _ := hQ'
 clear hQ'
 go_wp2_with fail
 obtain ⟨w9,hw9⟩ : ∃ w9,w9 = (((((((((((w7d.setCell ⟨W.heap.size + 1,0,none⟩ (.string Z)).setCell ⟨W.heap.size + 1,1,none⟩ (.string ⟨#[]⟩)).setCell ⟨W.heap.size + 1,2,none⟩ (.slice none 0 0)).setCell ⟨W.heap.size + 1,3,none⟩ (.slice none 0 0)).setCell ⟨W.heap.size + 1,4,none⟩ (.slice (some ⟨mb,0,none⟩) 1 mc)).setCell ⟨W.heap.size + 1,5,none⟩ (.slice none 0 0)).setCell ⟨W.heap.size + 1,6,none⟩ (.slice none 0 0)).setCell ⟨W.heap.size + 1,7,none⟩ (.slice none 0 0)).setCell ⟨W.heap.size + 1,8,none⟩ (.string ⟨#[]⟩)).setCell ⟨W.heap.size + 1,9,none⟩ (.slice none 0 0)).setCell ⟨W.heap.size + 1,10,none⟩ (.slice none 0 0)) := ⟨_,rfl⟩
 have l2 := HLB.out
 have t2 : Hid (Ob w9 w3.heap.size #[.bool false,.slice none 0 0] 69) := by rw [hw9]; exact (((((((((((s2.out.other (b' := W.heap.size + 1) (by omega) 0 (.string Z)).other (b' := W.heap.size + 1) (by omega) 1 (.string ⟨#[]⟩)).other (b' := W.heap.size + 1) (by omega) 2 (.slice none 0 0)).other (b' := W.heap.size + 1) (by omega) 3 (.slice none 0 0)).other (b' := W.heap.size + 1) (by omega) 4 (.slice (some ⟨mb,0,none⟩) 1 mc)).other (b' := W.heap.size + 1) (by omega) 5 (.slice none 0 0)).other (b' := W.heap.size + 1) (by omega) 6 (.slice none 0 0)).other (b' := W.heap.size + 1) (by omega) 7 (.slice none 0 0)).other (b' := W.heap.size + 1) (by omega) 8 (.string ⟨#[]⟩)).other (b' := W.heap.size + 1) (by omega) 9 (.slice none 0 0)).other (b' := W.heap.size + 1) (by omega) 10 (.slice none 0 0))
 have t3 : Hid (Ob w9 w5.heap.size #[.string Z,.string ⟨#[]⟩,.slice none 0 0,.slice none 0 0,.slice (some ⟨mb,0,none⟩) 1 mc,.slice none 0 0,.slice none 0 0,.slice none 0 0,.string ⟨#[]⟩,.slice none 0 0,.slice none 0 0] 43) := by rw [hw9]; exact (((((((((((s3.out.other (b' := W.heap.size + 1) (by omega) 0 (.string Z)).other (b' := W.heap.size + 1) (by omega) 1 (.string ⟨#[]⟩)).other (b' := W.heap.size + 1) (by omega) 2 (.slice none 0 0)).other (b' := W.heap.size + 1) (by omega) 3 (.slice none 0 0)).other (b' := W.heap.size + 1) (by omega) 4 (.slice (some ⟨mb,0,none⟩) 1 mc)).other (b' := W.heap.size + 1) (by omega) 5 (.slice none 0 0)).other (b' := W.heap.size + 1) (by omega) 6 (.slice none 0 0)).other (b' := W.heap.size + 1) (by omega) 7 (.slice none 0 0)).other (b' := W.heap.size + 1) (by omega) 8 (.string ⟨#[]⟩)).other (b' := W.heap.size + 1) (by omega) 9 (.slice none 0 0)).other (b' := W.heap.size + 1) (by omega) 10 (.slice none 0 0))
 have t1 : Hid (Ob w9 (W.heap.size + 1) #[.string Z,.string ⟨#[]⟩,.slice none 0 0,.slice none 0 0,.slice (some ⟨mb,0,none⟩) 1 mc,.slice none 0 0,.slice none 0 0,.slice none 0 0,.string ⟨#[]⟩,.slice none 0 0,.slice none 0 0] 43) := by
  rw [hw9]
  have := (((((((((((s1.out.set 0 (.string Z)).set 1 (.string ⟨#[]⟩)).set 2 (.slice none 0 0)).set 3 (.slice none 0 0)).set 4 (.slice (some ⟨mb,0,none⟩) 1 mc)).set 5 (.slice none 0 0)).set 6 (.slice none 0 0)).set 7 (.slice none 0 0)).set 8 (.string ⟨#[]⟩)).set 9 (.slice none 0 0)).set 10 (.slice none 0 0))
  show Ob _ _ _ _
  simpa using this
 have HB9 : Hid (Below W.heap.size W w9) := by rw [hw9]; exact (((((((((((HB7d.out.setCell (p := ⟨W.heap.size + 1,0,none⟩) (by simp) _).setCell (p := ⟨W.heap.size + 1,1,none⟩) (by simp) _).setCell (p := ⟨W.heap.size + 1,2,none⟩) (by simp) _).setCell (p := ⟨W.heap.size + 1,3,none⟩) (by simp) _).setCell (p := ⟨W.heap.size + 1,4,none⟩) (by simp) _).setCell (p := ⟨W.heap.size + 1,5,none⟩) (by simp) _).setCell (p := ⟨W.heap.size + 1,6,none⟩) (by simp) _).setCell (p := ⟨W.heap.size + 1,7,none⟩) (by simp) _).setCell (p := ⟨W.heap.size + 1,8,none⟩) (by simp) _).setCell (p := ⟨W.heap.size + 1,9,none⟩) (by simp) _).setCell (p := ⟨W.heap.size + 1,10,none⟩) (by simp) _)
 have hcm9 : Hid (∀ (j : Nat) (v : Value),(mA (strOfNums [65]) (.slice (some ⟨fb,0,none⟩) 1 fc))[j]? = some v → w9.cell? ⟨mb,j,none⟩ = some v) := fun j v hj => by
  have n1 := HNE.out.1
  rw [hw9,cell_other _ _ _ _ _ n1,cell_other _ _ _ _ _ n1,cell_other _ _ _ _ _ n1,cell_other _ _ _ _ _ n1,cell_other _ _ _ _ _ n1,cell_other _ _ _ _ _ n1,cell_other _ _ _ _ _ n1,cell_other _ _ _ _ _ n1,cell_other _ _ _ _ _ n1,cell_other _ _ _ _ _ n1,cell_other _ _ _ _ _ n1]
  exact hcm.out j v hj
 have hcf9 : Hid (∀ (j : Nat) (v : Value),(fA 5 (strOfNums [98]))[j]? = some v → w9.cell? ⟨fb,j,none⟩ = some v) := fun j v hj => by
  have n1 := HNE.out.2
  rw [hw9,cell_other _ _ _ _ _ n1,cell_other _ _ _ _ _ n1,cell_other _ _ _ _ _ n1,cell_other _ _ _ _ _ n1,cell_other _ _ _ _ _ n1,cell_other _ _ _ _ _ n1,cell_other _ _ _ _ _ n1,cell_other _ _ _ _ _ n1,cell_other _ _ _ _ _ n1,cell_other _ _ _ _ _ n1,cell_other _ _ _ _ _ n1]
  exact hcf.out j v hj
 have X9 : Hid (mb < w9.heap.size ∧ fb < w9.heap.size) := by rw [hw9]; show _ ∧ _; simpa using X1d.out
 rw [← hw9]
 refine HQ.out _ _ ⟨(show Hid (_ ∧ _) from ⟨t3.out,t2.out⟩),?_⟩
 clear HQ hw9 c0 c1 c2' c3' c4' c5 c6 c7 c8 c9 c10 d0 d1 d2 d3 d4 d5 d6 d7 d8 d9 d10 dl s1 s2 s3 HS0 hcm hcf HB7d X1d
 refine wpAnyH_take (i := 4) (v := ?_) rfl (by kernel_rfl) (by kernel_rfl) (by kernel_rfl) (fun _ _ _ h => h) (Or.inl ⟨by rfl,?_⟩) (show Hid (_ ∧ _) from ⟨t3.out,t2.out⟩).out ?_
 rotate_left
 ·rintro V HV
  go_simp
  try with_reducible rfl
 refine wpAnyH_take (i := 5) (v := ?_) rfl (by kernel_rfl) (by kernel_rfl) (by kernel_rfl) (fun _ _ _ h => h) (Or.inl ⟨by rfl,?_⟩) (show Hid (_ ∧ _) from ⟨t3.out,t2.out⟩).out ?_
 rotate_left
 ·rintro V HV
  go_simp
  try with_reducible rfl
 refine wpAnyH_take (i := 6) (v := ?_) rfl (by kernel_rfl) (by kernel_rfl) (by kernel_rfl) (fun _ _ _ h => h) (Or.inl ⟨by rfl,?_⟩) (show Hid (_ ∧ _) from ⟨t3.out,t2.out⟩).out ?_
 rotate_left
 ·rintro V HV
  go_simp
  try with_reducible rfl
 refine wpAnyH_done (by kernel_rfl) ?_ _
 go_wp2
 refine file_ret (g1 := W.heap.size + 1) (cs := #[.string Z,.string ⟨#[]⟩,.slice none 0 0,.slice none 0 0,.slice (some ⟨mb,0,none⟩) 1 mc,.slice none 0 0,.slice none 0 0,.slice none 0 0,.string ⟨#[]⟩,.slice none 0 0,.slice none 0 0]) (x := .slice none 0 0) (y := .int .i64 0) (z := .int .i64 0) rfl ?_ ?_ ?_ ?_ t1.out ?_ ?_
 ·rfl
 ·rfl
 ·rfl
 ·rfl
 ·rfl
 ·exact ⟨mb,mc,fb,fc,rfl,HB9.out,X9.out.1,X9.out.2,hcm9.out,hcf9.out⟩

theorem plain_mk {t : Tn} {k : Int} {tx : List Int} {n m a p : Int} {d : List Int} {ks : List Pn} (h : t.plain = .mk k tx n m a p d ks) : ∃ ad c kids,t = .mk k tx n m a p d ad c kids ∧ plains kids = ks := by
 obtain ⟨k',tx',n',m',a',p',d',ad,c,kids⟩ := t
 rw [Tn.plain] at h
 cases h
 exact ⟨ad,c,kids,rfl,rfl⟩

theorem plains_one {ks : List Tn} {x : Pn} (h : plains ks = [x]) : ∃ k,ks = [k] ∧ k.plain = x := by
 cases ks with
 | nil => rw [plains] at h; cases h
 | cons k r =>
  rw [plains] at h
  injection h with h1 h2
  cases r with
  | nil => exact ⟨k,rfl,h1⟩
  | cons k2 r => rw [plains] at h2; cases h2

theorem plains_none {ks : List Tn} (h : plains ks = []) : ks = [] := by
 cases ks with
 | nil => rfl
 | cons k r => rw [plains] at h; cases h

theorem tree_a {t : Tn} (h : t.plain = .mk 1 [] 0 0 0 0 [] [.mk 5 [65] 0 0 0 0 [] [.mk 9 [98] 1 0 1 12 [] [.mk 18 [105,110,116,51,50] 0 0 0 21 [] []]]]) : ∃ ad c ad2 c2 ad3 c3 ad4 c4,t = tA ad c (tM ad2 c2 (tF ad3 c3 (tT ad4 c4))) := by
 obtain ⟨ad,c,k1,rfl,h1⟩ := plain_mk h
 obtain ⟨t1,rfl,g1⟩ := plains_one h1
 obtain ⟨ad2,c2,k2,rfl,h2⟩ := plain_mk g1
 obtain ⟨t2,rfl,g2⟩ := plains_one h2
 obtain ⟨ad3,c3,k3,rfl,h3⟩ := plain_mk g2
 obtain ⟨t3,rfl,g3⟩ := plains_one h3
 obtain ⟨ad4,c4,k4,rfl,h4⟩ := plain_mk g3
 obtain rfl := plains_none h4
 exact ⟨ad,c,ad2,c2,ad3,c3,ad4,c4,rfl⟩

theorem srcA_bd : Hid (∀ i,0 ≤ srcA.getD i 0 ∧ srcA.getD i 0 ≤ 255) := fun i => by
 rcases Nat.lt_or_ge i 35 with h | h
 ·exact (show ∀ i,i < 35 → 0 ≤ srcA.getD i 0 ∧ srcA.getD i 0 ≤ 255 by decide) i h
 ·rw [List.getD_eq_getElem?_getD,List.getElem?_eq_none h]
  decide

set_option maxRecDepth 20000 in
set_option maxHeartbeats 4000000 in
theorem lawake_any (W : World) (hT : Hid (LoTab W)) : Calls Tryz.prog 6 #[] W fun e W' => e = .returned (.bool true) ∧ Below W.heap.size W W' := by
 have QR : Hid _ := rgfile_any0 srcA sim_a W srcA_bd (by decide)
 rw [gfile_a] at QR
 rw [show strOfNums srcA = { data := #[109,101,115,115,97,103,101,32,65,32,123,32,111,112,116,105,111,110,97,108,32,105,110,116,51,50,32,98,32,61,32,49,59,32,125] } from by kernel_rfl] at QR
 have HT : Hid (LoTab W) := hT
 go_enter Tryz.func6,Tryz.ntmps6
 go_wp2_with fail
 refine Calls.mono QR.out ?_
 rintro e w1 ⟨t,rfl,htp,htk,_,hb1⟩
 obtain ⟨ad,c,ad2,c2,ad3,c3,ad4,c4,rfl⟩ := tree_a htp
 have HB1 : Hid (Below W.heap.size W w1) := hb1
 have QF : Hid _ := fun V (hV : Below w1.heap.size w1 V) => pFile_a htk V (show Hid _ from HT.out.below (hb1.trans (hV.mono hb1.size)) (Nat.le_refl _)) hV
 clear htp htk hb1 QR
 unfold tA Tn.val Tn.cells at QF ⊢
 simp only [List.length_cons,List.length_nil,Nat.zero_add,gA] at QF ⊢
 rw [show strOfNums [120] = { data := #[120] } from by kernel_rfl] at QF
 obtain ⟨D,HD⟩ : ∃ D,Hid (D = strOfNums []) := ⟨_,rfl⟩
 simp only [← HD.out] at QF ⊢
 obtain ⟨w2,hw2⟩ : ∃ w2,w2 = w1.alloc (.cells #[.int .i64 1,.string D,.int .i64 0,.int .i64 0,.int .i64 0,.int .i64 0,.string D,.slice ad 1 c] 28) := ⟨_,rfl⟩
 have o0 : Hid (Ob w2 w1.heap.size #[.int .i64 1,.string D,.int .i64 0,.int .i64 0,.int .i64 0,.int .i64 0,.string D,.slice ad 1 c] 28) := by rw [hw2]; exact Ob.new _ _ _
 have hb2 : Below w1.heap.size w1 w2 := by rw [hw2]; exact (Below.refl _ _).alloc (Nat.le_refl _) _
 have HB2 : Hid (Below W.heap.size W w2) := HB1.out.trans (hb2.mono HB1.out.size)
 have Q2 : Hid _ := QF.out w2 hb2
 clear QF hb2
 go_upto_region 2 with fail
 rw [← hw2]
 clear hw2
 obtain ⟨⟨a0,a1,a2,a3,a4,a5,a6,a7⟩,_,al⟩ := ob8 o0.out
 go_wp2_with fail
 refine Calls.mono Q2.out ?_
 rintro e w3 ⟨mb,mc,fb,fc,rfl,hb3,x1,x2,x3,x4⟩
 have HB3 : Hid (Below W.heap.size W w3) := HB2.out.trans (hb3.mono HB2.out.size)
 clear a0 a1 a2 a3 a4 a5 a6 a7 al o0 Q2 hb3 HB2 HB1
 obtain ⟨w4,hw4⟩ : ∃ w4,w4 = w3.alloc (.cells #[.string ⟨#[120]⟩,.string ⟨#[]⟩,.slice none 0 0,.slice none 0 0,.slice (some ⟨mb,0,none⟩) 1 mc,.slice none 0 0,.slice none 0 0,.slice none 0 0,.string ⟨#[]⟩,.slice none 0 0,.slice none 0 0] 43) := ⟨_,rfl⟩
 have o1 : Hid (Ob w4 w3.heap.size #[.string ⟨#[120]⟩,.string ⟨#[]⟩,.slice none 0 0,.slice none 0 0,.slice (some ⟨mb,0,none⟩) 1 mc,.slice none 0 0,.slice none 0 0,.slice none 0 0,.string ⟨#[]⟩,.slice none 0 0,.slice none 0 0] 43) := by rw [hw4]; exact Ob.new _ _ _
 have hb4 : Below w3.heap.size w3 w4 := by rw [hw4]; exact (Below.refl _ _).alloc (Nat.le_refl _) _
 have HB4 : Hid (Below W.heap.size W w4) := HB3.out.trans (hb4.mono HB3.out.size)
 have m1 : w4.cell? ⟨mb,1,none⟩ = some (.slice (some ⟨fb,0,none⟩) 1 fc) := (hb4.cell x1).trans (x3 1 _ rfl)
 have f3 : w4.cell? ⟨fb,3,none⟩ = some (.int .i64 5) := (hb4.cell x2).trans (x4 3 _ rfl)
 have f9 : w4.cell? ⟨fb,9,none⟩ = some (.string ⟨#[98]⟩) := (hb4.cell x2).trans (x4 9 _ rfl)
 have l1 : mb < w4.heap.size := Nat.lt_of_lt_of_le x1 hb4.size
 have l2 : fb < w4.heap.size := Nat.lt_of_lt_of_le x2 hb4.size
 have c0 := o1.out.cell 0 rfl
 have c4 := o1.out.cell 4 rfl
 have cl := o1.out.lt
 clear hb4 x1 x2 x3 x4 o1 HB3
 go_upto_region 3 with fail
 rw [← hw4]
 clear hw4
 go_wp2
 go_ret
 exact ⟨rfl,HB4.out⟩

end Go.Proofs.YtlekfcehmlepkaaGreatDoor
