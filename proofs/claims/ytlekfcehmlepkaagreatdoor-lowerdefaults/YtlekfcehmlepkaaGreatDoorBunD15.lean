/- Put together by a program out of these texts of mine: PRules1. -/
import Derived.Test.YtlekfcehmlepkaaGreatDoorBunD14

namespace Go.Proofs.YtlekfcehmlepkaaGreatDoor
open Go.RowKit
set_option linter.unusedVariables false
set_option linter.unusedSimpArgs false

def rAll (W : World) : Nat → List Oper → Prop
 | _,[] => True
 | k,o :: l => rOk W k o ∧ rAll W (k + 1) l

theorem rAll_get {W : World} : ∀ {l : List Oper} {k : Nat},rAll W k l → ∀ (j : Nat) (o : Oper),l[j]? = some o → rOk W (k + j) o
 | [],k,_,j,o,h => by simp at h
 | o0 :: l,k,h,0,o,ho => by simp at ho; subst ho; exact h.1
 | o0 :: l,k,h,j + 1,o,ho => by
  have := rAll_get h.2 j o (by simpa using ho)
  rw [show k + (j + 1) = k + 1 + j by omega]
  exact this

theorem rstep {W : World} {Q : Exit → Act → World → Prop} {l : List Oper} (h : rAll W 0 l) (L : Nat → Bool) (a : Act) (w : World) (i : Nat) (o : Oper) (hI : rI W L a w) (ho : l.toArray[i]? = some o) (hL : L i = false) (hd : ∀ e ∈ o.after,Region.binds .any e = true → L e.on = true) :
  wpOp Tryz.prog l.toArray Q i (fun a' w' => rI W (fun k => if k = i then true else L k) a' w') a w := by
 obtain ⟨hB,us,rfl,hS,hX⟩ := hI
 have hk := rAll_get h i o (by simpa using ho)
 rw [Nat.zero_add] at hk
 exact hk _ _ L us w hB hS hX ho hL hd

theorem ib_lit (w : World) (zs : List Int) (cs : Array Value) (h : cs = (zs.map (Value.int .i64)).toArray) {t : TypeId} : Ib (w.alloc (.cells cs t)) w.heap.size zs := by
 intro j hj
 subst h
 refine blk_cell (alloc_at _ _ rfl) _ _ ?_
 rw [Nat.zero_add]
 simp [hj]

theorem wpOp_of_wp {P : Program} {ops : Array Oper} {Q : Exit → Act → World → Prop} {i : Nat} {K : Act → World → Prop} {a : Act} {w : World} {o : Oper} (ho : ops[i]? = some o) (hg : o.guard = none) (h : o.wp P a w K Q) : wpOp P ops Q i K a w := by
 unfold wpOp
 simp only [ho]
 rw [if_pos (by unfold Region.wanted; rw [hg])]
 exact .inl h

theorem rbuild (us : Nat → Value) (w : World) (a1 b1 a2 b2 a3 b3 a4 b4 a5 b5 a6 b6 a7 b7 a8 b8 a9 b9 a10 b10 a11 b11 a12 b12 a13 b13 a14 b14 a15 b15 a16 b16 a17 b17 a18 b18 a19 b19 a20 b20 a21 b21 a22 b22 a23 b23 a24 b24 : Value) (h1 : us 3 = .agg [a1,.int .i64 rl1.fr,.int .i64 rl1.to,.bool rl1.span,.int .i64 rl1.most,.bool rl1.doc,b1].toArray) (h2 : us 4 = .agg [a2,.int .i64 rl2.fr,.int .i64 rl2.to,.bool rl2.span,.int .i64 rl2.most,.bool rl2.doc,b2].toArray) (h3 : us 5 = .agg [a3,.int .i64 rl3.fr,.int .i64 rl3.to,.bool rl3.span,.int .i64 rl3.most,.bool rl3.doc,b3].toArray) (h4 : us 6 = .agg [a4,.int .i64 rl4.fr,.int .i64 rl4.to,.bool rl4.span,.int .i64 rl4.most,.bool rl4.doc,b4].toArray) (h5 : us 10 = .agg [a5,.int .i64 rl5.fr,.int .i64 rl5.to,.bool rl5.span,.int .i64 rl5.most,.bool rl5.doc,b5].toArray) (h6 : us 14 = .agg [a6,.int .i64 rl6.fr,.int .i64 rl6.to,.bool rl6.span,.int .i64 rl6.most,.bool rl6.doc,b6].toArray) (h7 : us 17 = .agg [a7,.int .i64 rl7.fr,.int .i64 rl7.to,.bool rl7.span,.int .i64 rl7.most,.bool rl7.doc,b7].toArray) (h8 : us 21 = .agg [a8,.int .i64 rl8.fr,.int .i64 rl8.to,.bool rl8.span,.int .i64 rl8.most,.bool rl8.doc,b8].toArray) (h9 : us 24 = .agg [a9,.int .i64 rl9.fr,.int .i64 rl9.to,.bool rl9.span,.int .i64 rl9.most,.bool rl9.doc,b9].toArray) (h10 : us 26 = .agg [a10,.int .i64 rl10.fr,.int .i64 rl10.to,.bool rl10.span,.int .i64 rl10.most,.bool rl10.doc,b10].toArray) (h11 : us 28 = .agg [a11,.int .i64 rl11.fr,.int .i64 rl11.to,.bool rl11.span,.int .i64 rl11.most,.bool rl11.doc,b11].toArray) (h12 : us 30 = .agg [a12,.int .i64 rl12.fr,.int .i64 rl12.to,.bool rl12.span,.int .i64 rl12.most,.bool rl12.doc,b12].toArray) (h13 : us 31 = .agg [a13,.int .i64 rl13.fr,.int .i64 rl13.to,.bool rl13.span,.int .i64 rl13.most,.bool rl13.doc,b13].toArray) (h14 : us 32 = .agg [a14,.int .i64 rl14.fr,.int .i64 rl14.to,.bool rl14.span,.int .i64 rl14.most,.bool rl14.doc,b14].toArray) (h15 : us 34 = .agg [a15,.int .i64 rl15.fr,.int .i64 rl15.to,.bool rl15.span,.int .i64 rl15.most,.bool rl15.doc,b15].toArray) (h16 : us 38 = .agg [a16,.int .i64 rl16.fr,.int .i64 rl16.to,.bool rl16.span,.int .i64 rl16.most,.bool rl16.doc,b16].toArray) (h17 : us 41 = .agg [a17,.int .i64 rl17.fr,.int .i64 rl17.to,.bool rl17.span,.int .i64 rl17.most,.bool rl17.doc,b17].toArray) (h18 : us 42 = .agg [a18,.int .i64 rl18.fr,.int .i64 rl18.to,.bool rl18.span,.int .i64 rl18.most,.bool rl18.doc,b18].toArray) (h19 : us 44 = .agg [a19,.int .i64 rl19.fr,.int .i64 rl19.to,.bool rl19.span,.int .i64 rl19.most,.bool rl19.doc,b19].toArray) (h20 : us 45 = .agg [a20,.int .i64 rl20.fr,.int .i64 rl20.to,.bool rl20.span,.int .i64 rl20.most,.bool rl20.doc,b20].toArray) (h21 : us 47 = .agg [a21,.int .i64 rl21.fr,.int .i64 rl21.to,.bool rl21.span,.int .i64 rl21.most,.bool rl21.doc,b21].toArray) (h22 : us 48 = .agg [a22,.int .i64 rl22.fr,.int .i64 rl22.to,.bool rl22.span,.int .i64 rl22.most,.bool rl22.doc,b22].toArray) (h23 : us 51 = .agg [a23,.int .i64 rl23.fr,.int .i64 rl23.to,.bool rl23.span,.int .i64 rl23.most,.bool rl23.doc,b23].toArray) (h24 : us 53 = .agg [a24,.int .i64 rl24.fr,.int .i64 rl24.to,.bool rl24.span,.int .i64 rl24.most,.bool rl24.doc,b24].toArray) :
  Tryz.prog.built 96 [(1,us 3),(2,us 4),(3,us 5),(4,us 6),(5,us 10),(6,us 14),(7,us 17),(8,us 21),(9,us 24),(10,us 26),(11,us 28),(12,us 30),(13,us 31),(14,us 32),(15,us 34),(16,us 38),(17,us 41),(18,us 42),(19,us 44),(20,us 45),(21,us 47),(22,us 48),(23,us 51),(24,us 53)] = some (zrl ++ (a1 :: .int .i64 rl1.fr :: .int .i64 rl1.to :: .bool rl1.span :: .int .i64 rl1.most :: .bool rl1.doc :: b1 :: a2 :: .int .i64 rl2.fr :: .int .i64 rl2.to :: .bool rl2.span :: .int .i64 rl2.most :: .bool rl2.doc :: b2 :: a3 :: .int .i64 rl3.fr :: .int .i64 rl3.to :: .bool rl3.span :: .int .i64 rl3.most :: .bool rl3.doc :: b3 :: a4 :: .int .i64 rl4.fr :: .int .i64 rl4.to :: .bool rl4.span :: .int .i64 rl4.most :: .bool rl4.doc :: b4 :: a5 :: .int .i64 rl5.fr :: .int .i64 rl5.to :: .bool rl5.span :: .int .i64 rl5.most :: .bool rl5.doc :: b5 :: a6 :: .int .i64 rl6.fr :: .int .i64 rl6.to :: .bool rl6.span :: .int .i64 rl6.most :: .bool rl6.doc :: b6 :: a7 :: .int .i64 rl7.fr :: .int .i64 rl7.to :: .bool rl7.span :: .int .i64 rl7.most :: .bool rl7.doc :: b7 :: a8 :: .int .i64 rl8.fr :: .int .i64 rl8.to :: .bool rl8.span :: .int .i64 rl8.most :: .bool rl8.doc :: b8 :: a9 :: .int .i64 rl9.fr :: .int .i64 rl9.to :: .bool rl9.span :: .int .i64 rl9.most :: .bool rl9.doc :: b9 :: a10 :: .int .i64 rl10.fr :: .int .i64 rl10.to :: .bool rl10.span :: .int .i64 rl10.most :: .bool rl10.doc :: b10 :: a11 :: .int .i64 rl11.fr :: .int .i64 rl11.to :: .bool rl11.span :: .int .i64 rl11.most :: .bool rl11.doc :: b11 :: a12 :: .int .i64 rl12.fr :: .int .i64 rl12.to :: .bool rl12.span :: .int .i64 rl12.most :: .bool rl12.doc :: b12 :: a13 :: .int .i64 rl13.fr :: .int .i64 rl13.to :: .bool rl13.span :: .int .i64 rl13.most :: .bool rl13.doc :: b13 :: a14 :: .int .i64 rl14.fr :: .int .i64 rl14.to :: .bool rl14.span :: .int .i64 rl14.most :: .bool rl14.doc :: b14 :: a15 :: .int .i64 rl15.fr :: .int .i64 rl15.to :: .bool rl15.span :: .int .i64 rl15.most :: .bool rl15.doc :: b15 :: a16 :: .int .i64 rl16.fr :: .int .i64 rl16.to :: .bool rl16.span :: .int .i64 rl16.most :: .bool rl16.doc :: b16 :: a17 :: .int .i64 rl17.fr :: .int .i64 rl17.to :: .bool rl17.span :: .int .i64 rl17.most :: .bool rl17.doc :: b17 :: a18 :: .int .i64 rl18.fr :: .int .i64 rl18.to :: .bool rl18.span :: .int .i64 rl18.most :: .bool rl18.doc :: b18 :: a19 :: .int .i64 rl19.fr :: .int .i64 rl19.to :: .bool rl19.span :: .int .i64 rl19.most :: .bool rl19.doc :: b19 :: a20 :: .int .i64 rl20.fr :: .int .i64 rl20.to :: .bool rl20.span :: .int .i64 rl20.most :: .bool rl20.doc :: b20 :: a21 :: .int .i64 rl21.fr :: .int .i64 rl21.to :: .bool rl21.span :: .int .i64 rl21.most :: .bool rl21.doc :: b21 :: a22 :: .int .i64 rl22.fr :: .int .i64 rl22.to :: .bool rl22.span :: .int .i64 rl22.most :: .bool rl22.doc :: b22 :: a23 :: .int .i64 rl23.fr :: .int .i64 rl23.to :: .bool rl23.span :: .int .i64 rl23.most :: .bool rl23.doc :: b23 :: a24 :: .int .i64 rl24.fr :: .int .i64 rl24.to :: .bool rl24.span :: .int .i64 rl24.most :: .bool rl24.doc :: b24 :: [])).toArray := by
 rw [h1,h2,h3,h4,h5,h6,h7,h8,h9,h10,h11,h12,h13,h14,h15,h16,h17,h18,h19,h20,h21,h22,h23,h24]
 kernel_rfl

theorem rtable (W : World) (o : Oper) (hop : o.op = .build 96 #[(1,.tmp 3),(2,.tmp 4),(3,.tmp 5),(4,.tmp 6),(5,.tmp 10),(6,.tmp 14),(7,.tmp 17),(8,.tmp 21),(9,.tmp 24),(10,.tmp 26),(11,.tmp 28),(12,.tmp 30),(13,.tmp 31),(14,.tmp 32),(15,.tmp 34),(16,.tmp 38),(17,.tmp 41),(18,.tmp 42),(19,.tmp 44),(20,.tmp 45),(21,.tmp 47),(22,.tmp 48),(23,.tmp 51),(24,.tmp 53)]) (hdst : o.dst = some 54) (hgu : o.guard = none) (haft : ∀ k,k ∈ [0,1,2,3,7,11,14,18,21,23,25,27,28,29,31,35,38,39,41,42,44,45,48,50] → (⟨k,.data⟩ : Edge) ∈ o.after) : rOk W 51 o := by
 intro OPS Q L us w hB hS hX ho hL hd
 obtain ⟨_,h1,a1,b1,rfl,x1,y1⟩ : (Sk.rule rl1).holds (W.heap.size + 1) w (us 3) := hS 0 (hd ⟨0,.data⟩ (haft 0 (by decide)) rfl)
 obtain ⟨_,h2,a2,b2,rfl,x2,y2⟩ : (Sk.rule rl2).holds (W.heap.size + 1) w (us 4) := hS 1 (hd ⟨1,.data⟩ (haft 1 (by decide)) rfl)
 obtain ⟨_,h3,a3,b3,rfl,x3,y3⟩ : (Sk.rule rl3).holds (W.heap.size + 1) w (us 5) := hS 2 (hd ⟨2,.data⟩ (haft 2 (by decide)) rfl)
 obtain ⟨_,h4,a4,b4,rfl,x4,y4⟩ : (Sk.rule rl4).holds (W.heap.size + 1) w (us 6) := hS 3 (hd ⟨3,.data⟩ (haft 3 (by decide)) rfl)
 obtain ⟨_,h5,a5,b5,rfl,x5,y5⟩ : (Sk.rule rl5).holds (W.heap.size + 1) w (us 10) := hS 7 (hd ⟨7,.data⟩ (haft 7 (by decide)) rfl)
 obtain ⟨_,h6,a6,b6,rfl,x6,y6⟩ : (Sk.rule rl6).holds (W.heap.size + 1) w (us 14) := hS 11 (hd ⟨11,.data⟩ (haft 11 (by decide)) rfl)
 obtain ⟨_,h7,a7,b7,rfl,x7,y7⟩ : (Sk.rule rl7).holds (W.heap.size + 1) w (us 17) := hS 14 (hd ⟨14,.data⟩ (haft 14 (by decide)) rfl)
 obtain ⟨_,h8,a8,b8,rfl,x8,y8⟩ : (Sk.rule rl8).holds (W.heap.size + 1) w (us 21) := hS 18 (hd ⟨18,.data⟩ (haft 18 (by decide)) rfl)
 obtain ⟨_,h9,a9,b9,rfl,x9,y9⟩ : (Sk.rule rl9).holds (W.heap.size + 1) w (us 24) := hS 21 (hd ⟨21,.data⟩ (haft 21 (by decide)) rfl)
 obtain ⟨_,h10,a10,b10,rfl,x10,y10⟩ : (Sk.rule rl10).holds (W.heap.size + 1) w (us 26) := hS 23 (hd ⟨23,.data⟩ (haft 23 (by decide)) rfl)
 obtain ⟨_,h11,a11,b11,rfl,x11,y11⟩ : (Sk.rule rl11).holds (W.heap.size + 1) w (us 28) := hS 25 (hd ⟨25,.data⟩ (haft 25 (by decide)) rfl)
 obtain ⟨_,h12,a12,b12,rfl,x12,y12⟩ : (Sk.rule rl12).holds (W.heap.size + 1) w (us 30) := hS 27 (hd ⟨27,.data⟩ (haft 27 (by decide)) rfl)
 obtain ⟨_,h13,a13,b13,rfl,x13,y13⟩ : (Sk.rule rl13).holds (W.heap.size + 1) w (us 31) := hS 28 (hd ⟨28,.data⟩ (haft 28 (by decide)) rfl)
 obtain ⟨_,h14,a14,b14,rfl,x14,y14⟩ : (Sk.rule rl14).holds (W.heap.size + 1) w (us 32) := hS 29 (hd ⟨29,.data⟩ (haft 29 (by decide)) rfl)
 obtain ⟨_,h15,a15,b15,rfl,x15,y15⟩ : (Sk.rule rl15).holds (W.heap.size + 1) w (us 34) := hS 31 (hd ⟨31,.data⟩ (haft 31 (by decide)) rfl)
 obtain ⟨_,h16,a16,b16,rfl,x16,y16⟩ : (Sk.rule rl16).holds (W.heap.size + 1) w (us 38) := hS 35 (hd ⟨35,.data⟩ (haft 35 (by decide)) rfl)
 obtain ⟨_,h17,a17,b17,rfl,x17,y17⟩ : (Sk.rule rl17).holds (W.heap.size + 1) w (us 41) := hS 38 (hd ⟨38,.data⟩ (haft 38 (by decide)) rfl)
 obtain ⟨_,h18,a18,b18,rfl,x18,y18⟩ : (Sk.rule rl18).holds (W.heap.size + 1) w (us 42) := hS 39 (hd ⟨39,.data⟩ (haft 39 (by decide)) rfl)
 obtain ⟨_,h19,a19,b19,rfl,x19,y19⟩ : (Sk.rule rl19).holds (W.heap.size + 1) w (us 44) := hS 41 (hd ⟨41,.data⟩ (haft 41 (by decide)) rfl)
 obtain ⟨_,h20,a20,b20,rfl,x20,y20⟩ : (Sk.rule rl20).holds (W.heap.size + 1) w (us 45) := hS 42 (hd ⟨42,.data⟩ (haft 42 (by decide)) rfl)
 obtain ⟨_,h21,a21,b21,rfl,x21,y21⟩ : (Sk.rule rl21).holds (W.heap.size + 1) w (us 47) := hS 44 (hd ⟨44,.data⟩ (haft 44 (by decide)) rfl)
 obtain ⟨_,h22,a22,b22,rfl,x22,y22⟩ : (Sk.rule rl22).holds (W.heap.size + 1) w (us 48) := hS 45 (hd ⟨45,.data⟩ (haft 45 (by decide)) rfl)
 obtain ⟨_,h23,a23,b23,rfl,x23,y23⟩ : (Sk.rule rl23).holds (W.heap.size + 1) w (us 51) := hS 48 (hd ⟨48,.data⟩ (haft 48 (by decide)) rfl)
 obtain ⟨_,h24,a24,b24,rfl,x24,y24⟩ : (Sk.rule rl24).holds (W.heap.size + 1) w (us 53) := hS 50 (hd ⟨50,.data⟩ (haft 50 (by decide)) rfl)
 have hb := rbuild us w _ _ _ _ _ _ _ _ _ _ _ _ _ _ _ _ _ _ _ _ _ _ _ _ _ _ _ _ _ _ _ _ _ _ _ _ _ _ _ _ _ _ _ _ _ _ _ _ h1 h2 h3 h4 h5 h6 h7 h8 h9 h10 h11 h12 h13 h14 h15 h16 h17 h18 h19 h20 h21 h22 h23 h24
 have e1 : (#[(1,Operand.tmp 3),(2,Operand.tmp 4),(3,Operand.tmp 5),(4,Operand.tmp 6),(5,Operand.tmp 10),(6,Operand.tmp 14),(7,Operand.tmp 17),(8,Operand.tmp 21),(9,Operand.tmp 24),(10,Operand.tmp 26),(11,Operand.tmp 28),(12,Operand.tmp 30),(13,Operand.tmp 31),(14,Operand.tmp 32),(15,Operand.tmp 34),(16,Operand.tmp 38),(17,Operand.tmp 41),(18,Operand.tmp 42),(19,Operand.tmp 44),(20,Operand.tmp 45),(21,Operand.tmp 47),(22,Operand.tmp 48),(23,Operand.tmp 51),(24,Operand.tmp 53)].map fun (x : Nat × Operand) => match x with | (i,x) => (i,(rF W.heap.size us).eval x)).toList = [(1,us 3),(2,us 4),(3,us 5),(4,us 6),(5,us 10),(6,us 14),(7,us 17),(8,us 21),(9,us 24),(10,us 26),(11,us 28),(12,us 30),(13,us 31),(14,us 32),(15,us 34),(16,us 38),(17,us 41),(18,us 42),(19,us 44),(20,us 45),(21,us 47),(22,us 48),(23,us 51),(24,us 53)] := by kernel_rfl
 rw [← e1] at hb
 refine wpOp_of_wp ho hgu (wp_build _ _ hop (by rw [hb]; rfl) ?_)
 rw [hb,hdst]
 exact rfin hB hS hX 51 (by decide) _ _ (by kernel_rfl) (Below.refl _ _) ⟨_,rfl,⟨_,_,_,rfl,x1,y1,⟨_,_,_,rfl,x2,y2,⟨_,_,_,rfl,x3,y3,⟨_,_,_,rfl,x4,y4,⟨_,_,_,rfl,x5,y5,⟨_,_,_,rfl,x6,y6,⟨_,_,_,rfl,x7,y7,⟨_,_,_,rfl,x8,y8,⟨_,_,_,rfl,x9,y9,⟨_,_,_,rfl,x10,y10,⟨_,_,_,rfl,x11,y11,⟨_,_,_,rfl,x12,y12,⟨_,_,_,rfl,x13,y13,⟨_,_,_,rfl,x14,y14,⟨_,_,_,rfl,x15,y15,⟨_,_,_,rfl,x16,y16,⟨_,_,_,rfl,x17,y17,⟨_,_,_,rfl,x18,y18,⟨_,_,_,rfl,x19,y19,⟨_,_,_,rfl,x20,y20,⟨_,_,_,rfl,x21,y21,⟨_,_,_,rfl,x22,y22,⟨_,_,_,rfl,x23,y23,⟨_,_,_,rfl,x24,y24,rfl⟩⟩⟩⟩⟩⟩⟩⟩⟩⟩⟩⟩⟩⟩⟩⟩⟩⟩⟩⟩⟩⟩⟩⟩⟩

theorem rstore (W : World) (o : Oper) (hop : o.op = .store 96 (.tmp 0) (.tmp 54)) (hdst : o.dst = none) (hgu : o.guard = none) (haft : (⟨51,.data⟩ : Edge) ∈ o.after) : rOk W 52 o := by
 intro OPS Q L us w hB hS hX ho hL hd
 obtain ⟨cs,hu,hall⟩ : (Sk.all rls).holds (W.heap.size + 1) w (us 54) := hS 51 (hd _ haft rfl)
 obtain ⟨hX1,hX2,_⟩ := hX
 have hg := hX2 hL
 have hl : cs.length = 168 := by rw [hall.one.2]; rfl
 have hsz : (zrl ++ cs).toArray.size = 175 := by simp [zrl,hl]
 refine wpOp_of_wp ho hgu (wp_store_row _ _ _ hop W.heap.size (zrl ++ cs).toArray rfl hu _ _ hg (by rw [hsz]; kernel_rfl) (by rw [hsz]; kernel_rfl) ?_ ?_)
 ·have := hall.one.1
  simp only [List.all_toArray,List.all_append,this,Bool.and_true]
  rfl
 ·have hs : Sin (W.heap.size + 1) w (w.setRow W.heap.size (zrl ++ cs).toArray) := ⟨by simp,fun k h1 _ => setRow_other _ _ _ _ (by omega)⟩
  have hb : Below W.heap.size W (w.setRow W.heap.size (zrl ++ cs).toArray) := hB.trans ⟨rfl,rfl,rfl,by simp,fun k hk => setRow_other _ _ _ _ (by omega)⟩
  refine Ist.put (F := rF W.heap.size) (dst := (· + 3)) (fun i j h => by simpa using h) hS 52 undef _ (by rw [hdst]; rfl) hs hb rfl ?_
  unfold rX
  refine ⟨(setRow_other _ _ _ _ (by omega)).trans hX1,fun h => by simp [upb] at h,fun _ => ⟨cs,setRow_heap _ _ _ _ _ _ hg,AllIs.sin hs hall⟩⟩

theorem rret {fn : Func} {R : Ending → World → Prop} {a : Act} {w : World} (h : fn.results = #[.cell 0 96]) (g : Nat) (cs : Array Value) (hn : cs.size = 175) (hp : a.tmps.getD 0 undef = .pointer (some ⟨g,0,none⟩))
  (hg : w.heap[g]? = some (.cells cs 96 (0,0))) (hd : a.defers = []) (hR : R (.returned (.agg cs)) w) : bodyPost Tryz.prog fn R .ret a w := by
 refine bodyPost_ret (v := .agg cs) ?_ hd hR
 have hp' : a.tmps[0]?.getD undef = .pointer (some ⟨g,0,none⟩) := by simpa using hp
 have hl := run_loadVar_row (P := Tryz.prog) w g 96 96 cs (0,0) _ hg Tryz.underlying96 rfl (by rw [hn]; kernel_rfl)
 simp [results,h,hp',asAddr,hl]

set_option maxRecDepth 100000 in
set_option maxHeartbeats 40000000 in
theorem prules_any (W : World) : Calls Tryz.prog 46 #[] W fun e W' => ∃ cs,e = .returned (.agg (zrl ++ cs).toArray) ∧ AllIs (W.heap.size + 1) W' rls cs ∧ Below W.heap.size W W' := by
 have hmf : ∀ (fn : Fn) (first cap : Array Value) (w : World),(Instr.makeFunc fn first cap).run Tryz.prog w = .ok (.func fn first cap) w := fun _ _ _ _ => rfl
 go_enter Tryz.func46,Tryz.ntmps46
 go_wp2_with fail
 refine wp_region_inv' rfl (by kernel_rfl) (rI W) ?_ (rstep ?_) ?_
 ·refine ⟨((((Below.refl _ _).alloc (Nat.le_refl _) _).alloc (by simp only [World.size_alloc]; omega) _)).drew,fun _ => undef,rfl,(fun i h => by cases h),?_⟩
  unfold rX
  refine ⟨?_,fun _ => ?_,fun h => by cases h⟩
  ·exact alloc_at _ _ (by simp)
  ·exact (alloc_old (alloc_at W (.cells Tryz.zeroCells96 96) rfl)).trans (by rw [show Tryz.zeroCells96 = rzero.toArray by kernel_rfl])
 ·refine ⟨?_,?_,?_,?_,?_,?_,?_,?_,?_,?_,?_,?_,?_,?_,?_,?_,?_,?_,?_,?_,?_,?_,?_,?_,?_,?_,?_,?_,?_,?_,?_,?_,?_,?_,?_,?_,?_,?_,?_,?_,?_,?_,?_,?_,?_,?_,?_,?_,?_,?_,?_,?_,?_,trivial⟩
  ·intro OPS Q L us w hB hS hX ho hL hd
   refine wpOp_list ho ?_
   intro Q' hQ'
   have HQ : Hid (∀ a' w',rI W (fun k => if k = 0 then true else L k) a' w' → Q' .normal a' w') := hQ'
   clear hQ'
   have H : Hid _ := And.intro hB (And.intro hS hX)
   clear hB hS hX hd ho hL
   have HV : Hid ((rtab W.heap.size 0).holds (W.heap.size + 1) w (.agg #[(.func (.func 73) #[] #[]),.int .i64 0,.int .i64 0,.bool false,.int .i64 0,.bool false,(.func (.func 74) #[] #[])])) := ⟨_,rfl,_,_,rfl,(pxSyntax_ask _ _),(pkFile_ask _ _)⟩
   unfold rF
   go_wp2
   exact HQ.out _ _ (rfin H.out.1 H.out.2.1 H.out.2.2 0 (by decide) _ _ (by simp [rF,upv]) (Below.refl _ _) HV.out)
  ·intro OPS Q L us w hB hS hX ho hL hd
   refine wpOp_list ho ?_
   intro Q' hQ'
   have HQ : Hid (∀ a' w',rI W (fun k => if k = 1 then true else L k) a' w' → Q' .normal a' w') := hQ'
   clear hQ'
   have H : Hid _ := And.intro hB (And.intro hS hX)
   clear hB hS hX hd ho hL
   have HV : Hid ((rtab W.heap.size 1).holds (W.heap.size + 1) w (.agg #[(.func (.func 75) #[] #[]),.int .i64 0,.int .i64 0,.bool false,.int .i64 1,.bool false,.nilFunc])) := ⟨_,rfl,_,_,rfl,(pxPath_ask _ _),rfl⟩
   unfold rF
   go_wp2
   exact HQ.out _ _ (rfin H.out.1 H.out.2.1 H.out.2.2 1 (by decide) _ _ (by simp [rF,upv]) (Below.refl _ _) HV.out)
  ·intro OPS Q L us w hB hS hX ho hL hd
   refine wpOp_list ho ?_
   intro Q' hQ'
   have HQ : Hid (∀ a' w',rI W (fun k => if k = 2 then true else L k) a' w' → Q' .normal a' w') := hQ'
   clear hQ'
   have H : Hid _ := And.intro hB (And.intro hS hX)
   clear hB hS hX hd ho hL
   have HV : Hid ((rtab W.heap.size 2).holds (W.heap.size + 1) w (.agg #[(.func (.func 76) #[] #[]),.int .i64 0,.int .i64 0,.bool false,.int .i64 0,.bool false,.nilFunc])) := ⟨_,rfl,_,_,rfl,(pxFull_ask _ _),rfl⟩
   unfold rF
   go_wp2
   exact HQ.out _ _ (rfin H.out.1 H.out.2.1 H.out.2.2 2 (by decide) _ _ (by simp [rF,upv]) (Below.refl _ _) HV.out)
  ·intro OPS Q L us w hB hS hX ho hL hd
   refine wpOp_list ho ?_
   intro Q' hQ'
   have HQ : Hid (∀ a' w',rI W (fun k => if k = 3 then true else L k) a' w' → Q' .normal a' w') := hQ'
   clear hQ'
   have H : Hid _ := And.intro hB (And.intro hS hX)
   clear hB hS hX hd ho hL
   have HV : Hid ((rtab W.heap.size 3).holds (W.heap.size + 1) w (.agg #[.nilFunc,.int .i64 0,.int .i64 0,.bool false,.int .i64 0,.bool false,(.func (.func 77) #[] #[])])) := ⟨_,rfl,_,_,rfl,rfl,(pkOption_ask _ _)⟩
   unfold rF
   go_wp2
   exact HQ.out _ _ (rfin H.out.1 H.out.2.1 H.out.2.2 3 (by decide) _ _ (by simp [rF,upv]) (Below.refl _ _) HV.out)
  ·intro OPS Q L us w hB hS hX ho hL hd
   refine wpOp_list ho ?_
   intro Q' hQ'
   have HQ : Hid (∀ a' w',rI W (fun k => if k = 4 then true else L k) a' w' → Q' .normal a' w') := hQ'
   clear hQ'
   have hc := one_cell_of hX.1
   have H : Hid _ := And.intro hB (And.intro hS hX)
   clear hB hS hX hd ho hL
   unfold rF
   go_wp2
   exact HQ.out _ _ (rfin H.out.1 H.out.2.1 H.out.2.2 4 (by decide) _ _ (by simp [rF,upv]) (Below.refl _ _) rfl)
  ·intro OPS Q L us w hB hS hX ho hL hd
   refine wpOp_list ho ?_
   intro Q' hQ'
   have HQ : Hid (∀ a' w',rI W (fun k => if k = 5 then true else L k) a' w' → Q' .normal a' w') := hQ'
   clear hQ'
   have H : Hid _ := And.intro hB (And.intro hS hX)
   clear hB hS hX hd ho hL
   have hv : (rtab W.heap.size 5).holds (W.heap.size + 1) (w.alloc (.cells #[.int .i64 9,.int .i64 10,.int .i64 5,.int .i64 6,.int .i64 7,.int .i64 12,.int .i64 13,.int .i64 11,.int .i64 4] 3)) (.slice (some ⟨w.heap.size,0,none⟩) 9 9) := by
    refine ⟨w.heap.size,rfl,?_,by simp,ib_lit w _ _ rfl⟩
    have := one_lt H.out.2.2.1
    omega
   have HV : Hid _ := hv
   clear hv
   unfold rF
   go_wp2
   exact HQ.out _ _ (rfin H.out.1 H.out.2.1 H.out.2.2 5 (by decide) _ _ (by simp [rF,upv]) ((Below.refl _ _).alloc (Nat.le_refl _) _) HV.out)
  ·intro OPS Q L us w hB hS hX ho hL hd
   refine wpOp_list ho ?_
   intro Q' hQ'
   have HQ : Hid (∀ a' w',rI W (fun k => if k = 6 then true else L k) a' w' → Q' .normal a' w') := hQ'
   clear hQ'
   obtain ⟨b,hu,hb1,hb2,hb3⟩ := hS 5 (hd ⟨5,.data⟩ (by simp) rfl)
   change us 8 = .slice (some ⟨b,0,none⟩) 9 9 at hu
   have Q0 : Hid _ := ponly_any w b 9 [9,10,5,6,7,12,13,11,4] (by decide) hb3 hb2 (W.heap.size + 1) hb1
   have H : Hid _ := And.intro hB (And.intro hS hX)
   clear hb1 hb2 hb3 hB hS hX hd ho hL
   unfold rF
   simp only [hu]
   go_wp2_with fail
   refine Calls.mono Q0.out ?_
   rintro e w1 ⟨f,rfl,hask,hb⟩
   have HA : Hid _ := And.intro hask hb
   clear hask hb
   go_wp2
   exact HQ.out _ _ (rfin H.out.1 H.out.2.1 H.out.2.2 6 (by decide) _ _ (by simp [rF,upv,hu]) HA.out.2 HA.out.1)
  ·intro OPS Q L us w hB hS hX ho hL hd
   refine wpOp_list ho ?_
   intro Q' hQ'
   have HQ : Hid (∀ a' w',rI W (fun k => if k = 7 then true else L k) a' w' → Q' .normal a' w') := hQ'
   clear hQ'
   have hu1 := hS 4 (hd ⟨4,.data⟩ (by simp) rfl)
   change us 7 = .func (.func 68) #[] #[] at hu1
   have hd2 := hS 6 (hd ⟨6,.data⟩ (by simp) rfl)
   have HK : Hid (AskL (W.heap.size + 1) w (us 9) (fun l => l.all fun t => [9,10,5,6,7,12,13,11,4].contains t.kind)) := hd2
   obtain ⟨k2,caps2,hu2,_⟩ := hd2
   have H : Hid _ := And.intro hB (And.intro hS hX)
   clear hB hS hX hd ho hL
   have HV : Hid ((rtab W.heap.size 7).holds (W.heap.size + 1) w (.agg #[(.func (.func 68) #[] #[]),.int .i64 0,.int .i64 0,.bool false,.int .i64 0,.bool true,(.func (.func k2) #[] caps2)])) := ⟨_,rfl,_,_,rfl,(pxIdent_ask _ _),(by have := HK.out; rw [hu2] at this; exact this)⟩
   unfold rF
   simp only [hu1,hu2]
   go_wp2
   exact HQ.out _ _ (rfin H.out.1 H.out.2.1 H.out.2.2 7 (by decide) _ _ (by simp [rF,upv,hu1,hu2]) (Below.refl _ _) HV.out)
  ·intro OPS Q L us w hB hS hX ho hL hd
   refine wpOp_list ho ?_
   intro Q' hQ'
   have HQ : Hid (∀ a' w',rI W (fun k => if k = 8 then true else L k) a' w' → Q' .normal a' w') := hQ'
   clear hQ'
   have hc := one_cell_of hX.1
   have H : Hid _ := And.intro hB (And.intro hS hX)
   clear hB hS hX hd ho hL
   unfold rF
   go_wp2
   exact HQ.out _ _ (rfin H.out.1 H.out.2.1 H.out.2.2 8 (by decide) _ _ (by simp [rF,upv]) (Below.refl _ _) rfl)
  ·intro OPS Q L us w hB hS hX ho hL hd
   refine wpOp_list ho ?_
   intro Q' hQ'
   have HQ : Hid (∀ a' w',rI W (fun k => if k = 9 then true else L k) a' w' → Q' .normal a' w') := hQ'
   clear hQ'
   have H : Hid _ := And.intro hB (And.intro hS hX)
   clear hB hS hX hd ho hL
   have hv : (rtab W.heap.size 9).holds (W.heap.size + 1) (w.alloc (.cells #[.int .i64 16,.int .i64 4] 3)) (.slice (some ⟨w.heap.size,0,none⟩) 2 2) := by
    refine ⟨w.heap.size,rfl,?_,by simp,ib_lit w _ _ rfl⟩
    have := one_lt H.out.2.2.1
    omega
   have HV : Hid _ := hv
   clear hv
   unfold rF
   go_wp2
   exact HQ.out _ _ (rfin H.out.1 H.out.2.1 H.out.2.2 9 (by decide) _ _ (by simp [rF,upv]) ((Below.refl _ _).alloc (Nat.le_refl _) _) HV.out)
  ·intro OPS Q L us w hB hS hX ho hL hd
   refine wpOp_list ho ?_
   intro Q' hQ'
   have HQ : Hid (∀ a' w',rI W (fun k => if k = 10 then true else L k) a' w' → Q' .normal a' w') := hQ'
   clear hQ'
   obtain ⟨b,hu,hb1,hb2,hb3⟩ := hS 9 (hd ⟨9,.data⟩ (by simp) rfl)
   change us 12 = .slice (some ⟨b,0,none⟩) 2 2 at hu
   have Q0 : Hid _ := ponly_any w b 2 [16,4] (by decide) hb3 hb2 (W.heap.size + 1) hb1
   have H : Hid _ := And.intro hB (And.intro hS hX)
   clear hb1 hb2 hb3 hB hS hX hd ho hL
   unfold rF
   simp only [hu]
   go_wp2_with fail
   refine Calls.mono Q0.out ?_
   rintro e w1 ⟨f,rfl,hask,hb⟩
   have HA : Hid _ := And.intro hask hb
   clear hask hb
   go_wp2
   exact HQ.out _ _ (rfin H.out.1 H.out.2.1 H.out.2.2 10 (by decide) _ _ (by simp [rF,upv,hu]) HA.out.2 HA.out.1)
  ·intro OPS Q L us w hB hS hX ho hL hd
   refine wpOp_list ho ?_
   intro Q' hQ'
   have HQ : Hid (∀ a' w',rI W (fun k => if k = 11 then true else L k) a' w' → Q' .normal a' w') := hQ'
   clear hQ'
   have hu1 := hS 8 (hd ⟨8,.data⟩ (by simp) rfl)
   change us 11 = .func (.func 68) #[] #[] at hu1
   have hd2 := hS 10 (hd ⟨10,.data⟩ (by simp) rfl)
   have HK : Hid (AskL (W.heap.size + 1) w (us 13) (fun l => l.all fun t => [16,4].contains t.kind)) := hd2
   obtain ⟨k2,caps2,hu2,_⟩ := hd2
   have H : Hid _ := And.intro hB (And.intro hS hX)
   clear hB hS hX hd ho hL
   have HV : Hid ((rtab W.heap.size 11).holds (W.heap.size + 1) w (.agg #[(.func (.func 68) #[] #[]),.int .i64 0,.int .i64 0,.bool false,.int .i64 0,.bool true,(.func (.func k2) #[] caps2)])) := ⟨_,rfl,_,_,rfl,(pxIdent_ask _ _),(by have := HK.out; rw [hu2] at this; exact this)⟩
   unfold rF
   simp only [hu1,hu2]
   go_wp2
   exact HQ.out _ _ (rfin H.out.1 H.out.2.1 H.out.2.2 11 (by decide) _ _ (by simp [rF,upv,hu1,hu2]) (Below.refl _ _) HV.out)
  ·intro OPS Q L us w hB hS hX ho hL hd
   refine wpOp_list ho ?_
   intro Q' hQ'
   have HQ : Hid (∀ a' w',rI W (fun k => if k = 12 then true else L k) a' w' → Q' .normal a' w') := hQ'
   clear hQ'
   have H : Hid _ := And.intro hB (And.intro hS hX)
   clear hB hS hX hd ho hL
   have hv : (rtab W.heap.size 12).holds (W.heap.size + 1) (w.alloc (.cells #[.int .i64 9] 3)) (.slice (some ⟨w.heap.size,0,none⟩) 1 1) := by
    refine ⟨w.heap.size,rfl,?_,by simp,ib_lit w _ _ rfl⟩
    have := one_lt H.out.2.2.1
    omega
   have HV : Hid _ := hv
   clear hv
   unfold rF
   go_wp2
   exact HQ.out _ _ (rfin H.out.1 H.out.2.1 H.out.2.2 12 (by decide) _ _ (by simp [rF,upv]) ((Below.refl _ _).alloc (Nat.le_refl _) _) HV.out)
  ·intro OPS Q L us w hB hS hX ho hL hd
   refine wpOp_list ho ?_
   intro Q' hQ'
   have HQ : Hid (∀ a' w',rI W (fun k => if k = 13 then true else L k) a' w' → Q' .normal a' w') := hQ'
   clear hQ'
   obtain ⟨b,hu,hb1,hb2,hb3⟩ := hS 12 (hd ⟨12,.data⟩ (by simp) rfl)
   change us 15 = .slice (some ⟨b,0,none⟩) 1 1 at hu
   have Q0 : Hid _ := ponly_any w b 1 [9] (by decide) hb3 hb2 (W.heap.size + 1) hb1
   have H : Hid _ := And.intro hB (And.intro hS hX)
   clear hb1 hb2 hb3 hB hS hX hd ho hL
   unfold rF
   simp only [hu]
   go_wp2_with fail
   refine Calls.mono Q0.out ?_
   rintro e w1 ⟨f,rfl,hask,hb⟩
   have HA : Hid _ := And.intro hask hb
   clear hask hb
   go_wp2
   exact HQ.out _ _ (rfin H.out.1 H.out.2.1 H.out.2.2 13 (by decide) _ _ (by simp [rF,upv,hu]) HA.out.2 HA.out.1)
  ·intro OPS Q L us w hB hS hX ho hL hd
   refine wpOp_list ho ?_
   intro Q' hQ'
   have HQ : Hid (∀ a' w',rI W (fun k => if k = 14 then true else L k) a' w' → Q' .normal a' w') := hQ'
   clear hQ'
   have hd2 := hS 13 (hd ⟨13,.data⟩ (by simp) rfl)
   have HK : Hid (AskL (W.heap.size + 1) w (us 16) (fun l => l.all fun t => [9].contains t.kind)) := hd2
   obtain ⟨k2,caps2,hu2,_⟩ := hd2
   have H : Hid _ := And.intro hB (And.intro hS hX)
   clear hB hS hX hd ho hL
   have HV : Hid ((rtab W.heap.size 14).holds (W.heap.size + 1) w (.agg #[(.func (.func 79) #[] #[]),.int .i64 0,.int .i64 0,.bool false,.int .i64 0,.bool false,(.func (.func k2) #[] caps2)])) := ⟨_,rfl,_,_,rfl,(pxNamed_ask _ _),(by have := HK.out; rw [hu2] at this; exact this)⟩
   unfold rF
   simp only [hu2]
   go_wp2
   exact HQ.out _ _ (rfin H.out.1 H.out.2.1 H.out.2.2 14 (by decide) _ _ (by simp [rF,upv,hu2]) (Below.refl _ _) HV.out)
  ·intro OPS Q L us w hB hS hX ho hL hd
   refine wpOp_list ho ?_
   intro Q' hQ'
   have HQ : Hid (∀ a' w',rI W (fun k => if k = 15 then true else L k) a' w' → Q' .normal a' w') := hQ'
   clear hQ'
   have hc := one_cell_of hX.1
   have H : Hid _ := And.intro hB (And.intro hS hX)
   clear hB hS hX hd ho hL
   unfold rF
   go_wp2
   exact HQ.out _ _ (rfin H.out.1 H.out.2.1 H.out.2.2 15 (by decide) _ _ (by simp [rF,upv]) (Below.refl _ _) rfl)
  ·intro OPS Q L us w hB hS hX ho hL hd
   refine wpOp_list ho ?_
   intro Q' hQ'
   have HQ : Hid (∀ a' w',rI W (fun k => if k = 16 then true else L k) a' w' → Q' .normal a' w') := hQ'
   clear hQ'
   have H : Hid _ := And.intro hB (And.intro hS hX)
   clear hB hS hX hd ho hL
   have hv : (rtab W.heap.size 16).holds (W.heap.size + 1) (w.alloc (.cells #[.int .i64 17,.int .i64 4] 3)) (.slice (some ⟨w.heap.size,0,none⟩) 2 2) := by
    refine ⟨w.heap.size,rfl,?_,by simp,ib_lit w _ _ rfl⟩
    have := one_lt H.out.2.2.1
    omega
   have HV : Hid _ := hv
   clear hv
   unfold rF
   go_wp2
   exact HQ.out _ _ (rfin H.out.1 H.out.2.1 H.out.2.2 16 (by decide) _ _ (by simp [rF,upv]) ((Below.refl _ _).alloc (Nat.le_refl _) _) HV.out)
  ·intro OPS Q L us w hB hS hX ho hL hd
   refine wpOp_list ho ?_
   intro Q' hQ'
   have HQ : Hid (∀ a' w',rI W (fun k => if k = 17 then true else L k) a' w' → Q' .normal a' w') := hQ'
   clear hQ'
   obtain ⟨b,hu,hb1,hb2,hb3⟩ := hS 16 (hd ⟨16,.data⟩ (by simp) rfl)
   change us 19 = .slice (some ⟨b,0,none⟩) 2 2 at hu
   have Q0 : Hid _ := ponly_any w b 2 [17,4] (by decide) hb3 hb2 (W.heap.size + 1) hb1
   have H : Hid _ := And.intro hB (And.intro hS hX)
   clear hb1 hb2 hb3 hB hS hX hd ho hL
   unfold rF
   simp only [hu]
   go_wp2_with fail
   refine Calls.mono Q0.out ?_
   rintro e w1 ⟨f,rfl,hask,hb⟩
   have HA : Hid _ := And.intro hask hb
   clear hask hb
   go_wp2
   exact HQ.out _ _ (rfin H.out.1 H.out.2.1 H.out.2.2 17 (by decide) _ _ (by simp [rF,upv,hu]) HA.out.2 HA.out.1)
  ·intro OPS Q L us w hB hS hX ho hL hd
   refine wpOp_list ho ?_
   intro Q' hQ'
   have HQ : Hid (∀ a' w',rI W (fun k => if k = 18 then true else L k) a' w' → Q' .normal a' w') := hQ'
   clear hQ'
   have hu1 := hS 15 (hd ⟨15,.data⟩ (by simp) rfl)
   change us 18 = .func (.func 68) #[] #[] at hu1
   have hd2 := hS 17 (hd ⟨17,.data⟩ (by simp) rfl)
   have HK : Hid (AskL (W.heap.size + 1) w (us 20) (fun l => l.all fun t => [17,4].contains t.kind)) := hd2
   obtain ⟨k2,caps2,hu2,_⟩ := hd2
   have H : Hid _ := And.intro hB (And.intro hS hX)
   clear hB hS hX hd ho hL
   have HV : Hid ((rtab W.heap.size 18).holds (W.heap.size + 1) w (.agg #[(.func (.func 68) #[] #[]),.int .i64 0,.int .i64 0,.bool false,.int .i64 0,.bool true,(.func (.func k2) #[] caps2)])) := ⟨_,rfl,_,_,rfl,(pxIdent_ask _ _),(by have := HK.out; rw [hu2] at this; exact this)⟩
   unfold rF
   simp only [hu1,hu2]
   go_wp2
   exact HQ.out _ _ (rfin H.out.1 H.out.2.1 H.out.2.2 18 (by decide) _ _ (by simp [rF,upv,hu1,hu2]) (Below.refl _ _) HV.out)
  ·intro OPS Q L us w hB hS hX ho hL hd
   refine wpOp_list ho ?_
   intro Q' hQ'
   have HQ : Hid (∀ a' w',rI W (fun k => if k = 19 then true else L k) a' w' → Q' .normal a' w') := hQ'
   clear hQ'
   have hc := one_cell_of hX.1
   have H : Hid _ := And.intro hB (And.intro hS hX)
   clear hB hS hX hd ho hL
   unfold rF
   go_wp2
   exact HQ.out _ _ (rfin H.out.1 H.out.2.1 H.out.2.2 19 (by decide) _ _ (by simp [rF,upv]) (Below.refl _ _) rfl)
  ·intro OPS Q L us w hB hS hX ho hL hd
   refine wpOp_list ho ?_
   intro Q' hQ'
   have HQ : Hid (∀ a' w',rI W (fun k => if k = 20 then true else L k) a' w' → Q' .normal a' w') := hQ'
   clear hQ'
   have hlt := one_lt hX.1
   have q := ptyped_any w 1 (by omega) (by omega)
   change Calls Tryz.prog 81 #[.int .i64 1] w _ at q
   have Q0 : Hid _ := q
   have HW : Hid (W.heap.size + 1 ≤ w.heap.size) := by show _ ≤ _; omega
   have H : Hid _ := And.intro hB (And.intro hS hX)
   clear q hlt hB hS hX hd ho hL
   unfold rF
   go_wp2_with fail
   refine Calls.mono Q0.out ?_
   rintro e w1 ⟨f,rfl,hask,hb⟩
   have HA : Hid _ := And.intro (AskL.less hask HW.out) hb
   clear hask hb
   go_wp2
   exact HQ.out _ _ (rfin H.out.1 H.out.2.1 H.out.2.2 20 (by decide) _ _ (by simp [rF,upv]) HA.out.2 HA.out.1)
  ·intro OPS Q L us w hB hS hX ho hL hd
   refine wpOp_list ho ?_
   intro Q' hQ'
   have HQ : Hid (∀ a' w',rI W (fun k => if k = 21 then true else L k) a' w' → Q' .normal a' w') := hQ'
   clear hQ'
   have hu1 := hS 19 (hd ⟨19,.data⟩ (by simp) rfl)
   change us 22 = .func (.func 68) #[] #[] at hu1
   have hd2 := hS 20 (hd ⟨20,.data⟩ (by simp) rfl)
   have HK : Hid (AskL (W.heap.size + 1) w (us 23) (ptyp 1)) := hd2
   obtain ⟨k2,caps2,hu2,_⟩ := hd2
   have H : Hid _ := And.intro hB (And.intro hS hX)
   clear hB hS hX hd ho hL
   have HV : Hid ((rtab W.heap.size 21).holds (W.heap.size + 1) w (.agg #[(.func (.func 68) #[] #[]),.int .i64 0,.int .i64 2147483647,.bool false,.int .i64 3,.bool true,(.func (.func k2) #[] caps2)])) := ⟨_,rfl,_,_,rfl,(pxIdent_ask _ _),(by have := HK.out; rw [hu2] at this; exact this)⟩
   unfold rF
   simp only [hu1,hu2]
   go_wp2
   exact HQ.out _ _ (rfin H.out.1 H.out.2.1 H.out.2.2 21 (by decide) _ _ (by simp [rF,upv,hu1,hu2]) (Below.refl _ _) HV.out)
  ·intro OPS Q L us w hB hS hX ho hL hd
   refine wpOp_list ho ?_
   intro Q' hQ'
   have HQ : Hid (∀ a' w',rI W (fun k => if k = 22 then true else L k) a' w' → Q' .normal a' w') := hQ'
   clear hQ'
   have hc := one_cell_of hX.1
   have H : Hid _ := And.intro hB (And.intro hS hX)
   clear hB hS hX hd ho hL
   unfold rF
   go_wp2
   exact HQ.out _ _ (rfin H.out.1 H.out.2.1 H.out.2.2 22 (by decide) _ _ (by simp [rF,upv]) (Below.refl _ _) rfl)
  ·intro OPS Q L us w hB hS hX ho hL hd
   refine wpOp_list ho ?_
   intro Q' hQ'
   have HQ : Hid (∀ a' w',rI W (fun k => if k = 23 then true else L k) a' w' → Q' .normal a' w') := hQ'
   clear hQ'
   have hu1 := hS 22 (hd ⟨22,.data⟩ (by simp) rfl)
   change us 25 = .func (.func 68) #[] #[] at hu1
   have H : Hid _ := And.intro hB (And.intro hS hX)
   clear hB hS hX hd ho hL
   have HV : Hid ((rtab W.heap.size 23).holds (W.heap.size + 1) w (.agg #[(.func (.func 68) #[] #[]),.int .i64 0,.int .i64 2147483647,.bool false,.int .i64 0,.bool true,(.func (.func 82) #[] #[])])) := ⟨_,rfl,_,_,rfl,(pxIdent_ask _ _),(pkMap_ask _ _)⟩
   unfold rF
   simp only [hu1]
   go_wp2
   exact HQ.out _ _ (rfin H.out.1 H.out.2.1 H.out.2.2 23 (by decide) _ _ (by simp [rF,upv,hu1]) (Below.refl _ _) HV.out)
  ·intro OPS Q L us w hB hS hX ho hL hd
   refine wpOp_list ho ?_
   intro Q' hQ'
   have HQ : Hid (∀ a' w',rI W (fun k => if k = 24 then true else L k) a' w' → Q' .normal a' w') := hQ'
   clear hQ'
   have hc := one_cell_of hX.1
   have H : Hid _ := And.intro hB (And.intro hS hX)
   clear hB hS hX hd ho hL
   unfold rF
   go_wp2
   exact HQ.out _ _ (rfin H.out.1 H.out.2.1 H.out.2.2 24 (by decide) _ _ (by simp [rF,upv]) (Below.refl _ _) rfl)
  ·intro OPS Q L us w hB hS hX ho hL hd
   refine wpOp_list ho ?_
   intro Q' hQ'
   have HQ : Hid (∀ a' w',rI W (fun k => if k = 25 then true else L k) a' w' → Q' .normal a' w') := hQ'
   clear hQ'
   have hu1 := hS 24 (hd ⟨24,.data⟩ (by simp) rfl)
   change us 27 = .func (.func 68) #[] #[] at hu1
   have H : Hid _ := And.intro hB (And.intro hS hX)
   clear hB hS hX hd ho hL
   have HV : Hid ((rtab W.heap.size 25).holds (W.heap.size + 1) w (.agg #[(.func (.func 68) #[] #[]),.int .i64 0,.int .i64 0,.bool false,.int .i64 0,.bool true,(.func (.func 83) #[] #[])])) := ⟨_,rfl,_,_,rfl,(pxIdent_ask _ _),(pkOneof_ask _ _)⟩
   unfold rF
   simp only [hu1]
   go_wp2
   exact HQ.out _ _ (rfin H.out.1 H.out.2.1 H.out.2.2 25 (by decide) _ _ (by simp [rF,upv,hu1]) (Below.refl _ _) HV.out)
  ·intro OPS Q L us w hB hS hX ho hL hd
   refine wpOp_list ho ?_
   intro Q' hQ'
   have HQ : Hid (∀ a' w',rI W (fun k => if k = 26 then true else L k) a' w' → Q' .normal a' w') := hQ'
   clear hQ'
   have hlt := one_lt hX.1
   have q := psome_any w 14 (by omega) (by omega)
   change Calls Tryz.prog 84 #[.int .i64 14] w _ at q
   have Q0 : Hid _ := q
   have HW : Hid (W.heap.size + 1 ≤ w.heap.size) := by show _ ≤ _; omega
   have H : Hid _ := And.intro hB (And.intro hS hX)
   clear q hlt hB hS hX hd ho hL
   unfold rF
   go_wp2_with fail
   refine Calls.mono Q0.out ?_
   rintro e w1 ⟨f,rfl,hask,hb⟩
   have HA : Hid _ := And.intro (AskL.less hask HW.out) hb
   clear hask hb
   go_wp2
   exact HQ.out _ _ (rfin H.out.1 H.out.2.1 H.out.2.2 26 (by decide) _ _ (by simp [rF,upv]) HA.out.2 HA.out.1)
  ·intro OPS Q L us w hB hS hX ho hL hd
   refine wpOp_list ho ?_
   intro Q' hQ'
   have HQ : Hid (∀ a' w',rI W (fun k => if k = 27 then true else L k) a' w' → Q' .normal a' w') := hQ'
   clear hQ'
   have hd2 := hS 26 (hd ⟨26,.data⟩ (by simp) rfl)
   have HK : Hid (AskL (W.heap.size + 1) w (us 29) (pkSome 14)) := hd2
   obtain ⟨k2,caps2,hu2,_⟩ := hd2
   have H : Hid _ := And.intro hB (And.intro hS hX)
   clear hB hS hX hd ho hL
   have HV : Hid ((rtab W.heap.size 27).holds (W.heap.size + 1) w (.agg #[.nilFunc,.int .i64 0,.int .i64 0,.bool false,.int .i64 0,.bool false,(.func (.func k2) #[] caps2)])) := ⟨_,rfl,_,_,rfl,rfl,(by have := HK.out; rw [hu2] at this; exact this)⟩
   unfold rF
   simp only [hu2]
   go_wp2
   exact HQ.out _ _ (rfin H.out.1 H.out.2.1 H.out.2.2 27 (by decide) _ _ (by simp [rF,upv,hu2]) (Below.refl _ _) HV.out)
  ·intro OPS Q L us w hB hS hX ho hL hd
   refine wpOp_list ho ?_
   intro Q' hQ'
   have HQ : Hid (∀ a' w',rI W (fun k => if k = 28 then true else L k) a' w' → Q' .normal a' w') := hQ'
   clear hQ'
   have H : Hid _ := And.intro hB (And.intro hS hX)
   clear hB hS hX hd ho hL
   have HV : Hid ((rtab W.heap.size 28).holds (W.heap.size + 1) w (.agg #[.nilFunc,.int .i64 0,.int .i64 0,.bool false,.int .i64 0,.bool false,(.func (.func 85) #[] #[])])) := ⟨_,rfl,_,_,rfl,rfl,(pkReserved_ask _ _)⟩
   unfold rF
   go_wp2
   exact HQ.out _ _ (rfin H.out.1 H.out.2.1 H.out.2.2 28 (by decide) _ _ (by simp [rF,upv]) (Below.refl _ _) HV.out)
  ·intro OPS Q L us w hB hS hX ho hL hd
   refine wpOp_list ho ?_
   intro Q' hQ'
   have HQ : Hid (∀ a' w',rI W (fun k => if k = 29 then true else L k) a' w' → Q' .normal a' w') := hQ'
   clear hQ'
   have H : Hid _ := And.intro hB (And.intro hS hX)
   clear hB hS hX hd ho hL
   have HV : Hid ((rtab W.heap.size 29).holds (W.heap.size + 1) w (.agg #[.nilFunc,.int .i64 0,.int .i64 2147483647,.bool true,.int .i64 0,.bool false,.nilFunc])) := ⟨_,rfl,_,_,rfl,rfl,rfl⟩
   unfold rF
   go_wp2
   exact HQ.out _ _ (rfin H.out.1 H.out.2.1 H.out.2.2 29 (by decide) _ _ (by simp [rF,upv]) (Below.refl _ _) HV.out)
  ·intro OPS Q L us w hB hS hX ho hL hd
   refine wpOp_list ho ?_
   intro Q' hQ'
   have HQ : Hid (∀ a' w',rI W (fun k => if k = 30 then true else L k) a' w' → Q' .normal a' w') := hQ'
   clear hQ'
   have hc := one_cell_of hX.1
   have H : Hid _ := And.intro hB (And.intro hS hX)
   clear hB hS hX hd ho hL
   unfold rF
   go_wp2
   exact HQ.out _ _ (rfin H.out.1 H.out.2.1 H.out.2.2 30 (by decide) _ _ (by simp [rF,upv]) (Below.refl _ _) rfl)
  ·intro OPS Q L us w hB hS hX ho hL hd
   refine wpOp_list ho ?_
   intro Q' hQ'
   have HQ : Hid (∀ a' w',rI W (fun k => if k = 31 then true else L k) a' w' → Q' .normal a' w') := hQ'
   clear hQ'
   have hu1 := hS 30 (hd ⟨30,.data⟩ (by simp) rfl)
   change us 33 = .func (.func 68) #[] #[] at hu1
   have H : Hid _ := And.intro hB (And.intro hS hX)
   clear hB hS hX hd ho hL
   have HV : Hid ((rtab W.heap.size 31).holds (W.heap.size + 1) w (.agg #[(.func (.func 68) #[] #[]),.int .i64 0,.int .i64 0,.bool false,.int .i64 0,.bool false,.nilFunc])) := ⟨_,rfl,_,_,rfl,(pxIdent_ask _ _),rfl⟩
   unfold rF
   simp only [hu1]
   go_wp2
   exact HQ.out _ _ (rfin H.out.1 H.out.2.1 H.out.2.2 31 (by decide) _ _ (by simp [rF,upv,hu1]) (Below.refl _ _) HV.out)
  ·intro OPS Q L us w hB hS hX ho hL hd
   refine wpOp_list ho ?_
   intro Q' hQ'
   have HQ : Hid (∀ a' w',rI W (fun k => if k = 32 then true else L k) a' w' → Q' .normal a' w') := hQ'
   clear hQ'
   have H : Hid _ := And.intro hB (And.intro hS hX)
   clear hB hS hX hd ho hL
   have hv : (rtab W.heap.size 32).holds (W.heap.size + 1) (w.alloc (.cells #[.int .i64 4] 3)) (.slice (some ⟨w.heap.size,0,none⟩) 1 1) := by
    refine ⟨w.heap.size,rfl,?_,by simp,ib_lit w _ _ rfl⟩
    have := one_lt H.out.2.2.1
    omega
   have HV : Hid _ := hv
   clear hv
   unfold rF
   go_wp2
   exact HQ.out _ _ (rfin H.out.1 H.out.2.1 H.out.2.2 32 (by decide) _ _ (by simp [rF,upv]) ((Below.refl _ _).alloc (Nat.le_refl _) _) HV.out)
  ·intro OPS Q L us w hB hS hX ho hL hd
   refine wpOp_list ho ?_
   intro Q' hQ'
   have HQ : Hid (∀ a' w',rI W (fun k => if k = 33 then true else L k) a' w' → Q' .normal a' w') := hQ'
   clear hQ'
   obtain ⟨b,hu,hb1,hb2,hb3⟩ := hS 32 (hd ⟨32,.data⟩ (by simp) rfl)
   change us 35 = .slice (some ⟨b,0,none⟩) 1 1 at hu
   have Q0 : Hid _ := ponly_any w b 1 [4] (by decide) hb3 hb2 (W.heap.size + 1) hb1
   have H : Hid _ := And.intro hB (And.intro hS hX)
   clear hb1 hb2 hb3 hB hS hX hd ho hL
   unfold rF
   simp only [hu]
   go_wp2_with fail
   refine Calls.mono Q0.out ?_
   rintro e w1 ⟨f,rfl,hask,hb⟩
   have HA : Hid _ := And.intro hask hb
   clear hask hb
   go_wp2
   exact HQ.out _ _ (rfin H.out.1 H.out.2.1 H.out.2.2 33 (by decide) _ _ (by simp [rF,upv,hu]) HA.out.2 HA.out.1)
  ·intro OPS Q L us w hB hS hX ho hL hd
   refine wpOp_list ho ?_
   intro Q' hQ'
   have HQ : Hid (∀ a' w',rI W (fun k => if k = 34 then true else L k) a' w' → Q' .normal a' w') := hQ'
   clear hQ'
   have H : Hid _ := And.intro hB (And.intro hS hX)
   clear hB hS hX hd ho hL
   unfold rF
   go_wp2
   exact HQ.out _ _ (rfin H.out.1 H.out.2.1 H.out.2.2 34 (by decide) _ _ (by simp [rF,upv]) (Below.refl _ _) rfl)
  ·intro OPS Q L us w hB hS hX ho hL hd
   refine wpOp_list ho ?_
   intro Q' hQ'
   have HQ : Hid (∀ a' w',rI W (fun k => if k = 35 then true else L k) a' w' → Q' .normal a' w') := hQ'
   clear hQ'
   have hu1 := hS 34 (hd ⟨34,.data⟩ (by simp) rfl)
   have hval : AskN (W.heap.size + 1) w (.func (.func 86) #[] #[.pointer (some ⟨W.heap.size + 1,0,none⟩)]) pxValue := pxValue_ask (Nat.le_refl _) hX.1
   change us 37 = .func (.func 86) #[] #[.pointer (some ⟨W.heap.size + 1,0,none⟩)] at hu1
   have hd2 := hS 33 (hd ⟨33,.data⟩ (by simp) rfl)
   have HK : Hid (AskL (W.heap.size + 1) w (us 36) (fun l => l.all fun t => [4].contains t.kind)) := hd2
   obtain ⟨k2,caps2,hu2,_⟩ := hd2
   have HK1 : Hid _ := hval
   clear hval
   have H : Hid _ := And.intro hB (And.intro hS hX)
   clear hB hS hX hd ho hL
   have HV : Hid ((rtab W.heap.size 35).holds (W.heap.size + 1) w (.agg #[(.func (.func 86) #[] #[.pointer (some ⟨W.heap.size + 1,0,none⟩)]),.int .i64 (-2147483648),.int .i64 2147483647,.bool false,.int .i64 0,.bool true,(.func (.func k2) #[] caps2)])) := ⟨_,rfl,_,_,rfl,HK1.out,(by have := HK.out; rw [hu2] at this; exact this)⟩
   unfold rF
   simp only [hu1,hu2]
   go_wp2
   exact HQ.out _ _ (rfin H.out.1 H.out.2.1 H.out.2.2 35 (by decide) _ _ (by simp [rF,upv,hu1,hu2]) (Below.refl _ _) HV.out)
  ·intro OPS Q L us w hB hS hX ho hL hd
   refine wpOp_list ho ?_
   intro Q' hQ'
   have HQ : Hid (∀ a' w',rI W (fun k => if k = 36 then true else L k) a' w' → Q' .normal a' w') := hQ'
   clear hQ'
   have hc := one_cell_of hX.1
   have H : Hid _ := And.intro hB (And.intro hS hX)
   clear hB hS hX hd ho hL
   unfold rF
   go_wp2
   exact HQ.out _ _ (rfin H.out.1 H.out.2.1 H.out.2.2 36 (by decide) _ _ (by simp [rF,upv]) (Below.refl _ _) rfl)
  ·intro OPS Q L us w hB hS hX ho hL hd
   refine wpOp_list ho ?_
   intro Q' hQ'
   have HQ : Hid (∀ a' w',rI W (fun k => if k = 37 then true else L k) a' w' → Q' .normal a' w') := hQ'
   clear hQ'
   have hlt := one_lt hX.1
   have q := ptyped_any w 2 (by omega) (by omega)
   change Calls Tryz.prog 81 #[.int .i64 2] w _ at q
   have Q0 : Hid _ := q
   have HW : Hid (W.heap.size + 1 ≤ w.heap.size) := by show _ ≤ _; omega
   have H : Hid _ := And.intro hB (And.intro hS hX)
   clear q hlt hB hS hX hd ho hL
   unfold rF
   go_wp2_with fail
   refine Calls.mono Q0.out ?_
   rintro e w1 ⟨f,rfl,hask,hb⟩
   have HA : Hid _ := And.intro (AskL.less hask HW.out) hb
   clear hask hb
   go_wp2
   exact HQ.out _ _ (rfin H.out.1 H.out.2.1 H.out.2.2 37 (by decide) _ _ (by simp [rF,upv]) HA.out.2 HA.out.1)
  ·intro OPS Q L us w hB hS hX ho hL hd
   refine wpOp_list ho ?_
   intro Q' hQ'
   have HQ : Hid (∀ a' w',rI W (fun k => if k = 38 then true else L k) a' w' → Q' .normal a' w') := hQ'
   clear hQ'
   have hu1 := hS 36 (hd ⟨36,.data⟩ (by simp) rfl)
   change us 39 = .func (.func 68) #[] #[] at hu1
   have hd2 := hS 37 (hd ⟨37,.data⟩ (by simp) rfl)
   have HK : Hid (AskL (W.heap.size + 1) w (us 40) (ptyp 2)) := hd2
   obtain ⟨k2,caps2,hu2,_⟩ := hd2
   have H : Hid _ := And.intro hB (And.intro hS hX)
   clear hB hS hX hd ho hL
   have HV : Hid ((rtab W.heap.size 38).holds (W.heap.size + 1) w (.agg #[(.func (.func 68) #[] #[]),.int .i64 0,.int .i64 0,.bool false,.int .i64 3,.bool true,(.func (.func k2) #[] caps2)])) := ⟨_,rfl,_,_,rfl,(pxIdent_ask _ _),(by have := HK.out; rw [hu2] at this; exact this)⟩
   unfold rF
   simp only [hu1,hu2]
   go_wp2
   exact HQ.out _ _ (rfin H.out.1 H.out.2.1 H.out.2.2 38 (by decide) _ _ (by simp [rF,upv,hu1,hu2]) (Below.refl _ _) HV.out)
  ·intro OPS Q L us w hB hS hX ho hL hd
   refine wpOp_list ho ?_
   intro Q' hQ'
   have HQ : Hid (∀ a' w',rI W (fun k => if k = 39 then true else L k) a' w' → Q' .normal a' w') := hQ'
   clear hQ'
   have H : Hid _ := And.intro hB (And.intro hS hX)
   clear hB hS hX hd ho hL
   have HV : Hid ((rtab W.heap.size 39).holds (W.heap.size + 1) w (.agg #[(.func (.func 87) #[] #[]),.int .i64 0,.int .i64 0,.bool false,.int .i64 0,.bool false,.nilFunc])) := ⟨_,rfl,_,_,rfl,(pxType_ask _ _),rfl⟩
   unfold rF
   go_wp2
   exact HQ.out _ _ (rfin H.out.1 H.out.2.1 H.out.2.2 39 (by decide) _ _ (by simp [rF,upv]) (Below.refl _ _) HV.out)
  ·intro OPS Q L us w hB hS hX ho hL hd
   refine wpOp_list ho ?_
   intro Q' hQ'
   have HQ : Hid (∀ a' w',rI W (fun k => if k = 40 then true else L k) a' w' → Q' .normal a' w') := hQ'
   clear hQ'
   have H : Hid _ := And.intro hB (And.intro hS hX)
   clear hB hS hX hd ho hL
   unfold rF
   go_wp2
   exact HQ.out _ _ (rfin H.out.1 H.out.2.1 H.out.2.2 40 (by decide) _ _ (by simp [rF,upv]) (Below.refl _ _) rfl)
  ·intro OPS Q L us w hB hS hX ho hL hd
   refine wpOp_list ho ?_
   intro Q' hQ'
   have HQ : Hid (∀ a' w',rI W (fun k => if k = 41 then true else L k) a' w' → Q' .normal a' w') := hQ'
   clear hQ'
   have hu1 := hS 40 (hd ⟨40,.data⟩ (by simp) rfl)
   change us 43 = .func (.func 70) #[] #[] at hu1
   have H : Hid _ := And.intro hB (And.intro hS hX)
   clear hB hS hX hd ho hL
   have HV : Hid ((rtab W.heap.size 41).holds (W.heap.size + 1) w (.agg #[(.func (.func 70) #[] #[]),.int .i64 0,.int .i64 0,.bool false,.int .i64 1,.bool false,.nilFunc])) := ⟨_,rfl,_,_,rfl,(pxPart_ask _ _),rfl⟩
   unfold rF
   simp only [hu1]
   go_wp2
   exact HQ.out _ _ (rfin H.out.1 H.out.2.1 H.out.2.2 41 (by decide) _ _ (by simp [rF,upv,hu1]) (Below.refl _ _) HV.out)
  ·intro OPS Q L us w hB hS hX ho hL hd
   refine wpOp_list ho ?_
   intro Q' hQ'
   have HQ : Hid (∀ a' w',rI W (fun k => if k = 42 then true else L k) a' w' → Q' .normal a' w') := hQ'
   clear hQ'
   have H : Hid _ := And.intro hB (And.intro hS hX)
   clear hB hS hX hd ho hL
   have HV : Hid ((rtab W.heap.size 42).holds (W.heap.size + 1) w (.agg #[(.func (.func 89) #[] #[]),.int .i64 0,.int .i64 0,.bool false,.int .i64 0,.bool false,.nilFunc])) := ⟨_,rfl,_,_,rfl,(pxInt_ask _ _),rfl⟩
   unfold rF
   go_wp2
   exact HQ.out _ _ (rfin H.out.1 H.out.2.1 H.out.2.2 42 (by decide) _ _ (by simp [rF,upv]) (Below.refl _ _) HV.out)
  ·intro OPS Q L us w hB hS hX ho hL hd
   refine wpOp_list ho ?_
   intro Q' hQ'
   have HQ : Hid (∀ a' w',rI W (fun k => if k = 43 then true else L k) a' w' → Q' .normal a' w') := hQ'
   clear hQ'
   have hc := one_cell_of hX.1
   have H : Hid _ := And.intro hB (And.intro hS hX)
   clear hB hS hX hd ho hL
   unfold rF
   go_wp2
   exact HQ.out _ _ (rfin H.out.1 H.out.2.1 H.out.2.2 43 (by decide) _ _ (by simp [rF,upv]) (Below.refl _ _) rfl)
  ·intro OPS Q L us w hB hS hX ho hL hd
   refine wpOp_list ho ?_
   intro Q' hQ'
   have HQ : Hid (∀ a' w',rI W (fun k => if k = 44 then true else L k) a' w' → Q' .normal a' w') := hQ'
   clear hQ'
   have hu1 := hS 43 (hd ⟨43,.data⟩ (by simp) rfl)
   change us 46 = .func (.func 68) #[] #[] at hu1
   have H : Hid _ := And.intro hB (And.intro hS hX)
   clear hB hS hX hd ho hL
   have HV : Hid ((rtab W.heap.size 44).holds (W.heap.size + 1) w (.agg #[(.func (.func 68) #[] #[]),.int .i64 0,.int .i64 0,.bool false,.int .i64 0,.bool false,.nilFunc])) := ⟨_,rfl,_,_,rfl,(pxIdent_ask _ _),rfl⟩
   unfold rF
   simp only [hu1]
   go_wp2
   exact HQ.out _ _ (rfin H.out.1 H.out.2.1 H.out.2.2 44 (by decide) _ _ (by simp [rF,upv,hu1]) (Below.refl _ _) HV.out)
  ·intro OPS Q L us w hB hS hX ho hL hd
   refine wpOp_list ho ?_
   intro Q' hQ'
   have HQ : Hid (∀ a' w',rI W (fun k => if k = 45 then true else L k) a' w' → Q' .normal a' w') := hQ'
   clear hQ'
   have H : Hid _ := And.intro hB (And.intro hS hX)
   clear hB hS hX hd ho hL
   have HV : Hid ((rtab W.heap.size 45).holds (W.heap.size + 1) w (.agg #[(.func (.func 90) #[] #[]),.int .i64 0,.int .i64 0,.bool false,.int .i64 0,.bool false,.nilFunc])) := ⟨_,rfl,_,_,rfl,(pxStr_ask _ _),rfl⟩
   unfold rF
   go_wp2
   exact HQ.out _ _ (rfin H.out.1 H.out.2.1 H.out.2.2 45 (by decide) _ _ (by simp [rF,upv]) (Below.refl _ _) HV.out)
  ·intro OPS Q L us w hB hS hX ho hL hd
   refine wpOp_list ho ?_
   intro Q' hQ'
   have HQ : Hid (∀ a' w',rI W (fun k => if k = 46 then true else L k) a' w' → Q' .normal a' w') := hQ'
   clear hQ'
   have H : Hid _ := And.intro hB (And.intro hS hX)
   clear hB hS hX hd ho hL
   have hv : (rtab W.heap.size 46).holds (W.heap.size + 1) (w.alloc (.cells #[.int .i64 24] 3)) (.slice (some ⟨w.heap.size,0,none⟩) 1 1) := by
    refine ⟨w.heap.size,rfl,?_,by simp,ib_lit w _ _ rfl⟩
    have := one_lt H.out.2.2.1
    omega
   have HV : Hid _ := hv
   clear hv
   unfold rF
   go_wp2
   exact HQ.out _ _ (rfin H.out.1 H.out.2.1 H.out.2.2 46 (by decide) _ _ (by simp [rF,upv]) ((Below.refl _ _).alloc (Nat.le_refl _) _) HV.out)
  ·intro OPS Q L us w hB hS hX ho hL hd
   refine wpOp_list ho ?_
   intro Q' hQ'
   have HQ : Hid (∀ a' w',rI W (fun k => if k = 47 then true else L k) a' w' → Q' .normal a' w') := hQ'
   clear hQ'
   obtain ⟨b,hu,hb1,hb2,hb3⟩ := hS 46 (hd ⟨46,.data⟩ (by simp) rfl)
   change us 49 = .slice (some ⟨b,0,none⟩) 1 1 at hu
   have Q0 : Hid _ := ponly_any w b 1 [24] (by decide) hb3 hb2 (W.heap.size + 1) hb1
   have H : Hid _ := And.intro hB (And.intro hS hX)
   clear hb1 hb2 hb3 hB hS hX hd ho hL
   unfold rF
   simp only [hu]
   go_wp2_with fail
   refine Calls.mono Q0.out ?_
   rintro e w1 ⟨f,rfl,hask,hb⟩
   have HA : Hid _ := And.intro hask hb
   clear hask hb
   go_wp2
   exact HQ.out _ _ (rfin H.out.1 H.out.2.1 H.out.2.2 47 (by decide) _ _ (by simp [rF,upv,hu]) HA.out.2 HA.out.1)
  ·intro OPS Q L us w hB hS hX ho hL hd
   refine wpOp_list ho ?_
   intro Q' hQ'
   have HQ : Hid (∀ a' w',rI W (fun k => if k = 48 then true else L k) a' w' → Q' .normal a' w') := hQ'
   clear hQ'
   have hd2 := hS 47 (hd ⟨47,.data⟩ (by simp) rfl)
   have HK : Hid (AskL (W.heap.size + 1) w (us 50) (fun l => l.all fun t => [24].contains t.kind)) := hd2
   obtain ⟨k2,caps2,hu2,_⟩ := hd2
   have H : Hid _ := And.intro hB (And.intro hS hX)
   clear hB hS hX hd ho hL
   have HV : Hid ((rtab W.heap.size 48).holds (W.heap.size + 1) w (.agg #[.nilFunc,.int .i64 0,.int .i64 0,.bool false,.int .i64 0,.bool false,(.func (.func k2) #[] caps2)])) := ⟨_,rfl,_,_,rfl,rfl,(by have := HK.out; rw [hu2] at this; exact this)⟩
   unfold rF
   simp only [hu2]
   go_wp2
   exact HQ.out _ _ (rfin H.out.1 H.out.2.1 H.out.2.2 48 (by decide) _ _ (by simp [rF,upv,hu2]) (Below.refl _ _) HV.out)
  ·intro OPS Q L us w hB hS hX ho hL hd
   refine wpOp_list ho ?_
   intro Q' hQ'
   have HQ : Hid (∀ a' w',rI W (fun k => if k = 49 then true else L k) a' w' → Q' .normal a' w') := hQ'
   clear hQ'
   have H : Hid _ := And.intro hB (And.intro hS hX)
   clear hB hS hX hd ho hL
   unfold rF
   go_wp2
   exact HQ.out _ _ (rfin H.out.1 H.out.2.1 H.out.2.2 49 (by decide) _ _ (by simp [rF,upv]) (Below.refl _ _) rfl)
  ·intro OPS Q L us w hB hS hX ho hL hd
   refine wpOp_list ho ?_
   intro Q' hQ'
   have HQ : Hid (∀ a' w',rI W (fun k => if k = 50 then true else L k) a' w' → Q' .normal a' w') := hQ'
   clear hQ'
   have hu1 := hS 49 (hd ⟨49,.data⟩ (by simp) rfl)
   change us 52 = .func (.func 70) #[] #[] at hu1
   have H : Hid _ := And.intro hB (And.intro hS hX)
   clear hB hS hX hd ho hL
   have HV : Hid ((rtab W.heap.size 50).holds (W.heap.size + 1) w (.agg #[(.func (.func 70) #[] #[]),.int .i64 0,.int .i64 0,.bool false,.int .i64 1,.bool false,(.func (.func 91) #[] #[])])) := ⟨_,rfl,_,_,rfl,(pxPart_ask _ _),(pkEntry_ask _ _)⟩
   unfold rF
   simp only [hu1]
   go_wp2
   exact HQ.out _ _ (rfin H.out.1 H.out.2.1 H.out.2.2 50 (by decide) _ _ (by simp [rF,upv,hu1]) (Below.refl _ _) HV.out)
  ·exact rtable W _ rfl rfl rfl (fun k hk => by simp at hk ⊢; exact hk)
  ·exact rstore W _ rfl rfl rfl (by simp)
 ·intro L a w hI hL
  obtain ⟨hB,us,rfl,hS,hX⟩ := hI
  obtain ⟨cs,h1,h2⟩ := hX.2.2 (hL 52 (by decide))
  have HH : Hid _ := And.intro hB (And.intro h1 h2)
  clear hB hS hX h1 h2 hL
  unfold rF
  go_wp2
  have hl : cs.length = 168 := by rw [HH.out.2.2.one.2]; rfl
  exact rret rfl W.heap.size _ (by simp [zrl,hl]) rfl HH.out.2.1 rfl ⟨cs,rfl,HH.out.2.2,HH.out.1⟩

end Go.Proofs.YtlekfcehmlepkaaGreatDoor
