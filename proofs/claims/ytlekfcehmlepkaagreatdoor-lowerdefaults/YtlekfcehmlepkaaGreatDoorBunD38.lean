/- Put together by a program out of these texts of mine: XCat, XApt, XAsk, XHeld. -/
import Derived.Lib.AppendZerosOnto
import Derived.OrdersHeld
import Derived.Test.YtlekfcehmlepkaaGreatDoorBunD1
import Derived.Test.YtlekfcehmlepkaaGreatDoorBunD37

namespace Go.Proofs.YtlekfcehmlepkaaGreatDoor
open Go.RowKit
set_option linter.unusedVariables false
set_option linter.unusedSimpArgs false

theorem wpList_append_eq2 {w : World} {ops : Array Oper} {rest : List Oper} {o : Oper} {f : Act} {Q : Exit → Act → World → Prop} (hgd : o.guard = none) (s x : Operand) (T T2 : TypeId)
  (ho : o.op = .call { callee := .builtin .append,args := #[s,x],argTypes := #[T,T2] }) {vs vx v' : Value} {w' : World} (hs : f.eval s = vs) (hx : f.eval x = vx) (hrun : (Builtin.append_ #[T,T2] o.type #[vs,vx]).run Tryz.prog w = .ok v' w') (h : wpList Tryz.prog ops Q rest (f.put o.dst v') w') :
  wpList Tryz.prog ops Q (o :: rest) f w := by
 refine wpList_plain hgd fun K hK => ?_
 unfold Oper.wp
 simp [execOp,ho,resolve,invoke,builtin,hs,hx,hrun,Result.andThen]
 exact hK _ _ h

theorem Tryz.infoInt2 : (Tryz.prog.info? 3).map (fun i => (i.zero,i.size,i.bytes)) = some (some (.int .i64 0),1,8) := by kernel_rfl

set_option maxRecDepth 10000 in
set_option maxHeartbeats 2000000 in
theorem pgrow_nil (n : Nat) (h0 : 0 < n) (h1 : n ≤ 100000) (W : World) :
  Calls Tryz.prog 186 #[.slice none 0 0,.int .i64 (n : Int)] W fun e W' => ∃ G : Nat,e = .returned (.slice (some ⟨W.heap.size,0,none⟩) 0 G) ∧ Hd W' (ipd []) [.slice (some ⟨W.heap.size,0,none⟩) 0 G] [W.heap.size] ∧ Below W.heap.size W W' := by
 obtain ⟨i0,hi,hz0,hz1,hz2⟩ := info_parts Tryz.infoInt2
 have hrun : ∀ ty,(Builtin.append_ #[36,3] ty #[.slice none 0 0,.int .i64 (n : Int)]).run Tryz.prog W = .ok (.slice (some ⟨W.heap.size,0,none⟩) n (grownCap W n 0 3)) (W.drew.alloc (.cells (#[] ++ Builtin.zeroCells (Value.int .i64 0).cells n ++ Builtin.zeroCells (Value.int .i64 0).cells (grownCap W n 0 3 - n)) 3)) := fun ty => by
  have := Lib.run_append_grow_zeros W 36 3 ty 3 i0 (.int .i64 0) .i64 .i64 Tryz.underlying36 Tryz.underlying3 hi hz0 none 0 0 [] (run_firstCells_none W.drew i0.size 0 0 0) n h0 (by rw [hz1]; decide) (by omega) (by omega) (by rw [hz2]; omega) (by rw [hz2]; exact growslice_fits (by omega) (by omega))
  simpa using this
 have hGn : n ≤ grownCap W n 0 3 := grownCap_ge W _ _ _
 have hGm : grownCap W n 0 3 ≤ maxLen := grownCap_le_maxLen W n 0 3 (by unfold maxLen; omega)
 obtain ⟨G,hG⟩ : ∃ G,G = grownCap W n 0 3 := ⟨_,rfl⟩
 rw [← hG] at hrun hGn hGm
 obtain ⟨CS,hCS⟩ : ∃ CS,CS = (#[] ++ Builtin.zeroCells (Value.int .i64 0).cells n ++ Builtin.zeroCells (Value.int .i64 0).cells (G - n) : Array Value) := ⟨_,rfl⟩
 have hcs : CS.size = G * 1 := by
  rw [hCS]
  simp [Builtin.zeroCells,Value.cells]
  omega
 rw [← hCS] at hrun
 have hown : (W.drew.alloc (.cells CS 3)).ownsRow 0 3 1 (.slice (some ⟨W.heap.size,0,none⟩) 0 G) 0 [] := World.ownsRow_made W.drew CS G (Nat.zero_le _) hGm hcs
 have HD : Hid (Hd (W.drew.alloc (.cells CS 3)) (ipd []) [.slice (some ⟨W.heap.size,0,none⟩) 0 G] [W.heap.size]) := by
  have := Hd.ls (t := 3) (sz := 1) (ps := []) hown .nil (by simp) (by simp)
  show Hd _ _ _ _
  simpa [ipd,Value.ownBlock] using this
 have HBL : Hid (Below W.heap.size W (W.drew.alloc (.cells CS 3))) := ((Below.refl _ W).drew).alloc (Nat.le_refl _) _
 have HRUN : Hid _ := hrun
 have hG63 : G ≤ 9223372036854775807 := by unfold maxLen at hGm; omega
 have hG63' : (G : Int) ≤ 9223372036854775807 := by omega
 have hn1 : (n : Int) > 0 := by omega
 have hn2 : ¬ ((n : Int) < 0) := by omega
 clear hrun hown hcs hCS hG hi hz0 hz1 hz2 h0
 go_enter Tryz.func186,Tryz.ntmps186
 go_wp2_with (at_builtin; refine wpList_append_eq2 rfl _ _ 36 3 rfl rfl rfl (HRUN.out _) ?_)
 go_ret
 exact ⟨G,rfl,HD.out,HBL.out⟩

set_option maxRecDepth 10000 in
set_option maxHeartbeats 4000000 in
theorem pconcat_any {W : World} {p q : List Int} {vp vq : Value} {bp bq : List Nat} (hp : Hid (Hd W (ipd p) [vp] bp)) (hq : Hid (Hd W (ipd q) [vq] bq)) (hn0 : 0 < p.length + q.length) (hn : p.length + q.length ≤ 10000) {b : Nat} (hb : Hid (Ob W b #[vp,vq] 36)) :
  Calls Tryz.prog 169 #[.slice (some ⟨b,0,none⟩) 2 2] W fun e W' => ∃ v bs,e = .returned v ∧ Hd W' (ipd (p ++ q)) [v] bs ∧ (∀ k ∈ bs,W.heap.size ≤ k) ∧ Below W.heap.size W W' := by
 obtain ⟨pa,pc,rfl⟩ := ipd_slice hp.out
 obtain ⟨qa,qc,rfl⟩ := ipd_slice hq.out
 have hbl := hb.out.lt
 have c0 := hb.out.cell 0 rfl
 have c1 := hb.out.cell 1 rfl
 have hpn : (p.length : Int) ≤ 10000 := by omega
 have hqn : ((p.length : Int) + (q.length : Int)) ≤ 10000 := by omega
 go_enter Tryz.func169,Tryz.ntmps169
 go_wp2
 go_loopw [3,11] (fun u v wr => ∃ (k : Nat) (n : Int),u = .int .i64 n ∧ v = .int .i64 (k : Int) ∧ k ≤ 2 ∧ 0 ≤ n ∧ (k = 0 → n = 0) ∧ (k = 1 → n = (p.length : Int)) ∧ (k = 2 → n = (p.length : Int) + (q.length : Int)) ∧ W = wr) (fun _ v _ => 2 - (intOf v).toNat)
 case atStart => exact ⟨0,0,rfl,rfl,by omega,by omega,fun _ => rfl,fun h => by omega,fun h => by omega,rfl⟩
 case round =>
  obtain ⟨k,n,rfl,rfl,hk,hn3,e0,e1,e2,rfl⟩ := hrel
  rcases (show k = 0 ∨ k = 1 ∨ k = 2 by omega) with rfl | rfl | rfl
  ·obtain rfl := e0 rfl
   clear e0 e1 e2
   have hw : IntKind.i64.wrap ((0 : Int) + (p.length : Int)) = (0 : Int) + (p.length : Int) := wrap_small _ (by omega) (by omega)
   have hnn : ¬ ((0 : Int) + (p.length : Int) < 0) := by omega
   go_wp2
   go_roundw
   case rel => first | exact ⟨1,(0 : Int) + (p.length : Int),by go_num,by go_num,by omega,by omega,fun h => by omega,fun h => by first | omega | rfl,fun h => by first | omega | rfl,by first | rfl | trivial⟩ | ((repeat apply Exists.intro); exact ⟨⟨1,(0 : Int) + (p.length : Int),by go_num,by go_num,by omega,by omega,fun h => by omega,fun h => by first | omega | rfl,fun h => by first | omega | rfl,by first | rfl | trivial⟩,rfl⟩)
   case measure => simp [intOf]
  ·obtain rfl := e1 rfl
   clear e0 e1 e2
   have hw : IntKind.i64.wrap ((p.length : Int) + (q.length : Int)) = (p.length : Int) + (q.length : Int) := wrap_small _ (by omega) (by omega)
   have hnn : ¬ ((p.length : Int) + (q.length : Int) < 0) := by omega
   go_wp2
   go_roundw
   case rel => first | exact ⟨2,(p.length : Int) + (q.length : Int),by go_num,by go_num,by omega,by omega,fun h => by omega,fun h => by first | omega | rfl,fun h => by first | omega | rfl,by first | rfl | trivial⟩ | ((repeat apply Exists.intro); exact ⟨⟨2,(p.length : Int) + (q.length : Int),by go_num,by go_num,by omega,by omega,fun h => by omega,fun h => by first | omega | rfl,fun h => by first | omega | rfl,by first | rfl | trivial⟩,rfl⟩)
   case measure => simp [intOf]
  ·obtain rfl := e2 rfl
   clear e0 e1 e2 c0 c1
   have QG : Hid _ := pgrow_nil (p.length + q.length) hn0 (by omega) W
   rw [Int.natCast_add] at QG
   go_wp2_with fail
   refine Calls.mono QG.out ?_
   rintro e w1 ⟨G,rfl,hH1,hb1⟩
   have HH1 : Hid _ := hH1
   have HB1 : Hid _ := hb1
   clear hH1 hb1 QG
   go_wp2
   go_loopw [6,27] (fun u v wr => ∃ (k : Nat) (z : List Int) (bs : List Nat),v = .int .i64 (k : Int) ∧ k ≤ 2 ∧ (k = 0 → z = []) ∧ (k = 1 → z = p) ∧ (k = 2 → z = p ++ q) ∧ Hid (Hd wr (ipd z) [u] bs) ∧ Hid (∀ k ∈ bs,W.heap.size ≤ k) ∧ Hid (Below W.heap.size W wr)) (fun _ v _ => 2 - (intOf v).toNat)
   case atStart => exact ⟨0,[],_,rfl,by omega,fun _ => rfl,fun h => by omega,fun h => by omega,HH1,(by intro k hk; simp at hk; omega),HB1⟩
   case round =>
    obtain ⟨k,z,bs,rfl,hk,e0,e1,e2,HD,HN,HB⟩ := hrel
    rcases (show k = 0 ∨ k = 1 ∨ k = 2 by omega) with rfl | rfl | rfl
    ·have hz := e0 rfl
     rw [hz] at HD
     clear hz e0 e1 e2
     have c0 := (hb.out.below HB.out hb.out.lt).cell 0 rfl
     have hbl2 : b < wr.heap.size := Nat.lt_of_lt_of_le hbl HB.out.size
     have hs : Hd wr (ipd p) [.slice pa p.length pc] bp := hp.out.kept (row := none) ⟨HB.out.os,HB.out.tape,HB.out.output,HB.out.size,fun k hk _ => HB.out.block k hk⟩ (by simp)
     obtain ⟨v2,w2,b2,hr2,hH2,hg2,hb2,hb2'⟩ := hd_append2 (T := 36) Tryz.underlying36 Tryz.infoInt2 rfl (by decide) HD.out hs (fun k hk h => by
      have h1 := HN.out k h
      have h2 := hp.out.lt k hk
      omega) 36 (by simp; omega) (by simp; unfold maxLen; omega)
     have HH2 : Hid (Hd w2 (ipd (p)) [v2] b2) := by
      show Hd _ _ _ _
      unfold ipd
      skip
      simpa using hH2
     have HN2 : Hid (∀ k ∈ b2,W.heap.size ≤ k) := fun k hk => by
      rcases hb2 k hk with h | ⟨h,h2⟩ | h
      ·exact HN.out k h
      ·rw [ipd_blocks hp.out] at h
       simp at h
       exact absurd h h2
      ·rw [h]; exact HB.out.size
     have HB2 : Hid (Below W.heap.size W w2) := HB.out.grown hg2 HB.out.size (fun k hk => HN.out k (hb2' k hk))
     obtain ⟨va,vc,rfl⟩ := ipd_slice HD.out
     obtain ⟨ua,uc,hu⟩ := ipd_slice HH2.out
     try rw [List.length_append] at hu
     subst hu
     have R2 : Hid _ := hr2
     clear hs hr2 hH2 hg2 hb2 hb2' HD HN
     go_wp2_with (at_builtin; refine wpList_append_eq rfl _ _ 36 rfl rfl rfl R2.out ?_)
     go_roundw
     case rel => first | exact ⟨1,p,b2,by go_num,by omega,fun h => by omega,fun h => by first | omega | rfl,fun h => by first | omega | rfl,HH2,HN2,HB2⟩ | ((repeat apply Exists.intro); exact ⟨⟨1,p,b2,by go_num,by omega,fun h => by omega,fun h => by first | omega | rfl,fun h => by first | omega | rfl,HH2,HN2,HB2⟩,rfl⟩)
     case measure => simp [intOf]
    ·have hz := e1 rfl
     rw [hz] at HD
     clear hz e0 e1 e2
     have c1 := (hb.out.below HB.out hb.out.lt).cell 1 rfl
     have hbl2 : b < wr.heap.size := Nat.lt_of_lt_of_le hbl HB.out.size
     have hs : Hd wr (ipd q) [.slice qa q.length qc] bq := hq.out.kept (row := none) ⟨HB.out.os,HB.out.tape,HB.out.output,HB.out.size,fun k hk _ => HB.out.block k hk⟩ (by simp)
     obtain ⟨v2,w2,b2,hr2,hH2,hg2,hb2,hb2'⟩ := hd_append2 (T := 36) Tryz.underlying36 Tryz.infoInt2 rfl (by decide) HD.out hs (fun k hk h => by
      have h1 := HN.out k h
      have h2 := hq.out.lt k hk
      omega) 36 (by simp; omega) (by simp; unfold maxLen; omega)
     have HH2 : Hid (Hd w2 (ipd (p ++ q)) [v2] b2) := by
      show Hd _ _ _ _
      unfold ipd
      rw [List.map_append]
      simpa using hH2
     have HN2 : Hid (∀ k ∈ b2,W.heap.size ≤ k) := fun k hk => by
      rcases hb2 k hk with h | ⟨h,h2⟩ | h
      ·exact HN.out k h
      ·rw [ipd_blocks hq.out] at h
       simp at h
       exact absurd h h2
      ·rw [h]; exact HB.out.size
     have HB2 : Hid (Below W.heap.size W w2) := HB.out.grown hg2 HB.out.size (fun k hk => HN.out k (hb2' k hk))
     obtain ⟨va,vc,rfl⟩ := ipd_slice HD.out
     obtain ⟨ua,uc,hu⟩ := ipd_slice HH2.out
     try rw [List.length_append] at hu
     subst hu
     have R2 : Hid _ := hr2
     clear hs hr2 hH2 hg2 hb2 hb2' HD HN
     go_wp2_with (at_builtin; refine wpList_append_eq rfl _ _ 36 rfl rfl rfl R2.out ?_)
     go_roundw
     case rel => first | exact ⟨2,p ++ q,b2,by go_num,by omega,fun h => by omega,fun h => by first | omega | rfl,fun h => by first | omega | rfl,HH2,HN2,HB2⟩ | ((repeat apply Exists.intro); exact ⟨⟨2,p ++ q,b2,by go_num,by omega,fun h => by omega,fun h => by first | omega | rfl,fun h => by first | omega | rfl,HH2,HN2,HB2⟩,rfl⟩)
     case measure => simp [intOf]
    ·have hz := e2 rfl
     rw [hz] at HD
     clear hz e0 e1 e2
     obtain ⟨va,vc,rfl⟩ := ipd_slice HD.out
     go_wp2
     go_ret
     exact ⟨_,bs,rfl,HD.out,HN.out,HB.out⟩

set_option maxRecDepth 10000 in
set_option maxHeartbeats 4000000 in
theorem pplace_any {W : World} {p q : List Int} {vp vq : Value} {bp bq : List Nat} (hp : Hid (Hd W (ipd p) [vp] bp)) (hq : Hid (Hd W (ipd q) [vq] bq)) (hn0 : 0 < p.length + q.length) (hn : p.length + q.length ≤ 10000) :
  Calls Tryz.prog 131 #[vp,vq] W fun e W' => ∃ v bs,e = .returned v ∧ Hd W' (ipd (p ++ q)) [v] bs ∧ (∀ k ∈ bs,W.heap.size ≤ k) ∧ Below W.heap.size W W' := by
 have hbA : Below W.heap.size W (W.alloc (.cells #[vp,vq] 36)) := (Below.refl _ _).alloc (Nat.le_refl _) _
 have hp2 : Hid (Hd (W.alloc (.cells #[vp,vq] 36)) (ipd p) [vp] bp) := hp.out.kept (row := none) ⟨hbA.os,hbA.tape,hbA.output,hbA.size,fun k hk _ => hbA.block k hk⟩ (by simp)
 have hq2 : Hid (Hd (W.alloc (.cells #[vp,vq] 36)) (ipd q) [vq] bq) := hq.out.kept (row := none) ⟨hbA.os,hbA.tape,hbA.output,hbA.size,fun k hk _ => hbA.block k hk⟩ (by simp)
 have Q : Hid _ := pconcat_any hp2 hq2 hn0 hn (show Hid _ from Ob.new W #[vp,vq] 36)
 have HBA : Hid _ := hbA
 obtain ⟨pa,pc,rfl⟩ := ipd_slice hp.out
 obtain ⟨qa,qc,rfl⟩ := ipd_slice hq.out
 clear hbA hp2 hq2 hn0 hn hp hq
 go_enter Tryz.func131,Tryz.ntmps131
 go_wp2_with fail
 refine Calls.mono Q.out ?_
 rintro e w1 ⟨v,bs,rfl,hH,hN,hb1⟩
 obtain ⟨va,vc,hv⟩ := ipd_slice hH
 rw [List.length_append] at hv
 subst hv
 have HH : Hid _ := hH
 have HB : Hid (Below W.heap.size W w1) := HBA.out.trans (hb1.mono HBA.out.size)
 have HN : Hid (∀ k ∈ bs,W.heap.size ≤ k) := fun k hk => Nat.le_trans (by simp) (hN k hk)
 clear hH hN hb1 Q
 go_wp2
 go_ret
 exact ⟨_,bs,rfl,HH.out,HN.out,HB.out⟩

def mA (X : ByteArray) (fs : Value) : Array Value := #[.string X,fs,.slice none 0 0,.slice none 0 0,.slice none 0 0,.slice none 0 0,.slice none 0 0,.slice none 0 0,.slice none 0 0,.slice none 0 0,.slice none 0 0]

theorem Tryz.sizeMsg : (Tryz.prog.info? 51).map (·.size) = some 11 := by kernel_rfl

set_option maxRecDepth 20000 in
set_option maxHeartbeats 4000000 in
theorem papart_a {W : World} {mb fb fc : Nat} {M X : ByteArray} (hm : Ob W mb (mA M (.slice (some ⟨fb,0,none⟩) 1 fc)) 51) (hf : ∀ (j : Nat) (v : Value),(fA 5 X)[j]? = some v → W.cell? ⟨fb,j,none⟩ = some v) (hfl : fb < W.heap.size) :
  Calls Tryz.prog 137 #[.pointer (some ⟨mb,0,none⟩)] W fun e W' => e = .returned (.tuple #[]) ∧ Below W.heap.size W W' := by
 have HM : Hid _ := hm
 have HF : Hid _ := hf
 have m1 : W.cell? ⟨mb,1,none⟩ = some (.slice (some ⟨fb,0,none⟩) 1 fc) := hm.cell 1 rfl
 have ml := hm.lt
 simp only [fA] at HF
 generalize strOfNums [98] = Y at HF
 clear hm hf
 go_enter Tryz.func137,Tryz.ntmps137
 go_wp2
 go_loopw [2,15] (fun u v wr => (v = .int .i64 0 ∧ u = .slice none 0 0 ∧ W = wr) ∨ (v = .int .i64 1 ∧ Hid (Below W.heap.size W wr))) (fun _ v _ => 1 - (intOf v).toNat)
 case atStart => exact .inl ⟨rfl,rfl,rfl⟩
 case round =>
  rcases hrel with ⟨rfl,rfl,rfl⟩ | ⟨rfl,HB⟩
  ·clear m1 ml
   have z0 := HF.out 0 _ rfl
   have z1 := HF.out 1 _ rfl
   have z2 := HF.out 2 _ rfl
   have z3 := HF.out 3 _ rfl
   have z4 := HF.out 4 _ rfl
   have z5 := HF.out 5 _ rfl
   have z6 := HF.out 6 _ rfl
   have z7 := HF.out 7 _ rfl
   have z8 := HF.out 8 _ rfl
   have z9 := HF.out 9 _ rfl
   have z10 := HF.out 10 _ rfl
   have z11 := HF.out 11 _ rfl
   have z12 := HF.out 12 _ rfl
   obtain ⟨w2,hw2⟩ : ∃ w2,w2 = (W.alloc (.cells #[.string Y,.int .i64 1,.int .i64 1,.int .i64 5,.string ⟨#[]⟩,.string ⟨#[]⟩,.string ⟨#[]⟩,.bool false,.int .i64 0,.string X,.bool false,.slice none 0 0,.slice none 0 0] 53)).alloc (.cells #[.string Y] 9) := ⟨_,rfl⟩
   have hb2 : Below W.heap.size W w2 := by rw [hw2]; exact ((Below.refl _ W).alloc (Nat.le_refl _) _).alloc (by simp) _
   have o1 : Ob w2 (W.heap.size + 1) #[.string Y] 9 := by
    rw [hw2]
    have := Ob.new (W.alloc (.cells #[.string Y,.int .i64 1,.int .i64 1,.int .i64 5,.string ⟨#[]⟩,.string ⟨#[]⟩,.string ⟨#[]⟩,.bool false,.int .i64 0,.string X,.bool false,.slice none 0 0,.slice none 0 0] 53)) #[.string Y] 9
    simpa using this
   obtain ⟨v',w',bs',hrun,hH,hg,_,_⟩ := hd_append (T := 35) Tryz.underlying35 (show (Tryz.prog.info? 9).map (fun i => (i.zero,i.size,i.bytes)) = some (some (.string ⟨#[]⟩),1,16) by kernel_rfl) rfl (by decide) (Hd.nil w2 9 1) (qs := [.one (.string Y)]) (cq := [.string Y]) (bq := []) (by have := Hds.cons (Hd.one (w := w2) (v := .string Y) rfl) .nil (by simp); simpa using this) (fun p hp => by simp at hp; subst hp; rfl) (by simp) 35 ⟨W.heap.size + 1,0,none⟩ 1 (fun j u hj => by
    cases j with
    | zero => simp at hj; subst hj; exact o1.cell 0 rfl
    | succ j => simp at hj) (by simp) (by simp; unfold maxLen; omega)
   have HB' : Hid (Below W.heap.size W w') := hb2.trans ⟨hg.os,hg.tape,hg.output,hg.size,fun k hk => hg.block k (Nat.lt_of_lt_of_le hk hb2.size) (by simp [Value.ownBlock])⟩
   obtain ⟨va,vc,hv⟩ := hH.slice
   simp at hv
   subst hv
   simp only [List.length_singleton] at hrun
   rw [hw2] at hrun
   have HRUN : Hid _ := hrun
   clear hrun hH hg o1 hb2 hw2
   go_wp2_with (at_builtin; refine wpList_append_eq rfl _ _ 35 rfl rfl rfl HRUN.out ?_)
   go_roundw
   case rel => first | exact .inr ⟨rfl,HB'⟩ | ((repeat apply Exists.intro); exact ⟨.inr ⟨rfl,HB'⟩,rfl⟩)
   case measure => simp [intOf]
  ·have hm2 := HM.out.below HB.out ml
   have n1 : wr.cell? ⟨mb,1,none⟩ = some (.slice (some ⟨fb,0,none⟩) 1 fc) := hm2.cell 1 rfl
   have n6 : wr.cell? ⟨mb,6,none⟩ = some (.slice none 0 0) := hm2.cell 6 rfl
   have ml2 : mb < wr.heap.size := hm2.lt
   have z10 : wr.cell? ⟨fb,10,none⟩ = some (.bool false) := (HB.out.cell hfl).trans (HF.out 10 _ rfl)
   have hfl2 : fb < wr.heap.size := Nat.lt_of_lt_of_le hfl HB.out.size
   clear hm2 m1 ml HF HM hfl
   go_wp2
   go_loopw [30] (fun v wx => v = .int .i64 0 ∧ wr = wx) (fun _ _ => 0)
   case atStart => exact ⟨rfl,rfl⟩
   case round =>
    obtain ⟨rfl,rfl⟩ := hrel
    go_wp2
    go_loopw [45] (fun v wx => (v = .int .i64 0 ∨ v = .int .i64 1) ∧ wr = wx) (fun v _ => 1 - (intOf v).toNat)
    case atStart => exact ⟨.inl rfl,rfl⟩
    case round =>
     obtain ⟨rfl | rfl,rfl⟩ := hrel
     ·go_wp2
      go_roundw
      case rel => first | exact ⟨.inr rfl,by first | rfl | trivial⟩ | ((repeat apply Exists.intro); exact ⟨⟨.inr rfl,by first | rfl | trivial⟩,rfl⟩)
      case measure => simp [intOf]
     ·go_wp2
      go_end0
      exact ⟨rfl,HB.out⟩

theorem ob11 {w : World} {b : Nat} {T : TypeId} {x0 x1 x2 x3 x4 x5 x6 x7 x8 x9 x10 : Value} (h : Ob w b #[x0,x1,x2,x3,x4,x5,x6,x7,x8,x9,x10] T) :
  (w.cell? ⟨b,0,none⟩ = some x0 ∧ w.cell? ⟨b,1,none⟩ = some x1 ∧ w.cell? ⟨b,2,none⟩ = some x2 ∧ w.cell? ⟨b,3,none⟩ = some x3 ∧ w.cell? ⟨b,4,none⟩ = some x4 ∧ w.cell? ⟨b,5,none⟩ = some x5 ∧ w.cell? ⟨b,6,none⟩ = some x6 ∧ w.cell? ⟨b,7,none⟩ = some x7 ∧ w.cell? ⟨b,8,none⟩ = some x8 ∧ w.cell? ⟨b,9,none⟩ = some x9 ∧ w.cell? ⟨b,10,none⟩ = some x10) ∧ (w.frozen? ⟨b,0,none⟩ = false ∧ w.frozen? ⟨b,1,none⟩ = false ∧ w.frozen? ⟨b,2,none⟩ = false ∧ w.frozen? ⟨b,3,none⟩ = false ∧ w.frozen? ⟨b,4,none⟩ = false ∧ w.frozen? ⟨b,5,none⟩ = false ∧ w.frozen? ⟨b,6,none⟩ = false ∧ w.frozen? ⟨b,7,none⟩ = false ∧ w.frozen? ⟨b,8,none⟩ = false ∧ w.frozen? ⟨b,9,none⟩ = false ∧ w.frozen? ⟨b,10,none⟩ = false) ∧ b < w.heap.size :=
 ⟨⟨h.cell 0 rfl,h.cell 1 rfl,h.cell 2 rfl,h.cell 3 rfl,h.cell 4 rfl,h.cell 5 rfl,h.cell 6 rfl,h.cell 7 rfl,h.cell 8 rfl,h.cell 9 rfl,h.cell 10 rfl⟩,⟨h.frozen 0,h.frozen 1,h.frozen 2,h.frozen 3,h.frozen 4,h.frozen 5,h.frozen 6,h.frozen 7,h.frozen 8,h.frozen 9,h.frozen 10⟩,h.lt⟩

set_option maxRecDepth 20000 in
set_option maxHeartbeats 2000000 in
theorem pask_a {w : World} {kind : Int} {text : List Int} {n m a pos : Int} {doc : List Int} {ad : Option Addr} {cap : Nat} {kids : List Tn} (h : TnOk w (.mk kind text n m a pos doc ad cap kids)) (hf : tfew (.mk kind text n m a pos doc ad cap kids) = true) (hd : tdeep (.mk kind text n m a pos doc ad cap kids) ≤ 64) (hno : kids.filter (fun k => k.kind == 4) = []) (W : World) (hT : Hid (LoTab W)) (hB : Below w.heap.size w W) (pl of_ ps : Value) :
  Calls Tryz.prog 98 #[pl,(Tn.mk kind text n m a pos doc ad cap kids).val,of_,ps] W fun e W' => e = .returned (.tuple #[]) ∧ Below W.heap.size W W' := by
 have QO : Hid (∀ V,Below W.heap.size W V → Calls Tryz.prog 127 #[(Tn.mk kind text n m a pos doc ad cap kids).val,.int .i64 4] V fun e W' => ∃ a c,e = .returned (.slice a 0 c) ∧ Below V.heap.size V W') := fun V hV => pof_none h hf hd 4 (by unfold i64b; omega) hno V (show Hid _ from hT.out.below hV (Nat.le_refl _)) (hB.trans (hV.mono hB.size))
 unfold Tn.val Tn.cells at QO ⊢
 clear h hf hd hno hB
 have HB1 : Hid (Below W.heap.size W (W.alloc (.cells #[.int .i64 kind,.string (strOfNums text),.int .i64 n,.int .i64 m,.int .i64 a,.int .i64 pos,.string (strOfNums doc),.slice ad kids.length cap] 28))) := (Below.refl _ _).alloc (Nat.le_refl _) _
 have Q1 : Hid _ := QO.out _ HB1.out
 clear QO
 go_enter Tryz.func98,Tryz.ntmps98
 go_wp2_with fail
 refine Calls.mono Q1.out ?_
 rintro e w1 ⟨oa,oc,rfl,hb1⟩
 have HB2 : Hid (Below W.heap.size W w1) := HB1.out.trans (hb1.mono HB1.out.size)
 clear hb1 Q1
 go_wp2
 go_loopw [13] (fun v wr => v = .int .i64 0 ∧ w1 = wr) (fun _ _ => 0)
 case atStart => exact ⟨rfl,rfl⟩
 case round =>
  obtain ⟨rfl,rfl⟩ := hrel
  go_wp2
  go_end0
  exact ⟨rfl,HB2.out⟩

section
variable {P : Program} {md : Region.Mode} {ops : Array Oper} {Q : Exit → Act → World → Prop} {S : World → Prop} {z : Nat}

def wpAnyG (P : Program) (md : Region.Mode) (ops : Array Oper) (Q : Exit → Act → World → Prop) (S : World → Prop) (z : Nat) : Nat → Array Bool → Act → World → Prop
 | 0,listed,a,w => Region.ready md ops listed = [] ∧ Q .normal a w
 | fuel + 1,listed,a,w =>
  (Region.ready md ops listed = [] → Q .normal a w) ∧
  ∀ i ∈ Region.ready md ops listed,wpOp P ops Q i (fun a' w' => (i = z ∨ S w') ∧ wpAnyG P md ops Q S z fuel (listed.setIfInBounds i true) a' w') a w

theorem wpAny_of_G : ∀ (fuel : Nat) (listed : Array Bool) (a : Act) (w : World),wpAnyG P md ops Q S z fuel listed a w → wpAny P md ops Q fuel listed a w
 | 0,_,_,_,h => h
 | fuel + 1,_,_,_,h => ⟨h.1,fun i hi => wpOp_mono (fun a' w' h' => wpAny_of_G fuel _ a' w' h'.2) (h.2 i hi)⟩

theorem wpAnyG_first {i : Nat} {oi oz : Oper} {v : Value} (hi : ops[i]? = some oi) (hz : ops[z]? = some oz) (hiz : i ≠ z) (hzi : ∃ e ∈ oz.after,Region.binds md e = true ∧ e.on = i) (hsel : ∀ (j : Nat) (o : Oper) cs b,ops[j]? = some o → o.op ≠ .select cs b)
  (hQ : ∀ c a w,Q (.panic c) (a.put oi.dst v) w → Q (.panic c) a w) :
  ∀ (fuel : Nat) (listed : Array Bool) (a : Act) (w : World),
   (∀ j oj,ops[j]? = some oj → j ≠ i → listed.getD j true = false → (∀ e ∈ oj.after,Region.binds md e = true → e.on ≠ i) → oi.apart ops oj = true) →
   i ∈ Region.ready md ops listed → YieldsIf P ops S oi v a → S w →
   wpAnyG P md ops Q S z fuel (listed.setIfInBounds i true) (a.put oi.dst v) w → wpAnyG P md ops Q S z (fuel + 1) listed a w := by
 intro fuel
 induction fuel with
 | zero =>
  intro listed a w _ hr hy hS H
  refine ⟨fun h => (by rw [h] at hr; cases hr),fun j hj => ?_⟩
  by_cases hji : j = i
  ·subst hji; exact hy.wpOp hi hS ⟨.inr hS,H⟩
  ·have := ready_mono hj hji
   rw [H.1] at this
   cases this
 | succ fuel ih =>
  intro listed a w hfree hr hy hS H
  refine ⟨fun h => (by rw [h] at hr; cases hr),fun j hj => ?_⟩
  by_cases hji : j = i
  ·subst hji; exact hy.wpOp hi hS ⟨.inr hS,H⟩
  ·have h1 := H.2 j (ready_mono hj hji)
   obtain ⟨hjun,oj,hoj,hall⟩ := mem_ready.1 hj
   have hnot : ∀ e ∈ oj.after,Region.binds md e = true → e.on ≠ i := fun e he hb heq => by
    have h1 := hall e he hb
    have h0 := (mem_ready.1 hr).1
    rw [heq] at h1
    rcases Nat.lt_or_ge i listed.size with h' | h'
    ·simp [h'] at h0 h1; rw [h0] at h1; cases h1
    ·simp [Array.getElem?_eq_none h'] at h1
   have hjz : j ≠ z := fun e => by
    subst e
    rw [hz] at hoj
    cases hoj
    obtain ⟨e,he,hb,ho⟩ := hzi
    exact hnot e he hb ho
   have h2 := wpOp_putIf hoj (hfree j oj hoj hji hjun hnot) (fun cs b => hsel i oi cs b hi) (fun cs b => hsel j oj cs b hoj) hQ hy h1
   have hfree' : ∀ k ok,ops[k]? = some ok → k ≠ i → (listed.setIfInBounds j true).getD k true = false →
     (∀ e ∈ ok.after,Region.binds md e = true → e.on ≠ i) → oi.apart ops ok = true := fun k ok hk hki hun hno => by
    refine hfree k ok hk hki ?_ hno
    by_cases hjk : j = k
    ·subst hjk; exact hjun
    ·rw [getD_set_ne true hjk] at hun; exact hun
   refine wpOp_mono (fun a' w' h3 => ?_) h2
   have hS' : S w' := h3.2.1.resolve_left hjz
   refine ⟨.inr hS',ih (listed.setIfInBounds j true) a' w' hfree' (ready_mono hr (Ne.symm hji)) h3.1 hS' ?_⟩
   rw [Array.setIfInBounds_comm _ _ hji]
   exact h3.2.2

def lastWaits (md : Region.Mode) (ops : Array Oper) (z i : Nat) : Bool := match ops[z]? with
 | some oz => oz.after.any (fun e => Region.binds md e && decide (e.on = i)) && decide (i ≠ z)
 | none => false

theorem wpAnyG_take {i : Nat} {oi : Oper} {v : Value} {fuel : Nat} {listed : Array Bool} {a : Act} {w : World} (hi : ops[i]? = some oi)
  (hs : Region.noSelect ops = true) (hf : Region.free md ops listed i = true) (hr : (Region.ready md ops listed).contains i = true) (hz : lastWaits md ops z i = true)
  (hQ : ∀ c a w,Q (.panic c) (a.put oi.dst v) w → Q (.panic c) a w) (hy : YieldsIf P ops S oi v a) (hS : S w)
  (h : wpAnyG P md ops Q S z fuel (listed.setIfInBounds i true) (a.put oi.dst v) w) : wpAnyG P md ops Q S z (fuel + 1) listed a w := by
 unfold lastWaits at hz
 cases hoz : ops[z]? with
 | none => rw [hoz] at hz; cases hz
 | some oz =>
  rw [hoz] at hz
  rw [Bool.and_eq_true,Array.any_eq_true] at hz
  obtain ⟨⟨k,hk,heb⟩,hne⟩ := hz
  rw [Bool.and_eq_true] at heb
  exact wpAnyG_first hi hoz (of_decide_eq_true hne) ⟨oz.after[k],Array.getElem_mem hk,heb.1,of_decide_eq_true heb.2⟩ (Region.noSelect_spec hs) hQ fuel listed a w (Region.free_spec hi hf) (by simpa using hr) hy hS h

theorem wpAnyG_all {rs : List Nat} {fuel : Nat} {listed : Array Bool} {a : Act} {w : World} (hr : Region.ready md ops listed = rs) (hne : rs ≠ [])
  (h : ∀ i ∈ rs,wpOp P ops Q i (fun a' w' => (i = z ∨ S w') ∧ wpAnyG P md ops Q S z fuel (listed.setIfInBounds i true) a' w') a w) : wpAnyG P md ops Q S z (fuel + 1) listed a w :=
 ⟨fun h0 => absurd (hr ▸ h0) hne,hr ▸ h⟩

theorem wpAnyG_done {listed : Array Bool} {a : Act} {w : World} (hr : Region.ready md ops listed = []) (h : Q .normal a w) :
  ∀ fuel,wpAnyG P md ops Q S z fuel listed a w
 | 0 => ⟨hr,h⟩
 | _ + 1 => ⟨fun _ => h,by rw [hr]; intro i hi; cases hi⟩

theorem wp_region_heldG {id : Nat} {a : Act} {w : World} (z : Nat) (hm : P.follows .mixedOrders = true) (h : wpAnyG P .any ops Q S z ops.size (Array.replicate ops.size false) a w.drew) : (Code.region id ops true).wp P Q a w :=
 wp_region_any hm (wpAny_of_G _ _ _ _ h)

end

end Go.Proofs.YtlekfcehmlepkaaGreatDoor
