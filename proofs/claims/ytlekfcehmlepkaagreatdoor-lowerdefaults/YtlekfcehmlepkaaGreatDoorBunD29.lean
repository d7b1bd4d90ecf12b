/- Put together by a program out of these texts of mine: STk2, STk3, STk4, LRef3, LJoin. -/
import Derived.Test.YtlekfcehmlepkaaGreatDoorBunD1
import Derived.Test.YtlekfcehmlepkaaGreatDoorBunD3
import Derived.Test.YtlekfcehmlepkaaGreatDoorBunD4
import Derived.Test.YtlekfcehmlepkaaGreatDoorBunD28

namespace Go.Proofs.YtlekfcehmlepkaaGreatDoor
open Go.RowKit
set_option linter.unusedVariables false
set_option linter.unusedSimpArgs false

theorem tkloop_any0 {w : World} {g : Nat} {a : Option Addr} {len cap : Nat} {ts : List Tq} {W : World} {rb nb : Nat} {np : Int} {X : ByteArray} {act : Act} {R : List Pn × Gs} (HSim : Hid (Sim ts)) (HE : Ends ts) (hLb : len ≤ 1000000)
  (hI : (fun (a' : Act) (W' : World) => ∃ (us : Nat → Value) (f : Nat) (s' : Gs) (ks : List Tn) (va : Option Addr) (vn vc pk : Nat),a' = RT g rb nb a len cap ((pk : Nat) : Int) us ∧ Hid (Sx w g a len cap ts w.heap.size (.slice none 0 0) [] W' (s') [(nb,#[.int .i64 1,.string X,.int .i64 0,.int .i64 0,.int .i64 0,.int .i64 np,.string { data := #[] },.slice va vn vc])] (.slice va vn vc) ks []) ∧ Hid (R = gfilel ts f s' pk (plains ks)) ∧ gmeas2 len s' < f ∧ s'.op = 0 ∧ (s'.e = 0 → ks.length ≤ s'.i) ∧ ks.length ≤ len ∧ (s'.e = 0 → pk ≤ s'.i) ∧ pk ≤ len) act W) (Q : Exit → Act → World → Prop) (hQ : ∀ a' W',(∃ (us : Nat → Value) (ks : List Tn) (va : Option Addr) (vn vc : Nat) (pk : Int),a' = RT g rb nb a len cap pk us ∧ Sx w g a len cap ts w.heap.size (.slice none 0 0) [] W' (R.2) [(nb,#[.int .i64 1,.string X,.int .i64 0,.int .i64 0,.int .i64 0,.int .i64 np,.string { data := #[] },.slice va vn vc])] (.slice va vn vc) ks [] ∧ R.1 = plains ks) → Q (.exit 0) a' W') : tkloop.wp Tryz.prog Q act W := by
 rw [tkloop_eq]
 refine wp_loop (fun (a' : Act) (W' : World) => ∃ (us : Nat → Value) (f : Nat) (s' : Gs) (ks : List Tn) (va : Option Addr) (vn vc pk : Nat),a' = RT g rb nb a len cap ((pk : Nat) : Int) us ∧ Hid (Sx w g a len cap ts w.heap.size (.slice none 0 0) [] W' (s') [(nb,#[.int .i64 1,.string X,.int .i64 0,.int .i64 0,.int .i64 0,.int .i64 np,.string { data := #[] },.slice va vn vc])] (.slice va vn vc) ks []) ∧ Hid (R = gfilel ts f s' pk (plains ks)) ∧ gmeas2 len s' < f ∧ s'.op = 0 ∧ (s'.e = 0 → ks.length ≤ s'.i) ∧ ks.length ≤ len ∧ (s'.e = 0 → pk ≤ s'.i) ∧ pk ≤ len) (fun _ W' => gmeas len W' g) hI ?_
 rintro a' W' ⟨us,f,s',ks,va,vn,vc,pk,rfl,S0,HJ,hf,hop,hki,hkl,hpi,hpl⟩
 obtain ⟨f,rfl⟩ : ∃ f',f = f' + 1 := ⟨f - 1,by omega⟩
 have HJ' := HJ.out
 rw [gfilel] at HJ'
 have hlt := S0.out.gm.lt
 by_cases he : s'.e = 0
 ·by_cases hk : (gnow ts s').kind = 0
  ·rw [if_pos (Or.inr hk)] at HJ'
   refine wp_seq (tkh_end us S0 ⟨he,hk⟩ _ ?_)
   rintro a' W2 S2 ⟨us2,rfl⟩
   exact hQ _ _ ⟨us2,ks,va,vn,vc,_,rfl,by rw [HJ']; exact S2,by rw [HJ']⟩
  ·rw [if_neg (fun h => h.elim (fun h => h he) hk)] at HJ'
   have hki' := hki he
   have hpi' := hpi he
   have hf2 : 1 + (len - s'.i) < f + 1 := by unfold gmeas2 at hf; rw [if_pos he] at hf; exact hf
   refine wp_seq (tkh_on us S0 ⟨he,hk⟩ _ ?_)
   rintro a' W2 S2 ⟨us2,rfl⟩
   refine wp_block ?_
   cases hd : gis ts [59] s' with
   | true =>
    rw [if_pos hd] at HJ'
    refine wp_seq (tk15_true us2 S2 hd _ ?_)
    rintro a' W3 S3 ⟨us3,rfl⟩
    simp only [Exit.inBlock,if_true,Exit.then]
    have hMo := mnext HE hk
    have hl3 := S3.gm.lt
    refine ⟨⟨us3,f,gnext ts s',ks,va,vn,vc,pk,rfl,S3,HJ',?_,by rw [hMo.op,hop]; rfl,fun h3 => by have := (hMo.e h3).2; omega,hkl,fun h3 => by have := (hMo.e h3).2; omega,hpl⟩,?_⟩
    ·unfold gmeas2
     split
     ·rename_i h3
      have := (hMo.e h3).2
      omega
     ·omega
    ·rw [S3.gm.meas,S0.out.gm.meas]
     unfold gmeas2
     rw [if_pos he]
     split
     ·rename_i h3
      have := (hMo.e h3).2
      omega
     ·omega
   | false =>
    rw [if_neg (by rw [hd]; decide)] at HJ'
    refine wp_seq (tk15_false us2 S2 hd _ ?_)
    rintro a' W3 S3 ⟨us3,rfl⟩
    have fin : ∀ (s1 : Gs) (pk1 : Nat) (W4 : World) (us4 : Nat → Value),s1.op = 0 → Mo s' s1 0 0 → (pk1 = pk ∨ pk1 = pk + 1) → R = gfilel ts f (gitem ts (gbody ts 31) 31 (s1)).2 pk1 (plains ks ++ [(gitem ts (gbody ts 31) 31 (s1)).1]) → Sx w g a len cap ts w.heap.size (.slice none 0 0) [] W4 (s1) [(nb,#[.int .i64 1,.string X,.int .i64 0,.int .i64 0,.int .i64 0,.int .i64 np,.string { data := #[] },.slice va vn vc])] (.slice va vn vc) ks [] →
      ∀ Q' : Exit → Act → World → Prop,(∀ a' W5,(∃ (us : Nat → Value) (f : Nat) (s' : Gs) (ks : List Tn) (va : Option Addr) (vn vc pk : Nat),a' = RT g rb nb a len cap ((pk : Nat) : Int) us ∧ Hid (Sx w g a len cap ts w.heap.size (.slice none 0 0) [] W5 (s') [(nb,#[.int .i64 1,.string X,.int .i64 0,.int .i64 0,.int .i64 0,.int .i64 np,.string { data := #[] },.slice va vn vc])] (.slice va vn vc) ks []) ∧ Hid (R = gfilel ts f s' pk (plains ks)) ∧ gmeas2 len s' < f ∧ s'.op = 0 ∧ (s'.e = 0 → ks.length ≤ s'.i) ∧ ks.length ≤ len ∧ (s'.e = 0 → pk ≤ s'.i) ∧ pk ≤ len) → gmeas len W5 g < gmeas len W' g → Q' .normal a' W5) → tkR20.wp Tryz.prog Q' (RT g rb nb a len cap (((pk1 : Nat) : Int)) us4) W4 := by
     intro s1 pk1 W4 us4 ho1 hM1 hpk hR1 S4 Q' hQ'
     refine tk200 HSim us4 S4 ho1 (by omega) Q' ?_
     rintro a' W5 ⟨t,vd,vf,ve,hP,S5,us5,rfl⟩
     have hMo := hM1.trans (mitem HE (mbody HE 31) 31 s1)
     have hl5 := S5.gm.lt
     refine hQ' _ _ ⟨us5,f,_,ks ++ [t],vd,vf,ve,pk1,rfl,S5,?_,?_,?_,?_,?_,?_,?_⟩ ?_
     ·show _ = _
      rw [plains_append,plains,plains,hP]
      exact hR1
     ·unfold gmeas2
      split
      ·rename_i h3
       have := (hMo.e h3).2
       omega
      ·omega
     ·rw [hMo.op,hop]; rfl
     ·intro h3
      have := (hMo.e h3).2
      simp
      omega
     ·simp
      omega
     ·intro h3
      have := (hMo.e h3).2
      omega
     ·omega
     ·rw [S5.gm.meas,S0.out.gm.meas]
      unfold gmeas2
      rw [if_pos he]
      split
      ·rename_i h3
       have := (hMo.e h3).2
       omega
      ·omega
    cases hp : gisw ts [112,97,99,107,97,103,101] s' with
    | false =>
     refine wp_seq (tk16_no us3 S3 hp _ ?_)
     rintro a' W4 S4 ⟨us4,rfl⟩
     refine fin s' pk W4 us4 hop (Mo.refl s') (Or.inl rfl) (by have h := HJ'; simp only [hp,Bool.false_eq_true,if_false,false_and] at h; exact h) S4 _ ?_
     intro a' W5 h5 h6
     exact ⟨h5,h6⟩
    | true =>
     rcases Nat.eq_zero_or_pos pk with h0 | h0
     ·subst h0
      refine wp_seq (tk16_one us3 S3 hp rfl _ ?_)
      rintro a' W4 S4 ⟨us4,rfl⟩
      refine fin s' 1 W4 us4 hop (Mo.refl s') (Or.inr rfl) (by have h := HJ'; simp only [hp,if_true,true_and,Nat.zero_add,Nat.lt_irrefl,if_false] at h; exact h) S4 _ ?_
      intro a' W5 h5 h6
      exact ⟨h5,h6⟩
     ·refine wp_seq (tk16_two us3 S3 hp ⟨by omega,by omega⟩ _ ?_)
      rintro a' W4 S4 ⟨us4,rfl⟩
      refine fin (gfail ts 80 s') (pk + 1) W4 us4 (by rw [(mfail ts 80 (by decide) s' 0).op,hop]; rfl) (mfail ts 80 (by decide) s' 0) (Or.inr rfl) (by have h := HJ'; simp only [hp,if_true,true_and,show 1 < pk + 1 by omega] at h; exact h) S4 _ ?_
      intro a' W5 h5 h6
      exact ⟨h5,h6⟩
 ·rw [if_pos (Or.inl he)] at HJ'
  refine wp_seq (tkh_err us S0 he _ ?_)
  rintro a' W2 S2 ⟨us2,rfl⟩
  exact hQ _ _ ⟨us2,ks,va,vn,vc,_,rfl,by rw [HJ']; exact S2,by rw [HJ']⟩

theorem nd3_ret {fn : Func} {R : Ending → World → Prop} {a : Act} {w : World} {p u v : Tmp} (h : fn.results = #[.cell p 28,.tmp u,.tmp v]) (g : Nat) (v0 v1 v2 v3 v4 v5 v6 v7 : Value) (hp : a.tmps.getD p undef = .pointer (some ⟨g,0,none⟩))
  (hg : w.heap[g]? = some (.cells #[v0,v1,v2,v3,v4,v5,v6,v7] 28 (0,0))) (hd : a.defers = []) (hR : R (.returned (.tuple #[.agg #[v0,v1,v2,v3,v4,v5,v6,v7],a.tmps.getD u undef,a.tmps.getD v undef])) w) : bodyPost Tryz.prog fn R .ret a w := by
 refine bodyPost_ret (v := .tuple #[.agg #[v0,v1,v2,v3,v4,v5,v6,v7],a.tmps.getD u undef,a.tmps.getD v undef]) ?_ hd hR
 have hp' : a.tmps[p]?.getD undef = .pointer (some ⟨g,0,none⟩) := by simpa using hp
 have hl := run_loadVar_row (P := Tryz.prog) w g 28 28 #[v0,v1,v2,v3,v4,v5,v6,v7] (0,0) _ hg Tryz.underlying28 rfl (by kernel_rfl)
 simp [results,h,hp',asAddr,hl]

theorem drew_set (W : World) (p : Addr) (u : Value) : (W.setCell p u).drew = W.drew.setCell p u := rfl

def TokRet (u : World) (m : Pn × Int × Int) (e : Ending) (w' : World) : Prop :=
 ∃ t : Tn,e = .returned (.tuple #[t.val,.int .i64 m.2.1,.int .i64 m.2.2]) ∧ t.plain = m.1 ∧ TnOk w' t ∧ (∀ b ∈ t.blocks,u.heap.size ≤ b ∧ b < w'.heap.size) ∧ Below u.heap.size u w'

theorem tok_end {u w : World} {g : Nat} {a : Option Addr} {len cap : Nat} {ts : List Tq} {W : World} {s : Gs} {B : List (Nat × Array Value)} {v : Value} {ks us : List Tn} {t : Tn} {rb : Nat} {act : Act} {m : Pn × Int × Int} {a0 a1 a2 a3 a4 a5 a6 a7 : Value} (S : Sx w g a len cap ts w.heap.size (.slice none 0 0) [] W s B v ks (t :: us))
  (HRb : W.heap[rb]? = some (.cells #[a0,a1,a2,a3,a4,a5,a6,a7] 28 (0,0))) (hrb : rb < w.heap.size) (hrg : rb ≠ g) (hbe : u.heap.size ≤ rb ∧ u.heap.size ≤ g ∧ Below u.heap.size u w) (act' : Act) (x0 x1 x2 x3 x4 x5 x6 x7 : Value) (hact : act' = act) (hx : t.cells = [x0,x1,x2,x3,x4,x5,x6,x7])
  (fn : Func) (hres : fn.results = #[.cell 2 28,.tmp 3,.tmp 4]) (hp : act.tmps.getD 2 undef = .pointer (some ⟨rb,0,none⟩)) (hd : act.defers = []) (hm : t.plain = m.1 ∧ act.tmps.getD 3 undef = .int .i64 m.2.1 ∧ act.tmps.getD 4 undef = .int .i64 m.2.2) :
  bodyPost Tryz.prog fn (TokRet u m) .ret act ((((((((W.setCell ⟨rb,0,none⟩ x0).setCell ⟨rb,1,none⟩ x1).setCell ⟨rb,2,none⟩ x2).setCell ⟨rb,3,none⟩ x3).setCell ⟨rb,4,none⟩ x4).setCell ⟨rb,5,none⟩ x5).setCell ⟨rb,6,none⟩ x6).setCell ⟨rb,7,none⟩ x7) := by
 have hh := eight_put HRb x0 x1 x2 x3 x4 x5 x6 x7
 obtain ⟨q1,q2⟩ := S.ut t (by simp)
 have hown := eight_own W rb x0 x1 x2 x3 x4 x5 x6 x7
 have hsz := hbe.2.2.size
 refine nd3_ret hres rb _ _ _ _ _ _ _ _ hp hh hd ⟨t,by rw [Tn.val,hx,hm.2.1,hm.2.2],hm.1,q1.moved hown (fun b hb e => ?_),fun b hb => ⟨?_,?_⟩,?_⟩
 ·simp only [Option.some.injEq] at e
  have := (q2 b hb).1
  omega
 ·have := (q2 b hb).1
  omega
 ·have := (q2 b hb).2.1
  simp only [set_size]
  exact this
 ·have hfr := S.fr.grown
  refine ⟨?_,?_,?_,?_,?_⟩
  ·exact hown.os.trans (hfr.os.trans hbe.2.2.os)
  ·exact hown.tape.trans (hfr.tape.trans hbe.2.2.tape)
  ·exact hown.output.trans (hfr.output.trans hbe.2.2.output)
  ·exact Nat.le_trans hsz (Nat.le_trans hfr.size hown.size)
  ·intro k hk
   have hk2 : k < w.heap.size := Nat.lt_of_lt_of_le hk hsz
   exact (hown.block k (Nat.lt_of_lt_of_le hk2 hfr.size) (by simp; omega)).trans ((hfr.block k hk2 (by simp; omega)).trans (hbe.2.2.block k hk))

set_option maxRecDepth 100000 in
set_option maxHeartbeats 4000000 in
theorem tke_err {u : World} {w : World} {g : Nat} {a : Option Addr} {len cap : Nat} {ts : List Tq} {W : World} {t1 : Gs} {rb nb : Nat} {va : Option Addr} {vn vc : Nat} {ks : List Tn} {np : Int} {X : ByteArray} {pk : Int} (us : Nat → Value) (S0 : Hid (Sx w g a len cap ts w.heap.size (.slice none 0 0) [] W (t1) [(nb,#[.int .i64 1,.string X,.int .i64 0,.int .i64 0,.int .i64 0,.int .i64 np,.string { data := #[] },.slice va vn vc])] (.slice va vn vc) ks [])) (HRb : Hid (W.heap[rb]? = some (.cells #[.int .i64 0,.string { data := #[] },.int .i64 0,.int .i64 0,.int .i64 0,.int .i64 0,.string { data := #[] },.slice none 0 0] 28 (0,0)))) (hrb : rb < w.heap.size) (hrg : rb ≠ g) (hbe : u.heap.size ≤ rb ∧ u.heap.size ≤ g ∧ Below u.heap.size u w) (hd : ¬ t1.e = 0) :
  tkend.wp Tryz.prog (bodyPost Tryz.prog Tryz.f23 (TokRet u (pnil,t1.pa,t1.e))) (RT g rb nb a len cap (pk) us) W := by
 have hgz := S0.out.gm.blk.size
 obtain ⟨c0,c1,c2,c3,c4,c5⟩ := S0.out.gm.blk.cells
 have hq0 : nb < W.heap.size := S0.out.ltAt 0 nb rfl
 have hzr : rb < W.heap.size := (Array.getElem?_eq_some_iff.1 HRb.out).1
 have hgb := S0.out.gb
 have hnbw := S0.out.geAt 0 nb rfl
 have hn1 : rb ≠ nb := by omega
 have hn2 : nb ≠ rb := by omega
 obtain ⟨⟨ra0,ra1,ra2,ra3,ra4,ra5,ra6,ra7⟩,rz0,rz1,rz2,rz3,rz4,rz5,rz6,rz7⟩ := eight_cells (HRb.out)
 obtain ⟨⟨ca00,ca01,ca02,ca03,ca04,ca05,ca06,ca07⟩,cb00,cb01,cb02,cb03,cb04,cb05,cb06,cb07⟩ := eight_cells (S0.out.eight 0 nb rfl)
 have e1 : (t1.e != 0) = true := by simpa using hd
 clear hd
 unfold RT
 conv => arg 2; whnf
 go_wp2
 go_region
 all_goals
  go_wp2
  simp only [drew_set]
  refine tok_end (t := Tn.mk 0 [] 0 0 0 0 [] none 0 []) (show Sx w g a len cap ts w.heap.size (.slice none 0 0) [] W.drew t1 _ _ _ _ from (S0.out.drew 1).tree _ (leaf_ok _ (by unfold i64b; omega) (fun c hc => by simp at hc) (by simp) (by unfold i64b; omega)) (fun b hb => by simp [Tn.blocks,blocksL] at hb)) (show W.drew.heap[rb]? = _ from HRb.out) hrb hrg hbe _ (.int .i64 0) (.string { data := #[] }) (.int .i64 0) (.int .i64 0) (.int .i64 0) (.int .i64 0) (.string { data := #[] }) (.slice none 0 0) rfl rfl _ rfl rfl rfl ⟨rfl,rfl,rfl⟩

set_option maxRecDepth 100000 in
set_option maxHeartbeats 4000000 in
theorem tke_big {u : World} {w : World} {g : Nat} {a : Option Addr} {len cap : Nat} {ts : List Tq} {W : World} {t1 : Gs} {rb nb : Nat} {va : Option Addr} {vn vc : Nat} {ks : List Tn} {np : Int} {X : ByteArray} {pk : Int} (us : Nat → Value) (S0 : Hid (Sx w g a len cap ts w.heap.size (.slice none 0 0) [] W (t1) [(nb,#[.int .i64 1,.string X,.int .i64 0,.int .i64 0,.int .i64 0,.int .i64 np,.string { data := #[] },.slice va vn vc])] (.slice va vn vc) ks [])) (HRb : Hid (W.heap[rb]? = some (.cells #[.int .i64 0,.string { data := #[] },.int .i64 0,.int .i64 0,.int .i64 0,.int .i64 0,.string { data := #[] },.slice none 0 0] 28 (0,0)))) (hrb : rb < w.heap.size) (hrg : rb ≠ g) (hbe : u.heap.size ≤ rb ∧ u.heap.size ≤ g ∧ Below u.heap.size u w) (hd : t1.e = 0 ∧ 20000 < t1.n) :
  tkend.wp Tryz.prog (bodyPost Tryz.prog Tryz.f23 (TokRet u (pnil,0,2))) (RT g rb nb a len cap (pk) us) W := by
 have hgz := S0.out.gm.blk.size
 obtain ⟨c0,c1,c2,c3,c4,c5⟩ := S0.out.gm.blk.cells
 have hq0 : nb < W.heap.size := S0.out.ltAt 0 nb rfl
 have hzr : rb < W.heap.size := (Array.getElem?_eq_some_iff.1 HRb.out).1
 have hgb := S0.out.gb
 have hnbw := S0.out.geAt 0 nb rfl
 have hn1 : rb ≠ nb := by omega
 have hn2 : nb ≠ rb := by omega
 obtain ⟨⟨ra0,ra1,ra2,ra3,ra4,ra5,ra6,ra7⟩,rz0,rz1,rz2,rz3,rz4,rz5,rz6,rz7⟩ := eight_cells (HRb.out)
 obtain ⟨⟨ca00,ca01,ca02,ca03,ca04,ca05,ca06,ca07⟩,cb00,cb01,cb02,cb03,cb04,cb05,cb06,cb07⟩ := eight_cells (S0.out.eight 0 nb rfl)
 have e1 : (t1.e != 0) = false := by simpa using hd.1
 have e0 := hd.1
 have hn := S0.out.gm.n
 have hbig : (20000 : Int) < t1.n := hd.2
 rw [e0] at c4
 clear e0 hd e1
 unfold RT
 conv => arg 2; whnf
 go_wp2
 refine tok_end (t := Tn.mk 0 [] 0 0 0 0 [] none 0 []) (S0.out.tree _ (leaf_ok _ (by unfold i64b; omega) (fun c hc => by simp at hc) (by simp) (by unfold i64b; omega)) (fun b hb => by simp [Tn.blocks,blocksL] at hb)) HRb.out hrb hrg hbe _ (.int .i64 0) (.string { data := #[] }) (.int .i64 0) (.int .i64 0) (.int .i64 0) (.int .i64 0) (.string { data := #[] }) (.slice none 0 0) rfl rfl _ rfl rfl rfl ⟨rfl,rfl,rfl⟩

set_option maxRecDepth 100000 in
set_option maxHeartbeats 4000000 in
theorem tke_ok {u : World} {w : World} {g : Nat} {a : Option Addr} {len cap : Nat} {ts : List Tq} {W : World} {t1 : Gs} {rb nb : Nat} {va : Option Addr} {vn vc : Nat} {ks : List Tn} {np : Int} {X : ByteArray} {pk : Int} (us : Nat → Value) (S0 : Hid (Sx w g a len cap ts w.heap.size (.slice none 0 0) [] W (t1) [(nb,#[.int .i64 1,.string X,.int .i64 0,.int .i64 0,.int .i64 0,.int .i64 np,.string { data := #[] },.slice va vn vc])] (.slice va vn vc) ks [])) (HRb : Hid (W.heap[rb]? = some (.cells #[.int .i64 0,.string { data := #[] },.int .i64 0,.int .i64 0,.int .i64 0,.int .i64 0,.string { data := #[] },.slice none 0 0] 28 (0,0)))) (hrb : rb < w.heap.size) (hrg : rb ≠ g) (hbe : u.heap.size ≤ rb ∧ u.heap.size ≤ g ∧ Below u.heap.size u w) (hd : t1.e = 0 ∧ ¬ 20000 < t1.n) {tx : List Int} (HX : Hid (X = strOfNums tx)) (HTx : Hid (byts tx ∧ tx.length ≤ 100000)) (hnp : i64b np) {pl : List Pn} (hpl : plains ks = pl) :
  tkend.wp Tryz.prog (bodyPost Tryz.prog Tryz.f23 (TokRet u (.mk 1 tx 0 0 0 np [] pl,0,0))) (RT g rb nb a len cap (pk) us) W := by
 have hgz := S0.out.gm.blk.size
 obtain ⟨c0,c1,c2,c3,c4,c5⟩ := S0.out.gm.blk.cells
 have hq0 : nb < W.heap.size := S0.out.ltAt 0 nb rfl
 have hzr : rb < W.heap.size := (Array.getElem?_eq_some_iff.1 HRb.out).1
 have hgb := S0.out.gb
 have hnbw := S0.out.geAt 0 nb rfl
 have hn1 : rb ≠ nb := by omega
 have hn2 : nb ≠ rb := by omega
 obtain ⟨⟨ra0,ra1,ra2,ra3,ra4,ra5,ra6,ra7⟩,rz0,rz1,rz2,rz3,rz4,rz5,rz6,rz7⟩ := eight_cells (HRb.out)
 obtain ⟨⟨ca00,ca01,ca02,ca03,ca04,ca05,ca06,ca07⟩,cb00,cb01,cb02,cb03,cb04,cb05,cb06,cb07⟩ := eight_cells (S0.out.eight 0 nb rfl)
 have e1 : (t1.e != 0) = false := by simpa using hd.1
 have e0 := hd.1
 have hn := S0.out.gm.n
 have hbig : ¬ (20000 : Int) < t1.n := hd.2
 rw [e0] at c4
 clear e0 hd e1
 unfold RT
 conv => arg 2; whnf
 go_wp2
 obtain ⟨hnk,S9⟩ := S0.out.close (nk := 1) (nn := 0) (nm := 0) (na := 0) (np := np) (ntx := tx) (ndc := []) (by unfold i64b; omega) (by unfold i64b; omega) (by unfold i64b; omega) (by unfold i64b; omega) hnp HTx.out ⟨fun c hc => by simp at hc,by simp⟩
 refine tok_end S9 HRb.out hrb hrg hbe _ (.int .i64 1) (.string X) (.int .i64 0) (.int .i64 0) (.int .i64 0) (.int .i64 np) (.string { data := #[] }) (.slice va vn vc) rfl (by rw [Tn.cells,HX.out,hnk]; rfl) _ rfl rfl rfl ⟨?_,?_⟩
 ·rw [Tn.plain,hpl]
 ·exact ⟨rfl,rfl⟩

theorem wp_asT {c : Code} {Q : Exit → Act → World → Prop} {a' : Act} {W : World} {g rb nb : Nat} {a : Option Addr} {len cap : Nat} {pk : Int} (us : Nat → Value) (_hu : us = fun k => a'.tmps.getD k undef) (h : a' = RT g rb nb a len cap pk us) (hw : ∀ us,c.wp Tryz.prog Q (RT g rb nb a len cap pk us) W) : c.wp Tryz.prog Q a' W := by
 rw [h]; exact hw us

theorem tk_rest0 {u w : World} {g : Nat} {a : Option Addr} {len cap : Nat} {ts : List Tq} {W : World} {s : Gs} {rb nb : Nat} {np : Int} {X : ByteArray} {tx : List Int} (HSim : Hid (Sim ts)) (S0 : Sx w g a len cap ts w.heap.size (.slice none 0 0) [] W s [(nb,#[.int .i64 1,.string X,.int .i64 0,.int .i64 0,.int .i64 0,.int .i64 np,.string { data := #[] },.slice none 0 0])] (.slice none 0 0) [] [])
  (HRb : w.heap[rb]? = some (.cells #[.int .i64 0,.string { data := #[] },.int .i64 0,.int .i64 0,.int .i64 0,.int .i64 0,.string { data := #[] },.slice none 0 0] 28 (0,0))) (hrb : rb < w.heap.size) (hrg : rb ≠ g) (hbe : u.heap.size ≤ rb ∧ u.heap.size ≤ g ∧ Below u.heap.size u w) (HE : Ends ts) (hLb : len ≤ 1000000) (hnp : i64b np) (hX : X = strOfNums tx) (htx : byts tx ∧ tx.length ≤ 100000) (hop : s.op = 0)
  (us : Nat → Value) {M : Pn × Int × Int} (hM : M = (if (gfilel ts (2 * ts.length + 2) s 0 []).2.e ≠ 0 then (pnil,(gfilel ts (2 * ts.length + 2) s 0 []).2.pa,(gfilel ts (2 * ts.length + 2) s 0 []).2.e) else if 20000 < (gfilel ts (2 * ts.length + 2) s 0 []).2.n then (pnil,0,2) else (.mk 1 tx 0 0 0 np [] (gfilel ts (2 * ts.length + 2) s 0 []).1,0,0))) (Q : Exit → Act → World → Prop) (hQ : ∀ a' W',tkend.wp Tryz.prog (bodyPost Tryz.prog Tryz.f23 (TokRet u M)) a' W' → Q (.exit 0) a' W') :
  tkloop.wp Tryz.prog Q (RT g rb nb a len cap 0 us) W := by
 have hL : ts.length = len := S0.gm.tok.1
 have hlt := S0.gm.lt
 obtain ⟨R,hR⟩ : ∃ R,R = gfilel ts (2 * ts.length + 2) s 0 [] := ⟨_,rfl⟩
 rw [← hR] at hM
 refine tkloop_any0 (w := w) (g := g) (a := a) (len := len) (cap := cap) (ts := ts) (rb := rb) (nb := nb) (np := np) (X := X) (R := R) HSim HE hLb ⟨us,2 * ts.length + 2,s,[],none,0,0,0,rfl,S0,hR,by unfold gmeas2; split <;> omega,hop,fun _ => by simp,by simp,fun _ => by simp,by simp⟩ _ ?_
 rintro a' W' ⟨us2,ks,va,vn,vc,pk,rfl,S8,hpl⟩
 refine hQ _ _ ?_
 have HR8 : W'.heap[rb]? = some (.cells #[.int .i64 0,.string { data := #[] },.int .i64 0,.int .i64 0,.int .i64 0,.int .i64 0,.string { data := #[] },.slice none 0 0] 28 (0,0)) := (S8.fr.grown.block rb hrb (by simp; omega)).trans HRb
 by_cases he : R.2.e = 0
 ·rw [if_neg (by simpa using he)] at hM
  by_cases hn : 20000 < R.2.n
  ·rw [if_pos hn] at hM
   rw [hM]
   exact tke_big us2 S8 HR8 hrb hrg hbe ⟨he,hn⟩
  ·rw [if_neg hn] at hM
   rw [hM]
   exact tke_ok us2 S8 HR8 hrb hrg hbe ⟨he,hn⟩ hX htx hnp hpl.symm
 ·rw [if_pos (by simpa using he)] at hM
  rw [hM]
  exact tke_err us2 S8 HR8 hrb hrg hbe he

set_option maxRecDepth 100000 in
def RU (g rb nb : Nat) (a : Option Addr) (len cap : Nat) (us : Nat → Value) : Act := { tmps := List.toArray (.slice a len cap :: us 1 :: .pointer (some ⟨rb,0,none⟩) :: .int .i64 0 :: .int .i64 0 :: .pointer (some ⟨g,0,none⟩) :: .pointer (some ⟨nb,0,none⟩) :: us 7 :: us 8 :: us 9 :: us 10 :: us 11 :: us 12 :: us 13 :: us 14 :: us 15 :: us 16 :: us 17 :: us 18 :: us 19 :: us 20 :: us 21 :: us 22 :: us 23 :: us 24 :: us 25 :: us 26 :: us 27 :: us 28 :: us 29 :: us 30 :: us 31 :: us 32 :: us 33 :: us 34 :: us 35 :: us 36 :: us 37 :: us 38 :: us 39 :: us 40 :: us 41 :: us 42 :: us 43 :: us 44 :: us 45 :: us 46 :: us 47 :: us 48 :: us 49 :: us 50 :: us 51 :: us 52 :: us 53 :: us 54 :: us 55 :: us 56 :: us 57 :: us 58 :: us 59 :: us 60 :: us 61 :: us 62 :: us 63 :: us 64 :: us 65 :: us 66 :: us 67 :: us 68 :: us 69 :: us 70 :: us 71 :: us 72 :: us 73 :: us 74 :: us 75 :: us 76 :: us 77 :: us 78 :: us 79 :: us 80 :: us 81 :: us 82 :: us 83 :: us 84 :: us 85 :: us 86 :: us 87 :: us 88 :: us 89 :: us 90 :: us 91 :: us 92 :: us 93 :: us 94 :: us 95 :: us 96 :: us 97 :: us 98 :: us 99 :: us 100 :: us 101 :: us 102 :: []),defers := [] }

set_option maxRecDepth 100000 in
set_option maxHeartbeats 4000000 in
theorem tkp_no0 {u w : World} {g : Nat} {a : Option Addr} {len cap : Nat} {ts : List Tq} {W : World} {rb nb : Nat} {np : Int} {s0 : Gs} (HSim : Hid (Sim ts)) (hs0 : s0 = (⟨0,0,0,0,1⟩ : Gs)) (us : Nat → Value) (S0 : Hid (Sx w g a len cap ts w.heap.size (.slice none 0 0) [] W (s0) [(nb,#[.int .i64 1,.string { data := #[] },.int .i64 0,.int .i64 0,.int .i64 0,.int .i64 np,.string { data := #[] },.slice none 0 0])] (.slice none 0 0) [] [])) (HRb : Hid (w.heap[rb]? = some (.cells #[.int .i64 0,.string { data := #[] },.int .i64 0,.int .i64 0,.int .i64 0,.int .i64 0,.string { data := #[] },.slice none 0 0] 28 (0,0)))) (hrb : rb < w.heap.size) (hrg : rb ≠ g) (hbe : u.heap.size ≤ rb ∧ u.heap.size ≤ g ∧ Below u.heap.size u w) (hLb : len ≤ 1000000) (Hnp : Hid (i64b np)) (hd : gisw ts [115,121,110,116,97,120] s0 = false) {M : Pn × Int × Int} (HMM : Hid (M = if (gfilel ts (2 * ts.length + 2) (s0) 0 []).2.e ≠ 0 then (pnil,(gfilel ts (2 * ts.length + 2) (s0) 0 []).2.pa,(gfilel ts (2 * ts.length + 2) (s0) 0 []).2.e) else if 20000 < (gfilel ts (2 * ts.length + 2) (s0) 0 []).2.n then (pnil,0,2) else (.mk 1 ([]) 0 0 0 np [] (gfilel ts (2 * ts.length + 2) (s0) 0 []).1,0,0))) :
  tkX.wp Tryz.prog (bodyPost Tryz.prog Tryz.f23 (TokRet u M)) (RU g rb nb a len cap us) W := by
 have hL : ts.length = len := S0.out.gm.tok.1
 have HE : Hid (Ends ts) := by show (ts.getD (ts.length - 1) Tq.none).kind = 0; rw [hL]; exact S0.out.gm.last
 have hq0 : nb < W.heap.size := S0.out.ltAt 0 nb rfl
 have hg := Nat.lt_of_lt_of_le S0.out.gb S0.out.bw
 have hqg : nb ≠ g := by have := S0.out.geAt 0 nb rfl; omega
 have Hop0 : Hid (s0.op = 0) := by show _ = _; rw [hs0]
 have HLb : Hid (len ≤ 1000000) := hLb
 have HBe : Hid _ := hbe
 clear hs0 hLb hbe
 have Q0 : Hid _ := rgword_any (show Hid (Gm W g a len cap ts (s0)) from S0.out.gm) [115,121,110,116,97,120] (show byts _ by unfold byts; decide)
 rw [hd,gword_off _ _ _ hd] at Q0
 unfold RU
 conv => arg 2; whnf
 go_wp2_with fail
 refine Calls.mono Q0.out ?_
 rintro e w1 ⟨rfl,hgw1,Hw1⟩
 have S1 : Hid (Sx w g a len cap ts w.heap.size (.slice none 0 0) [] w1 (s0) [(nb,#[.int .i64 1,.string { data := #[] },.int .i64 0,.int .i64 0,.int .i64 0,.int .i64 np,.string { data := #[] },.slice none 0 0])] (.slice none 0 0) [] []) := S0.out.call hgw1 Hw1
 clear hgw1 Hw1 Q0
 go_wp2
 rename_i K hK
 refine wp_asT (g := g) (rb := rb) (nb := nb) (a := a) (len := len) (cap := cap) (pk := 0) _ rfl rfl ?_
 intro us2
 exact tk_rest0 (u := u) (w := w) (X := { data := #[] }) (tx := []) HSim S1.out HRb.out hrb hrg HBe.out HE.out HLb.out Hnp.out rfl ⟨fun c hc => by simp at hc,by simp⟩ Hop0.out us2 HMM.out _ (fun a9 W9 h9 => by simp only [Exit.inBlock,if_true,Exit.then]; exact hK _ _ h9)

theorem lown_len (s : List Int) (frm to : Nat) (t : List Int) (h : lown s frm to = some t) : t.length + frm ≤ to := by
 unfold lown at h
 simp only at h
 have := lrun_ge lblank s to (to - frm) frm
 by_cases k : lrun lblank s to (to - frm) frm + 2 ≤ to ∧ s.getD (lrun lblank s to (to - frm) frm) 0 = 47 ∧ s.getD (lrun lblank s to (to - frm) frm + 1) 0 = 47
 ·rw [if_pos k] at h
  simp only [Option.some.injEq] at h
  rw [← h]
  simp only [List.length_drop,List.length_take]
  omega
 ·rw [if_neg k] at h; simp at h

set_option maxHeartbeats 2000000 in
theorem rdoc_any {w : World} {a : Option Addr} {len cap : Nat} {ms : List Nat} (s : List Int) (k : Nat) (hI : Hid (Is w a len cap ms)) (hz : Hid (∀ i,0 ≤ s.getD i 0 ∧ s.getD i 0 ≤ 255)) (hlen : (s.length : Int) ≤ 100000) (hk : k ≤ s.length) (hl6 : len ≤ 1000000) (HM : Hid (∀ i,ms.getD i 0 ≤ 1000000)) :
  Calls Tryz.prog 30 #[.string (strOfNums s),.int .i64 (k : Int),.slice a len cap] w fun e w' => e = .returned (.string (strOfNums (ldoc s k ms))) ∧ w = w' := by
 have hsz := strOfNums_size s
 have HA : Hid (∀ k,(h : k < s.length) → (((strOfNums s)[k]'(by rw [hsz]; exact h)).toNat : Int) = s.getD k 0) := fun k h => str_at s hz.out k _
 have HLN : Hid (∀ j W,j ≤ s.length → Calls Tryz.prog 54 #[.string (strOfNums s),.int .i64 (j : Int)] W fun e w' => e = .returned (.int .i64 ((lnAt s j : Nat) : Int)) ∧ W = w') := fun j W hj => rlineAt_any s j W hz (by omega) hj
 have HOW : Hid (∀ f t W,f ≤ t → t ≤ s.length → Calls Tryz.prog 55 #[.string (strOfNums s),.int .i64 (f : Int),.int .i64 (t : Int)] W fun e w' => e = .returned (.tuple #[.string (strOfNums ((lown s f t).getD [])),.bool (lown s f t).isSome]) ∧ W = w') := fun f t W h1 h2 => rown_any s f t W hz (by omega) h1 h2
 have HIN : Hid (∀ j,j ≤ s.length → Calls Tryz.prog 56 #[.slice a len cap,.int .i64 (j : Int)] w fun e w' => e = .returned (.bool (linside ms j)) ∧ w = w') := fun j hj => rinside_any hI j hl6 (by omega) HM
 obtain ⟨R,hR⟩ : ∃ R,R = ldoc s k ms := ⟨_,rfl⟩
 rw [← hR]
 have HR : Hid (R = ldoc s k ms) := hR
 clear hR
 have hfk := lnAt_le s k
 obtain ⟨F,hF⟩ : ∃ F,F = lnAt s k := ⟨_,rfl⟩
 have q := fun W => HLN.out k W hk
 rw [← hF] at hfk q
 have HF : Hid (F = lnAt s k) := hF
 have Q : Hid _ := q
 clear hF q
 generalize strOfNums s = S at hsz HA HLN HOW Q
 go_enter Tryz.func30,Tryz.ntmps30
 go_wp2_with fail
 refine Calls.mono (Q.out _) ?_
 rintro e w1 ⟨rfl,rfl⟩
 go_wp2
 go_loopw [8] (fun v wr => ∃ j : Nat,v = .int .i64 (j : Int) ∧ F ≤ j ∧ j ≤ k ∧ Hid (lrun lblank s k (k - F) F = lrun lblank s k (k - j) j) ∧ w = wr) (fun v _ => k - (intOf v).toNat)
 case atStart => exact ⟨F,rfl,by omega,hfk,rfl,rfl⟩
 case round =>
  obtain ⟨j,rfl,hFj,hjk,HQ,rfl⟩ := hrel
  by_cases hj : j < k
  ·have hat := HA.out j (by omega)
   obtain ⟨c,hc⟩ : ∃ c,c = s.getD j 0 := ⟨_,rfl⟩
   have hcb := hz.out j
   have HQ' := HQ.out
   obtain ⟨m,hm⟩ : ∃ m,k - j = m + 1 := ⟨k - j - 1,by omega⟩
   rw [hm,lrun,show m = k - (j + 1) by omega] at HQ'
   rw [← hc] at hat hcb HQ'
   obtain ⟨c0,c255⟩ := hcb
   clear hc hm HQ
   have q := fun W => rblank_any c W c0 c255
   by_cases hbl : lblank c = true
   ·rw [if_pos ⟨hj,hbl⟩] at HQ'
    rw [hbl] at q
    have HE : Hid _ := HQ'
    have QB : Hid _ := q
    clear HQ' q hbl
    go_wp2_with fail
    refine Calls.mono (QB.out _) ?_
    rintro e w1 ⟨rfl,rfl⟩
    go_wp2
    go_roundw
    case rel => first | exact ⟨j + 1,by go_num,by omega,by omega,HE,by first | rfl | trivial⟩ | ((repeat apply Exists.intro); exact ⟨⟨j + 1,by go_num,by omega,by omega,HE,by first | rfl | trivial⟩,rfl⟩)
    case measure => simp [intOf]; omega
   ·have hbl' : lblank c = false := by simpa using hbl
    rw [if_neg (fun h => hbl h.2)] at HQ'
    have E : Hid (R = []) := by
     show _ = _
     rw [HR.out,ldoc,← HF.out,HQ',if_neg (by omega)]
    rw [hbl'] at q
    have QB : Hid _ := q
    clear HQ' q hbl hbl'
    go_wp2_with fail
    refine Calls.mono (QB.out _) ?_
    rintro e w1 ⟨rfl,rfl⟩
    go_wp2
    go_ret
    exact ⟨by rw [E.out]; rfl,rfl⟩
  ·obtain rfl : j = k := by omega
   have HE : Hid (R = ldl s ms F F []) := by
    show _ = _
    have := HQ.out
    rw [Nat.sub_self,lrun] at this
    rw [HR.out,ldoc,← HF.out,this,if_pos rfl]
   clear HQ HR
   go_wp2
   go_loopw [7,9] (fun v o wr => ∃ (n f : Nat) (out : List Int),v = .int .i64 (n : Int) ∧ o = .string (strOfNums out) ∧ n ≤ f ∧ n ≤ j ∧ out.length + n ≤ s.length ∧ Hid (R = ldl s ms f n out) ∧ w = wr) (fun v _ _ => (intOf v).toNat)
   case atStart => exact ⟨F,F,[],rfl,rfl,by omega,by omega,by simp; omega,HE,rfl⟩
   case round =>
    obtain ⟨n,f,out,rfl,rfl,hnf,hnj,hol,HQ,rfl⟩ := hrel
    clear HE
    by_cases hn : n = 0
    ·subst hn
     have E : Hid (R = out) := by
      show _ = _
      rw [HQ.out]
      cases f with
      | zero => rfl
      | succ f => rw [ldl,if_pos rfl]
     clear HQ
     rw [show (((0 : Nat)) : Int) = 0 from rfl]
     go_wp2
     go_ret
     exact ⟨by rw [E.out]; rfl,rfl⟩
    ·obtain ⟨m,rfl⟩ : ∃ m,n = m + 1 := ⟨n - 1,by omega⟩
     obtain ⟨g,rfl⟩ : ∃ g,f = g + 1 := ⟨f - 1,by omega⟩
     have HQ' := HQ.out
     rw [ldl,if_neg (by omega),show m + 1 - 1 = m by omega] at HQ'
     have hpm := lnAt_le s m
     obtain ⟨p,hp⟩ : ∃ p,p = lnAt s m := ⟨_,rfl⟩
     have q1 := fun W => HLN.out m W (by omega)
     have q2 := fun W => HOW.out p m W (by omega) (by omega)
     have q3 := HIN.out p (by omega)
     have q4 := HIN.out m (by omega)
     rw [← hp] at hpm q1 HQ'
     clear hp HQ
     have Q1 : Hid _ := q1
     clear q1
     rw [show (((m + 1 : Nat)) : Int) = (m : Int) + 1 by omega]
     have hm0 : (0 : Int) < (m : Int) + 1 := by omega
     cases ho : lown s p m with
     | none =>
      rw [ho] at q2 HQ'
      have E : Hid (R = out) := HQ'
      have Q2 : Hid _ := q2
      clear q2 q3 q4 HQ' ho
      go_wp2_with fail
      refine Calls.mono (Q1.out _) ?_
      rintro e w1 ⟨rfl,rfl⟩
      go_wp2_with fail
      refine Calls.mono (Q2.out _) ?_
      rintro e w1 ⟨rfl,rfl⟩
      go_wp2
      go_ret
      exact ⟨by rw [E.out]; rfl,rfl⟩
     | some t =>
      have htl := lown_len s p m t ho
      rw [ho] at q2 HQ'
      have Q2 : Hid _ := q2
      clear q2
      simp only at HQ'
      cases h3 : linside ms p with
      | true =>
       rw [h3] at q3 HQ'
       have E : Hid (R = out) := by show _ = _; simpa using HQ'
       have Q3 : Hid _ := q3
       clear q3 q4 HQ' ho h3
       go_wp2_with fail
       refine Calls.mono (Q1.out _) ?_
       rintro e w1 ⟨rfl,rfl⟩
       go_wp2_with fail
       refine Calls.mono (Q2.out _) ?_
       rintro e w1 ⟨rfl,rfl⟩
       go_wp2_with fail
       refine Calls.mono Q3.out ?_
       rintro e w1 ⟨rfl,rfl⟩
       go_wp2
       go_ret
       exact ⟨by rw [E.out]; rfl,rfl⟩
      | false =>
       rw [h3] at q3 HQ'
       have Q3 : Hid _ := q3
       cases h4 : linside ms m with
       | true =>
        rw [h4] at q4 HQ'
        have E : Hid (R = out) := by show _ = _; simpa using HQ'
        have Q4 : Hid _ := q4
        clear q3 q4 HQ' ho h3 h4
        go_wp2_with fail
        refine Calls.mono (Q1.out _) ?_
        rintro e w1 ⟨rfl,rfl⟩
        go_wp2_with fail
        refine Calls.mono (Q2.out _) ?_
        rintro e w1 ⟨rfl,rfl⟩
        go_wp2_with fail
        refine Calls.mono Q3.out ?_
        rintro e w1 ⟨rfl,rfl⟩
        go_wp2_with fail
        refine Calls.mono Q4.out ?_
        rintro e w1 ⟨rfl,rfl⟩
        go_wp2
        go_ret
        exact ⟨by rw [E.out]; rfl,rfl⟩
       | false =>
        rw [h4] at q4 HQ'
        have E : Hid (R = ldl s ms g p (t ++ [10] ++ out)) := by show _ = _; simpa using HQ'
        have Q4 : Hid _ := q4
        clear q3 q4 HQ' ho h3 h4
        have a1 : ∀ W,(Op.stringOp .add (strOfNums t) { data := #[10] }).run Tryz.prog W = .ok (.string (strOfNums (t ++ [10]))) W := fun W => run_add W t [10] (by simp only [List.length_cons,List.length_nil]; omega)
        have a2 : ∀ W,(Op.stringOp .add (strOfNums (t ++ [10])) (strOfNums out)).run Tryz.prog W = .ok (.string (strOfNums (t ++ [10] ++ out))) W := fun W => run_add W (t ++ [10]) out (by simp only [List.length_append,List.length_cons,List.length_nil]; omega)
        go_wp2_with fail
        refine Calls.mono (Q1.out _) ?_
        rintro e w1 ⟨rfl,rfl⟩
        go_wp2_with fail
        refine Calls.mono (Q2.out _) ?_
        rintro e w1 ⟨rfl,rfl⟩
        rw [Option.getD_some]
        go_wp2_with fail
        refine Calls.mono Q3.out ?_
        rintro e w1 ⟨rfl,rfl⟩
        go_wp2_with fail
        refine Calls.mono Q4.out ?_
        rintro e w1 ⟨rfl,rfl⟩
        go_wp2
        go_roundw
        case rel => exact ⟨p,g,t ++ [10] ++ out,rfl,by simp,by omega,by omega,by simp only [List.length_append,List.length_cons,List.length_nil]; omega,E,by first | rfl | trivial⟩
        case measure => simp [intOf]; omega

end Go.Proofs.YtlekfcehmlepkaaGreatDoor

namespace Go.Proofs.YtlekfcehmlepkaaGreatDoor
set_option linter.unusedSimpArgs false

def lclo : List Int → Option (List Int)
 | [] => none
 | c :: r => match r with
  | [] => none
  | d :: q => if c = 42 ∧ d = 47 then some q else lclo r

abbrev Co := Int × List Int × Int

def lco : Nat → List Int → Option (List Co)
 | 0,_ => none
 | f + 1,s => match s.dropWhile lblank with
  | [] => some []
  | c :: r =>
   if c = 47 ∧ r.head? = some 47 then lco f (r.dropWhile leol)
   else if c = 47 ∧ r.head? = some 42 then (lclo (r.drop 1)).bind (lco f)
   else if lletter c = true then
    (if lnumb c = true then (if (qnum ((c :: r).takeWhile lletter)).2 = true then (lco f ((c :: r).dropWhile lletter)).map ((2,[],(qnum ((c :: r).takeWhile lletter)).1) :: ·) else none)
     else (lco f ((c :: r).dropWhile lletter)).map ((1,(c :: r).takeWhile lletter,0) :: ·))
   else if c = 34 ∨ c = 39 then
    (if (qtake (c :: r)).2.2 = 0 then (lco f ((c :: r).drop (qtake (c :: r)).2.1.toNat)).map ((3,(qtake (c :: r)).1,0) :: ·) else none)
   else if lsign c = true then (lco f r).map ((4,[c],0) :: ·)
   else none

theorem qrn_app (base : Int) : ∀ (f : Nat) (s y : List Int) (n : Int),(qrn base f s n).2 = f ∨ (qrn base f s n).2 < s.length → qrn base f (s ++ y) n = qrn base f s n
 | 0,s,y,n,_ => rfl
 | f + 1,[],y,n,h => by simp [qrn] at h
 | f + 1,c :: r,y,n,h => by
  rw [List.cons_append,qrn,qrn]
  rw [qrn] at h
  by_cases k : dgt c < base
  ·rw [if_pos k] at h ⊢
   rw [if_pos k]
   rw [qrn_app base f r y _ (by simp only [List.length_cons] at h; omega)]
  ·rw [if_neg k,if_neg k]

theorem qesc_app (s y : List Int) (h0 : (qesc s).2 ≠ 0) (h1 : (qesc s).2 < s.length) : qesc (s ++ y) = qesc s := by
 cases s with
 | nil => simp at h1
 | cons c r =>
  revert h0 h1
  rw [List.cons_append,qesc,qesc]
  by_cases k0 : c = 97
  ·rw [if_pos k0,if_pos k0]; intros; rfl
  rw [if_neg k0,if_neg k0]
  by_cases k1 : c = 98
  ·rw [if_pos k1,if_pos k1]; intros; rfl
  rw [if_neg k1,if_neg k1]
  by_cases k2 : c = 102
  ·rw [if_pos k2,if_pos k2]; intros; rfl
  rw [if_neg k2,if_neg k2]
  by_cases k3 : c = 110
  ·rw [if_pos k3,if_pos k3]; intros; rfl
  rw [if_neg k3,if_neg k3]
  by_cases k4 : c = 114
  ·rw [if_pos k4,if_pos k4]; intros; rfl
  rw [if_neg k4,if_neg k4]
  by_cases k5 : c = 116
  ·rw [if_pos k5,if_pos k5]; intros; rfl
  rw [if_neg k5,if_neg k5]
  by_cases k6 : c = 118
  ·rw [if_pos k6,if_pos k6]; intros; rfl
  rw [if_neg k6,if_neg k6]
  by_cases k7 : c = 92 ∨ c = 39 ∨ c = 34 ∨ c = 63
  ·rw [if_pos k7,if_pos k7]; intros; rfl
  rw [if_neg k7,if_neg k7]
  by_cases m0 : c = 120 ∨ c = 88
  ·rw [if_pos m0,if_pos m0]
   intro h0 h1
   by_cases j : 0 < (qrn 16 2 r 0).2
   ·rw [if_pos j] at h1
    rw [qrn_app 16 2 r y 0 (by simp only [List.length_cons] at h1; omega)]
   ·rw [if_neg j] at h0; exact absurd rfl h0
  rw [if_neg m0,if_neg m0]
  by_cases m1 : c = 117
  ·rw [if_pos m1,if_pos m1]
   intro h0 h1
   by_cases j : (qrn 16 4 r 0).2 = 4 ∧ isCh (qrn 16 4 r 0).1 = true
   ·rw [qrn_app 16 4 r y 0 (.inl j.1)]
   ·rw [if_neg j] at h0; exact absurd rfl h0
  rw [if_neg m1,if_neg m1]
  by_cases m2 : c = 85
  ·rw [if_pos m2,if_pos m2]
   intro h0 h1
   by_cases j : (qrn 16 8 r 0).2 = 8 ∧ isCh (qrn 16 8 r 0).1 = true
   ·rw [qrn_app 16 8 r y 0 (.inl j.1)]
   ·rw [if_neg j] at h0; exact absurd rfl h0
  rw [if_neg m2,if_neg m2]
  intro h0 h1
  by_cases j : 0 < (qrn 8 3 (c :: r) 0).2 ∧ (qrn 8 3 (c :: r) 0).1 < 256
  ·rw [if_pos j] at h1
   have := qrn_app 8 3 (c :: r) y 0 (.inr h1)
   rw [List.cons_append] at this
   rw [this]
  ·rw [if_neg j] at h0; exact absurd rfl h0

theorem qtk_app (q : Int) : ∀ (f g : Nat) (s y : List Int) (i : Int) (o : List Int),s.length ≤ f → (s ++ y).length ≤ g → (qtk q f s i o).2.2 = 0 →
  qtk q g (s ++ y) i o = qtk q f s i o ∧ i + 1 ≤ (qtk q f s i o).2.1 ∧ (qtk q f s i o).2.1 ≤ i + s.length
 | 0,g,s,y,i,o,h1,_,h => by simp [qtk] at h
 | f + 1,g,[],y,i,o,h1,_,h => by simp [qtk] at h
 | f + 1,0,c :: r,y,i,o,h1,h2,h => by simp at h2
 | f + 1,g + 1,c :: r,y,i,o,h1,h2,h => by
  simp only [List.cons_append,List.length_cons] at h1 h2
  rw [List.cons_append,qtk,qtk]
  rw [qtk] at h
  by_cases k1 : c = q
  ·simp only [if_pos k1,List.length_cons,true_and]
   omega
  simp only [if_neg k1] at h ⊢
  by_cases k2 : c = 0 ∨ c = 10
  ·simp [if_pos k2] at h
  simp only [if_neg k2] at h ⊢
  by_cases k3 : c = 92
  ·simp only [if_pos k3] at h ⊢
   by_cases k4 : (qesc r).2 = 0
   ·simp [if_pos k4] at h
   ·simp only [if_neg k4] at h
    have hle := (qesc_le r).1
    by_cases k5 : (qesc r).2 < r.length
    ·rw [qesc_app r y k4 k5]
     simp only [if_neg k4]
     have e : (r ++ y).drop (qesc r).2 = r.drop (qesc r).2 ++ y := by rw [List.drop_append_of_le_length (by omega)]
     rw [e]
     have := qtk_app q f g (r.drop (qesc r).2) y (i + 1 + (qesc r).2) (o ++ (qesc r).1) (by simp only [List.length_drop]; omega) (by simp only [List.length_append,List.length_drop] at h2 ⊢; omega) h
     refine ⟨this.1,?_⟩
     have h3 := this.2
     simp only [List.length_drop,List.length_cons] at h3 ⊢
     omega
    ·rw [List.drop_eq_nil_of_le (by omega)] at h
     cases f <;> simp [qtk] at h
  ·simp only [if_neg k3] at h ⊢
   have := qtk_app q f g r y (i + 1) (o ++ [c]) (by omega) (by omega) h
   refine ⟨this.1,?_⟩
   have h3 := this.2
   simp only [List.length_cons]
   omega

theorem qtake_app (s y : List Int) (h : (qtake s).2.2 = 0) : qtake (s ++ y) = qtake s ∧ 2 ≤ (qtake s).2.1 ∧ (qtake s).2.1 ≤ s.length := by
 cases s with
 | nil => simp [qtake] at h
 | cons c r =>
  rw [List.cons_append,qtake,qtake]
  rw [qtake] at h
  by_cases k : c = 34 ∨ c = 39
  ·simp only [if_pos k] at h ⊢
   have := qtk_app c r.length (r ++ y).length r y 1 [] (Nat.le_refl _) (Nat.le_refl _) h
   refine ⟨this.1,?_⟩
   have h3 := this.2
   simp only [List.length_cons]
   omega
  ·simp [if_neg k] at h

end Go.Proofs.YtlekfcehmlepkaaGreatDoor
