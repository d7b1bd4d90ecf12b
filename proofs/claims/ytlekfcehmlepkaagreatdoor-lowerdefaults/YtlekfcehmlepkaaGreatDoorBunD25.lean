/- Put together by a program out of these texts of mine: GMo, SSim, SOpts, STail. -/
import Derived.Deep.RegionLaw
import Derived.Test.YtlekfcehmlepkaaGreatDoorBunD23
import Derived.Test.YtlekfcehmlepkaaGreatDoorBunD24

namespace Go.Proofs.YtlekfcehmlepkaaGreatDoor
set_option linter.unusedSimpArgs false
set_option linter.unusedVariables false

structure Mo (s s' : Gs) (k : Nat) (o : Int) : Prop where
 op : s'.op = s.op + o
 e : s'.e = 0 → s.e = 0 ∧ s.i + k ≤ s'.i

def Ends (ts : List Tq) : Prop := (ts.getD (ts.length - 1) Tq.none).kind = 0

theorem Mo.refl (s : Gs) : Mo s s 0 0 := ⟨by omega,fun h => ⟨h,by omega⟩⟩

theorem Mo.trans {s s1 s2 : Gs} {k k' : Nat} {o o' : Int} (h : Mo s s1 k o) (g : Mo s1 s2 k' o') : Mo s s2 (k + k') (o + o') :=
 ⟨by rw [g.op,h.op]; omega,fun e => by obtain ⟨a,b⟩ := g.e e; obtain ⟨c,d⟩ := h.e a; exact ⟨c,by omega⟩⟩

theorem Mo.weak {s s1 : Gs} {k k' : Nat} {o o' : Int} (h : Mo s s1 k o) (hk : k' ≤ k) (ho : o = o') : Mo s s1 k' o' := by
 subst ho; exact ⟨h.op,fun e => by obtain ⟨a,b⟩ := h.e e; exact ⟨a,by omega⟩⟩

theorem mfail (ts : List Tq) (c : Int) (hc : c ≠ 0) (s : Gs) (k : Nat) : Mo s (gfail ts c s) k 0 := by
 unfold gfail
 split
 ·exact ⟨by simp,fun e => absurd e hc⟩
 ·rename_i h; exact ⟨by omega,fun e => absurd e h⟩

theorem mif (ts : List Tq) (c : Prop) [Decidable c] (s : Gs) : Mo s (if c then gfail ts 80 s else s) 0 0 := by
 by_cases h : c
 ·rw [if_pos h]; exact mfail ts 80 (by decide) s 0
 ·rw [if_neg h]; exact Mo.refl s

theorem mback (ts : List Tq) (s s1 : Gs) (i : Nat) {k : Nat} {o : Int} (h : Mo s s1 k o) (k' : Nat) : Mo s (gfail ts 80 { s1 with i := i }) k' o :=
 ⟨by rw [(mfail ts 80 (by decide) { s1 with i := i } 0).op]; simp only; rw [h.op]; omega,fun e => by
  unfold gfail at e
  split at e
  ·simp at e
  ·rename_i h1; exact absurd e h1⟩

theorem mnext0 (ts : List Tq) (s : Gs) : Mo s (gnext ts s) 0 0 := by
 unfold gnext
 split
 ·exact ⟨by simp,fun h => ⟨h,by simp⟩⟩
 ·exact Mo.refl s

theorem mnext {ts : List Tq} (he : Ends ts) {s : Gs} (hk : (gnow ts s).kind ≠ 0) : Mo s (gnext ts s) 1 0 := by
 unfold gnext
 split
 ·exact ⟨by simp,fun h => ⟨h,by simp⟩⟩
 ·rename_i hn
  refine ⟨by omega,fun h => ?_⟩
  exfalso
  apply hk
  have hi : ts.length ≤ s.i + 1 := by
   by_cases hc : s.i + 1 < ts.length
   ·exact absurd ⟨h,hc⟩ hn
   ·omega
  unfold gnow
  by_cases h2 : s.i < ts.length
  ·rw [show s.i = ts.length - 1 by omega]; exact he
  ·rw [List.getD,List.getElem?_eq_none (by omega)]; rfl

theorem mis {ts : List Tq} {t : List Int} {s : Gs} (h : gis ts t s = true) : s.e = 0 ∧ (gnow ts s).kind ≠ 0 := by
 unfold gis at h
 simp only [decide_eq_true_eq] at h
 exact ⟨h.1,by rw [h.2.1]; decide⟩

theorem misw {ts : List Tq} {t : List Int} {s : Gs} (h : gisw ts t s = true) : s.e = 0 ∧ (gnow ts s).kind ≠ 0 := by
 unfold gisw at h
 simp only [decide_eq_true_eq] at h
 exact ⟨h.1,by rw [h.2.1]; decide⟩

theorem msign (ts : List Tq) (t : List Int) (s : Gs) : Mo s (gsign ts t s) 0 0 := by
 unfold gsign
 split
 ·exact mnext0 ts s
 ·exact Mo.refl s

theorem mword (ts : List Tq) (t : List Int) (s : Gs) : Mo s (gword ts t s) 0 0 := by
 unfold gword
 split
 ·exact mnext0 ts s
 ·exact Mo.refl s

theorem mwant {ts : List Tq} (he : Ends ts) (t : List Int) (s : Gs) : Mo s (gwant ts t s) 1 0 := by
 unfold gwant
 split
 ·rename_i h; exact mnext he (mis h).2
 ·exact mfail ts 80 (by decide) s 1

theorem mmade (ts : List Tq) (k : Int) (s : Gs) : Mo s (gmade ts k s) 0 0 := by
 unfold gmade
 simp only
 have h0 : Mo s { s with n := w64 (s.n + 1) } 0 0 := ⟨by simp,fun h => ⟨h,by simp⟩⟩
 split
 ·have h1 := h0.trans (mfail ts 80 (by decide) { s with n := w64 (s.n + 1) } 0)
  exact Mo.weak h1 (by omega) (by omega)
 ·exact h0

theorem mtok {ts : List Tq} (he : Ends ts) (s : Gs) (c : Prop) [Decidable c] (hc : ¬ c → (gnow ts s).kind ≠ 0) : Mo s (gnext ts (if c then gfail ts 80 s else s)) 1 0 := by
 by_cases h : c
 ·rw [if_pos h]
  exact ((mfail ts 80 (by decide) s 1).trans (mnext0 ts _)).weak (by omega) (by omega)
 ·rw [if_neg h]
  exact mnext he (hc h)

theorem mname {ts : List Tq} (he : Ends ts) (s : Gs) : Mo s (gnameS ts s) 1 0 := by
 unfold gnameS
 exact mtok he s _ (fun h e => h (.inl (by rw [e]; decide)))

theorem mtext {ts : List Tq} (he : Ends ts) (m : Int) (s : Gs) : Mo s (gtextS ts m s) 1 0 := by
 unfold gtextS
 exact mtok he s _ (fun h e => h (.inl (by rw [e]; decide)))

theorem mint {ts : List Tq} (he : Ends ts) (m : Int) (s : Gs) : Mo s (gintS ts m s) 1 0 := by
 unfold gintS
 exact mtok he s _ (fun h e => h (.inl (by rw [e]; decide)))

theorem mfl {ts : List Tq} (he : Ends ts) : ∀ (f : Nat) (s : Gs) (r : List Int),Mo s (gfl ts f s r).2 0 0
 | 0,s,r => Mo.refl s
 | f + 1,s,r => by
  rw [gfl]
  split
  ·exact ((mnext0 ts s).trans ((mname he _).trans (mfl he f _ _))).weak (by omega) (by omega)
  ·exact Mo.refl s

theorem mfull {ts : List Tq} (he : Ends ts) (b : Bool) (s : Gs) : Mo s (gfull ts b s).2 1 0 := by
 unfold gfull
 simp only
 have h0 : Mo s (if (b && gis ts [46] s) = true then gnext ts s else s) 0 0 := by
  split
  ·exact mnext0 ts s
  ·exact Mo.refl s
 have h1 := h0.trans ((mname he _).trans (mfl he ts.length _ (gnow ts (if (b && gis ts [46] s) = true then gnext ts s else s)).text))
 generalize (if (b && gis ts [46] s) = true then gnext ts s else s) = s0 at h1 ⊢
 split
 ·exact (mback ts s _ _ h1 1).weak (by omega) (by omega)
 ·exact h1.weak (by omega) (by omega)

theorem mtyped {ts : List Tq} (he : Ends ts) (a b : Bool) (s : Gs) : Mo s (gtyped ts a b s).2 1 0 := by
 unfold gtyped
 simp only
 have h1 := (mmade ts 18 s).trans (mfull he true (gmade ts 18 s))
 split
 ·exact (mback ts s _ _ h1 1).weak (by omega) (by omega)
 ·exact h1.weak (by omega) (by omega)

theorem mbrace {ts : List Tq} (he : Ends ts) (s : Gs) : Mo s (gbrace ts s) 1 1 := by
 unfold gbrace
 simp only
 have h0 : Mo s (if gis ts [123] s = true ∧ s.op = 30 then gfail ts 81 s else s) 0 0 := by
  split
  ·exact mfail ts 81 (by decide) s 0
  ·exact Mo.refl s
 have h1 := h0.trans (mwant he [123] _)
 exact ⟨by simp only; rw [h1.op]; omega,fun e => by obtain ⟨x,y⟩ := h1.e e; exact ⟨x,by simp only; omega⟩⟩

theorem brace_deep (ts : List Tq) (s : Gs) (ho : s.op = 30) : (gbrace ts s).e ≠ 0 := by
 have hf : ∀ (c : Int) (s : Gs),c ≠ 0 → (gfail ts c s).e ≠ 0 := fun c s hc e => by
  unfold gfail at e
  split at e
  ·exact hc e
  ·rename_i h1; exact h1 e
 unfold gbrace
 show (gwant ts [123] (if gis ts [123] s = true ∧ s.op = 30 then gfail ts 81 s else s)).e ≠ 0
 by_cases h : gis ts [123] s = true
 ·rw [if_pos ⟨h,ho⟩]
  unfold gwant
  by_cases h2 : gis ts [123] (gfail ts 81 s) = true
  ·exact absurd (mis h2).1 (hf 81 s (by decide))
  ·rw [if_neg h2]; exact hf 80 _ (by decide)
 ·rw [if_neg (fun x => h x.1)]
  unfold gwant
  rw [if_neg h]
  exact hf 80 _ (by decide)

def Mf (f : Gs → Pn × Gs) (k : Nat) : Prop := ∀ s,Mo s (f s).2 k 0

theorem mworth0 {ts : List Tq} (he : Ends ts) {ag : Gs → Pn × Gs} (hag : Mf ag 0) : Mf (gworth0 ts ag) 0 := by
 intro s
 unfold gworth0
 simp only
 split
 ·exact hag s
 ·split
  ·exact ((mmade ts 21 s).trans (mname he _)).weak (by omega) (by omega)
  ·split
   ·exact ((mmade ts 22 s).trans (mtext he _ _)).weak (by omega) (by omega)
   ·have h2 := (mmade ts 20 s).trans (msign ts [45] _)
    by_cases hu : (gnow ts (gsign ts [45] (gmade ts 20 s))).kind = 2
    ·rw [if_pos hu]
     exact (h2.trans ((mif ts _ _).trans (mnext0 ts _))).weak (by omega) (by omega)
    ·rw [if_neg hu]
     exact (h2.trans (mfail ts 80 (by decide) _ 0)).weak (by omega) (by omega)

theorem mentryN {ts : List Tq} (he : Ends ts) (s : Gs) : Mo s (gentryN ts s).2 1 0 := by
 unfold gentryN
 split
 ·exact ((mnext0 ts s).trans ((mfull he true _).trans (mwant he [93] _))).weak (by omega) (by omega)
 ·exact mname he s

theorem mentryW {ts : List Tq} (he : Ends ts) {ag : Gs → Pn × Gs} (hag : Mf ag 0) : Mf (gentryW ts ag) 0 := by
 intro s
 unfold gentryW
 simp only
 split
 ·refine ((msign ts [58] s).trans (Mo.trans (k := 0) (o := 0) ?_ (mworth0 he hag _))).weak (by omega) (by omega)
  split
  ·exact mfail ts 80 (by decide) _ 0
  ·exact Mo.refl _
 ·exact ((msign ts [58] s).trans (hag _)).weak (by omega) (by omega)

theorem mentry {ts : List Tq} (he : Ends ts) {ag : Gs → Pn × Gs} (hag : Mf ag 0) : Mf (gentry ts ag) 1 := by
 intro s
 unfold gentry
 simp only
 refine ((mmade ts 24 s).trans ((mentryN he _).trans ((mentryW he hag _).trans (Mo.trans (k := 0) (o := 0) ?_ (Mo.refl _))))).weak (by omega) (by omega)
 split
 ·exact mnext0 ts _
 ·exact msign ts [59] _

theorem magl {ts : List Tq} (he : Ends ts) {ag : Gs → Pn × Gs} (hag : Mf ag 0) : ∀ (f : Nat) (s : Gs) (k : List Pn),Mo s (gagl ts ag f s k).2 0 0
 | 0,s,k => Mo.refl s
 | f + 1,s,k => by
  rw [gagl]
  split
  ·exact ((mentry he hag s).trans (magl he hag f _ _)).weak (by omega) (by omega)
  ·exact msign ts [125] s

theorem maggr {ts : List Tq} (he : Ends ts) : ∀ d : Nat,Mf (gaggr ts d) 0
 | 0 => fun s => Mo.refl s
 | d + 1 => fun s => by
  rw [gaggr]
  simp only
  have h := (mmade ts 23 s).trans ((mbrace he _).trans (magl he (maggr he d) (2 * ts.length + 2) _ []))
  exact ⟨by simp only; rw [h.op]; omega,fun e => by obtain ⟨x,y⟩ := h.e e; exact ⟨x,by simp only; omega⟩⟩

theorem mworth {ts : List Tq} (he : Ends ts) (d : Nat) : Mf (gworth ts d) 0 := mworth0 he (maggr he d)

theorem mpart {ts : List Tq} (he : Ends ts) : Mf (gpart ts) 1 := by
 intro s
 unfold gpart
 simp only
 split
 ·exact ((mmade ts 19 s).trans ((mnext0 ts _).trans ((mfull he true _).trans (mwant he [41] _)))).weak (by omega) (by omega)
 ·exact ((mmade ts 19 s).trans (mname he _)).weak (by omega) (by omega)

theorem mparts {ts : List Tq} (he : Ends ts) : ∀ (f : Nat) (s : Gs) (k : List Pn),Mo s (gparts ts f s k).2 0 0
 | 0,s,k => Mo.refl s
 | f + 1,s,k => by
  rw [gparts]
  split
  ·exact ((mpart he s).trans ((mnext0 ts _).trans (mparts he f _ _))).weak (by omega) (by omega)
  ·exact (mpart he s).weak (by omega) (by omega)

theorem mopt {ts : List Tq} (he : Ends ts) (d : Nat) (s : Gs) : Mo s (gopt ts d s).2 1 0 := by
 unfold gopt
 simp only
 exact ((mparts he _ s []).trans ((mwant he [61] _).trans (mworth he d _))).weak (by omega) (by omega)

theorem moption {ts : List Tq} (he : Ends ts) (d : Nat) : Mf (goption ts d) 1 := by
 intro s
 unfold goption
 simp only
 exact ((mmade ts 4 s).trans ((mnext0 ts _).trans ((mopt he d _).trans (mwant he [59] _)))).weak (by omega) (by omega)

theorem moptl {ts : List Tq} (he : Ends ts) (d : Nat) : ∀ (f : Nat) (s : Gs) (k : List Pn),Mo s (goptl ts d f s k).2 0 0
 | 0,s,k => Mo.refl s
 | f + 1,s,k => by
  rw [goptl]
  split
  ·exact ((mmade ts 4 s).trans ((mopt he d _).trans ((mnext0 ts _).trans (moptl he d f _ _)))).weak (by omega) (by omega)
  ·exact ((mmade ts 4 s).trans (mopt he d _)).weak (by omega) (by omega)

theorem mopts {ts : List Tq} (he : Ends ts) (d : Nat) (s : Gs) : Mo s (gopts ts d s).2 1 0 := by
 unfold gopts
 split
 ·exact ((mnext0 ts s).trans ((moptl he d _ _ []).trans ((mwant he [93] _).trans (mwant he [59] _)))).weak (by omega) (by omega)
 ·exact mwant he [59] s

theorem mtail {ts : List Tq} (he : Ends ts) (d : Nat) (s : Gs) : Mo s (gtail ts d s).2 1 0 := by
 unfold gtail
 simp only
 exact ((mname he s).trans ((mwant he [61] _).trans ((mint he _ _).trans (mopts he d _)))).weak (by omega) (by omega)

theorem mlabel (ts : List Tq) (b : Bool) (s : Gs) : Mo s (glabel ts b s).2 0 0 := by
 unfold glabel
 repeat' split
 all_goals first | exact mnext0 ts s | exact Mo.refl s

theorem mfield {ts : List Tq} (he : Ends ts) (d : Nat) (b : Bool) : Mf (gfield ts d b) 1 := by
 intro s
 unfold gfield
 simp only
 exact ((mmade ts 9 s).trans ((mlabel ts b _).trans ((mtyped he _ _ _).trans (mtail he d _)))).weak (by omega) (by omega)

theorem mmapped {ts : List Tq} (he : Ends ts) (d : Nat) : Mf (gmapped ts d) 1 := by
 intro s
 unfold gmapped
 simp only
 exact ((mmade ts 10 s).trans ((mnext0 ts _).trans ((mwant he [60] _).trans ((mtyped he _ _ _).trans ((mwant he [44] _).trans ((mtyped he _ _ _).trans ((mwant he [62] _).trans (mtail he d _)))))))).weak (by omega) (by omega)

theorem mvalue {ts : List Tq} (he : Ends ts) (d : Nat) : Mf (gvalue ts d) 1 := by
 intro s
 unfold gvalue
 simp only
 have h1 := (mmade ts 16 s).trans (mname he (gmade ts 16 s))
 have h2 : Mo s (if (gnow ts (gmade ts 16 s)).text = [114,101,115,101,114,118,101,100] ∧ (gnameS ts (gmade ts 16 s)).e = 0 then gfail ts 80 { gnameS ts (gmade ts 16 s) with i := (gmade ts 16 s).i } else gnameS ts (gmade ts 16 s)) 1 0 := by
  split
  ·exact (mback ts s _ _ h1 1).weak (by omega) (by omega)
  ·exact h1.weak (by omega) (by omega)
 exact (h2.trans ((mwant he [61] _).trans ((msign ts [45] _).trans ((mint he _ _).trans (mopts he d _))))).weak (by omega) (by omega)

theorem mrange {ts : List Tq} (he : Ends ts) : Mf (grange ts) 1 := by
 intro s
 unfold grange
 simp only
 have h := (mmade ts 14 s).trans (mint he 2147483647 (gmade ts 14 s))
 split
 ·split
  ·exact (h.trans ((mnext0 ts _).trans (mnext0 ts _))).weak (by omega) (by omega)
  ·exact (h.trans ((mnext0 ts _).trans (mint he _ _))).weak (by omega) (by omega)
 ·exact h.weak (by omega) (by omega)

theorem mrangel {ts : List Tq} (he : Ends ts) : ∀ (f : Nat) (s : Gs) (k : List Pn),Mo s (grangel ts f s k).2 0 0
 | 0,s,k => Mo.refl s
 | f + 1,s,k => by
  rw [grangel]
  split
  ·exact ((mrange he s).trans ((mnext0 ts _).trans (mrangel he f _ _))).weak (by omega) (by omega)
  ·exact (mrange he s).weak (by omega) (by omega)

theorem mranges {ts : List Tq} (he : Ends ts) (s : Gs) : Mo s (granges ts s).2 1 0 := by
 unfold granges
 simp only
 exact ((mrangel he _ s []).trans (mwant he [59] _)).weak (by omega) (by omega)

theorem mword1 {ts : List Tq} (he : Ends ts) : Mf (gword1 ts) 1 := by
 intro s
 unfold gword1
 simp only
 refine ((mmade ts 15 s).trans (Mo.trans (k := 0) (o := 0) ?_ (mtext he 1000 _))).weak (by omega) (by omega)
 split
 ·exact mfail ts 80 (by decide) _ 0
 ·exact Mo.refl _

theorem mwordl {ts : List Tq} (he : Ends ts) : ∀ (f : Nat) (s : Gs) (k : List Pn),Mo s (gwordl ts f s k).2 0 0
 | 0,s,k => Mo.refl s
 | f + 1,s,k => by
  rw [gwordl]
  split
  ·exact ((mword1 he s).trans ((mnext0 ts _).trans (mwordl he f _ _))).weak (by omega) (by omega)
  ·exact (mword1 he s).weak (by omega) (by omega)

theorem mreserved {ts : List Tq} (he : Ends ts) : Mf (greserved ts) 1 := by
 intro s
 unfold greserved
 simp only
 have h := (mmade ts 13 s).trans (mnext0 ts (gmade ts 13 s))
 split
 ·exact (h.trans (mranges he _)).weak (by omega) (by omega)
 ·exact (h.trans ((mwordl he _ _ []).trans (mwant he [59] _))).weak (by omega) (by omega)

def Mb (bd : Int → Gs → List Pn × Gs) : Prop := ∀ k s,Mo s (bd k s).2 0 0

theorem mstream {ts : List Tq} (he : Ends ts) (i : Int) (s : Gs) : Mo s (gstream ts i s).2 1 0 := by
 unfold gstream
 simp only
 have h0 : Mo s (if i = 2 ∧ gisw ts [114,101,116,117,114,110,115] s = false then gfail ts 80 s else if i = 2 then gnext ts s else s) 0 0 := by
  split
  ·exact mfail ts 80 (by decide) s 0
  ·split
   ·exact mnext0 ts s
   ·exact Mo.refl s
 exact (h0.trans ((mwant he [40] _).trans ((mword ts _ _).trans ((mtyped he _ _ _).trans (mwant he [41] _))))).weak (by omega) (by omega)

theorem mrpc {ts : List Tq} (he : Ends ts) {bd : Int → Gs → List Pn × Gs} (hb : Mb bd) : Mf (grpc ts bd) 1 := by
 intro s
 unfold grpc
 simp only
 have h := (mmade ts 17 s).trans ((mnext0 ts _).trans ((mname he _).trans ((mstream he 1 _).trans (mstream he 2 _))))
 split
 ·exact (h.trans (hb 17 _)).weak (by omega) (by omega)
 ·exact (h.trans (mwant he [59] _)).weak (by omega) (by omega)

theorem mnamed {ts : List Tq} (he : Ends ts) {bd : Int → Gs → List Pn × Gs} (hb : Mb bd) (k : Int) : Mf (gnamed ts bd k) 1 := by
 intro s
 unfold gnamed
 simp only
 exact ((mmade ts k s).trans ((mnext0 ts _).trans ((mname he _).trans (hb k _)))).weak (by omega) (by omega)

theorem mitem {ts : List Tq} (he : Ends ts) {bd : Int → Gs → List Pn × Gs} (hb : Mb bd) (d : Nat) : Mf (gitem ts bd d) 1 := by
 intro s
 unfold gitem
 split
 ·exact mnamed he hb 5 s
 split
 ·exact mnamed he hb 6 s
 split
 ·exact mnamed he hb 8 s
 split
 ·simp only
  have h := (mmade ts 7 s).trans ((mnext0 ts _).trans (mtyped he false true (gnext ts (gmade ts 7 s))))
  exact ((Mo.trans (k := 1) (o := 0) (s1 := { (gtyped ts false true (gnext ts (gmade ts 7 s))).2 with n := w64 ((gtyped ts false true (gnext ts (gmade ts 7 s))).2.n - 1) }) ⟨by simp only; rw [h.op]; omega,fun e => by obtain ⟨x,y⟩ := h.e e; exact ⟨x,by simp only; omega⟩⟩ (hb 7 _))).weak (by omega) (by omega)
 split
 ·exact moption he d s
 split
 ·simp only
  exact ((mmade ts 2 s).trans ((mnext0 ts _).trans ((mword ts _ _).trans ((mtext he _ _).trans (mwant he [59] _))))).weak (by omega) (by omega)
 split
 ·simp only
  exact ((mmade ts 3 s).trans ((mnext0 ts _).trans ((mfull he _ _).trans (mwant he [59] _)))).weak (by omega) (by omega)
 ·exact mfail ts 80 (by decide) s 1

theorem mite {s : Gs} {k : Nat} {o : Int} {c : Prop} [Decidable c] {x y : Pn × Gs} (h1 : Mo s x.2 k o) (h2 : Mo s y.2 k o) : Mo s (if c then x else y).2 k o := by
 by_cases h : c
 ·rw [if_pos h]; exact h1
 ·rw [if_neg h]; exact h2

theorem mwithin {ts : List Tq} (he : Ends ts) {bd : Int → Gs → List Pn × Gs} (hb : Mb bd) (d : Nat) (k : Int) : Mf (gwithin ts bd d k) 1 := by
 intro s
 unfold gwithin
 refine mite (moption he d s) (mite (mvalue he d s) (mite (mfield he d false s) (mite (mfield he d true s) (mite (mrpc he hb s) (mite (mfail ts 80 (by decide) s 1) (mite (mitem he hb d s) (mite (mnamed he hb 11 s) (mite (mmapped he d s) (mite ?_ (mite (mreserved he s) (mfield he d true s)))))))))))
 exact ((mmade ts 12 s).trans ((mnext0 ts _).trans (mranges he _))).weak (by omega) (by omega)

theorem mbl {ts : List Tq} (he : Ends ts) {wi : Gs → Pn × Gs} (hw : Mf wi 1) : ∀ (f : Nat) (s : Gs) (k : List Pn),Mo s (gbl ts wi f s k).2 0 0
 | 0,s,k => Mo.refl s
 | f + 1,s,k => by
  rw [gbl]
  split
  ·exact Mo.refl s
  split
  ·exact mnext0 ts s
  split
  ·exact ((mnext0 ts s).trans (mbl he hw f _ _)).weak (by omega) (by omega)
  ·exact ((hw s).trans (mbl he hw f _ _)).weak (by omega) (by omega)

theorem mbody {ts : List Tq} (he : Ends ts) : ∀ d : Nat,Mb (gbody ts d)
 | 0 => fun k s => Mo.refl s
 | d + 1 => fun k s => by
  rw [gbody]
  simp only
  have h := (mbrace he s).trans (mbl he (mwithin he (mbody he d) d k) (2 * ts.length + 2) _ [])
  exact ⟨by simp only; rw [h.op]; omega,fun e => by obtain ⟨x,y⟩ := h.e e; exact ⟨x,by simp only; omega⟩⟩

end Go.Proofs.YtlekfcehmlepkaaGreatDoor

namespace Go.Proofs.YtlekfcehmlepkaaGreatDoor
open Go.RowKit
set_option linter.unusedVariables false
set_option linter.unusedSimpArgs false

structure Sim (ts : List Tq) : Prop where
 br : ∀ s : Gs,gis ts [91] s = false
 w_option : ∀ s : Gs,gisw ts [111,112,116,105,111,110] s = false
 w_enum : ∀ s : Gs,gisw ts [101,110,117,109] s = false
 w_service : ∀ s : Gs,gisw ts [115,101,114,118,105,99,101] s = false
 w_extend : ∀ s : Gs,gisw ts [101,120,116,101,110,100] s = false
 w_oneof : ∀ s : Gs,gisw ts [111,110,101,111,102] s = false
 w_extensions : ∀ s : Gs,gisw ts [101,120,116,101,110,115,105,111,110,115] s = false
 w_reserved : ∀ s : Gs,gisw ts [114,101,115,101,114,118,101,100] s = false
 w_import : ∀ s : Gs,gisw ts [105,109,112,111,114,116] s = false
 w_package : ∀ s : Gs,gisw ts [112,97,99,107,97,103,101] s = false
 w_map : ∀ s : Gs,gisw ts [109,97,112] s = false
 w_syntax : ∀ s : Gs,gisw ts [115,121,110,116,97,120] s = false

def simb (t : Tq) : Bool := decide (t.kind = 4 ∧ t.text = [91]) || (decide (t.kind = 1) && (decide (t.text = [111,112,116,105,111,110]) || decide (t.text = [101,110,117,109]) || decide (t.text = [115,101,114,118,105,99,101]) || decide (t.text = [101,120,116,101,110,100]) || decide (t.text = [111,110,101,111,102]) || decide (t.text = [101,120,116,101,110,115,105,111,110,115]) || decide (t.text = [114,101,115,101,114,118,101,100]) || decide (t.text = [105,109,112,111,114,116]) || decide (t.text = [112,97,99,107,97,103,101]) || decide (t.text = [109,97,112]) || decide (t.text = [115,121,110,116,97,120])))

theorem Sim.of {ts : List Tq} (h : ts.all (fun t => !simb t) = true) : Sim ts := by
 have hn : ∀ s : Gs,simb (gnow ts s) = false := fun s => by
  unfold gnow
  rcases Nat.lt_or_ge s.i ts.length with hl | hl
  ·have h1 := List.all_eq_true.1 h _ (List.getElem_mem hl)
   rw [List.getD_eq_getElem?_getD,List.getElem?_eq_getElem hl]
   simpa using h1
  ·rw [List.getD_eq_getElem?_getD,List.getElem?_eq_none hl]
   rfl
 have hg : ∀ s : Gs,gis ts [91] s = false := fun s => by
  have := hn s
  unfold simb at this
  rw [Bool.or_eq_false_iff] at this
  exact decide_eq_false (fun h => of_decide_eq_false this.1 h.2)
 have hw : ∀ (s : Gs) (W : List Int),((gnow ts s).text = W → simb (gnow ts s) = true ∨ (gnow ts s).kind ≠ 1) → gisw ts W s = false := fun s W hW => by
  refine decide_eq_false (fun h => ?_)
  rcases hW h.2.2 with h1 | h1
  ·rw [hn s] at h1; cases h1
  ·exact h1 h.2.1
 have hk : ∀ (s : Gs) (W : List Int),(∀ t : Tq,t.kind = 1 → t.text = W → simb t = true) → gisw ts W s = false := fun s W hW => hw s W (fun h => by
  by_cases hk : (gnow ts s).kind = 1
  ·exact .inl (hW _ hk h)
  ·exact .inr hk)
 exact ⟨hg,fun s => hk s _ (fun t h1 h2 => by simp [simb,h1,h2]),fun s => hk s _ (fun t h1 h2 => by simp [simb,h1,h2]),fun s => hk s _ (fun t h1 h2 => by simp [simb,h1,h2]),fun s => hk s _ (fun t h1 h2 => by simp [simb,h1,h2]),fun s => hk s _ (fun t h1 h2 => by simp [simb,h1,h2]),fun s => hk s _ (fun t h1 h2 => by simp [simb,h1,h2]),fun s => hk s _ (fun t h1 h2 => by simp [simb,h1,h2]),fun s => hk s _ (fun t h1 h2 => by simp [simb,h1,h2]),fun s => hk s _ (fun t h1 h2 => by simp [simb,h1,h2]),fun s => hk s _ (fun t h1 h2 => by simp [simb,h1,h2]),fun s => hk s _ (fun t h1 h2 => by simp [simb,h1,h2])⟩

theorem b91 : byts [91] := by unfold byts; decide

theorem gopts_off (ts : List Tq) (d : Nat) (s : Gs) (h : gis ts [91] s = false) : gopts ts d s = ([],gwant ts [59] s) := by
 unfold gopts; rw [if_neg (by rw [h]; decide)]

theorem two_alloc {w : World} {g : Nat} {a : Option Addr} {len cap : Nat} {ts : List Tq} {s : Gs} {base : Nat} {v0 : Value} {ks0 : List Tn} (S : Sx w g a len cap ts base v0 ks0 w s [] v0 ks0 []) (c c' : Array Value) :
  Sx w g a len cap ts base v0 ks0 ((w.alloc (.cells c 28)).alloc (.cells c' 28)) s [(w.heap.size + 1,c'),(w.heap.size,c)] v0 ks0 [] := by
 have h := (S.alloc c).alloc c'
 rw [show (w.alloc (.cells c 28)).heap.size = w.heap.size + 1 by simp] at h
 exact h

theorem b59 : byts [59] := by unfold byts; decide

theorem b61 : byts [61] := by unfold byts; decide

theorem leaf_ok (w : World) {kind : Int} (hk : i64b kind) {text : List Int} (ht : byts text) (hl : text.length ≤ 100000) {pos : Int} (hp : i64b pos) : TnOk w (.mk kind text 0 0 0 pos [] none 0 []) :=
 .mk hk ht (by omega) (by unfold i64b; omega) (by unfold i64b; omega) (by unfold i64b; omega) hp (fun c hc => by simp at hc) (by simp) (by simp) (by simp) (fun _ => rfl) (fun h => absurd h (by simp)) (fun i t h => by simp at h)

def gmeas (len : Nat) (w : World) (g : Nat) : Nat := match w.cell? ⟨g,4,none⟩ with | some (.int _ n) => if n = 0 then 1 + (len - gpos w g) else 0 | _ => 0

def gmeas2 (len : Nat) (s : Gs) : Nat := if s.e = 0 then 1 + (len - s.i) else 0

theorem wrap_small {x : Int} (h0 : -1000000 ≤ x) (h1 : x ≤ 1000000) : IntKind.i64.wrap x = x := by
 simp [IntKind.wrap,IntKind.bits,IntKind.signed]; omega

theorem Gm.meas {w : World} {g : Nat} {a : Option Addr} {len cap : Nat} {ts : List Tq} {s : Gs} (h : Gm w g a len cap ts s) : gmeas len w g = gmeas2 len s := by
 unfold gmeas gmeas2
 rw [h.blk.cells.2.2.2.2.1,h.pos]

section
variable {w : World} {g : Nat} {a : Option Addr} {len cap : Nat} {ts : List Tq} {base : Nat} {v0 : Value} {ks0 : List Tn} {W : World} {s : Gs} {B : List (Nat × Array Value)} {v : Value} {ks us : List Tn}

theorem Sx.geAt (S : Sx w g a len cap ts base v0 ks0 W s B v ks us) (i b : Nat) {c : Array Value} (hi : B[i]? = some (b,c)) : w.heap.size ≤ b := (S.bl _ (List.mem_of_getElem? hi)).1

end

def pIn : Code → Code
 | .block _ c => c
 | .loop c => c
 | c => c

def pL : Code → Code
 | .seq a _ => a
 | c => c

def pR : Code → Code
 | .seq _ b => b
 | c => c

theorem eight_own (w : World) (b : Nat) (v0 v1 v2 v3 v4 v5 v6 v7 : Value) : w.grownBy ((((((((w.setCell ⟨b,0,none⟩ v0).setCell ⟨b,1,none⟩ v1).setCell ⟨b,2,none⟩ v2).setCell ⟨b,3,none⟩ v3).setCell ⟨b,4,none⟩ v4).setCell ⟨b,5,none⟩ v5).setCell ⟨b,6,none⟩ v6).setCell ⟨b,7,none⟩ v7) (some b) := by
 have h1 := grown_own (grown_of (Below.refl w.heap.size w)) (g := b) 0 v0
 have h2 := grown_own h1 1 v1
 have h3 := grown_own h2 2 v2
 have h4 := grown_own h3 3 v3
 have h5 := grown_own h4 4 v4
 have h6 := grown_own h5 5 v5
 have h7 := grown_own h6 6 v6
 exact grown_own h7 7 v7

set_option maxHeartbeats 8000000 in
theorem rgopts_any0 {w : World} {g : Nat} {a : Option Addr} {len cap : Nat} {ts : List Tq} {s : Gs} (H : Hid (Gm w g a len cap ts s)) (d : Nat) (hod : s.op + d = 31) (HW : Hid (Sim ts)) {base : Nat} (hgb : g < base) (hbw : base ≤ w.heap.size) {ad0 : Option Addr} {n0 c0 : Nat} {ks0 : List Tn} (HN : Hid (Ns w base (.slice ad0 n0 c0) ks0)) (hk0 : ks0.length ≤ 2) {nk nn nm na np : Int} {ntx ndc : List Int} (hnk : i64b nk) (hnn : i64b nn) (hnm : i64b nm) (hna : i64b na) (hnp : i64b np) (hnt : byts ntx ∧ ntx.length ≤ 100000) (hnd : byts ndc ∧ ndc.length ≤ 1000000) :
  Calls Tryz.prog 144 #[.pointer (some ⟨g,0,none⟩),.agg #[.int .i64 nk,.string (strOfNums ntx),.int .i64 nn,.int .i64 nm,.int .i64 na,.int .i64 np,.string (strOfNums ndc),.slice ad0 n0 c0]] w
   (NodeRet2 w g a len cap ts (.slice ad0 n0 c0) ks0 (.mk nk ntx nn nm na np ndc (plains ks0 ++ (gopts ts d s).1),(gopts ts d s).2)) := by
 have hg := H.out.blk.size
 have hL : ts.length = len := H.out.tok.1
 have hLb := H.out.tok.2.1
 have HE : Hid (Ends ts) := by show (ts.getD (ts.length - 1) Tq.none).kind = 0; rw [hL]; exact H.out.last
 obtain ⟨NX,hNX⟩ : ∃ NX,NX = strOfNums ntx := ⟨_,rfl⟩
 obtain ⟨ND,hND⟩ : ∃ ND,ND = strOfNums ndc := ⟨_,rfl⟩
 rw [← hNX,← hND]
 have HNX : Hid (NX = strOfNums ntx) := hNX
 have HND : Hid (ND = strOfNums ndc) := hND
 obtain ⟨D,hD⟩ : ∃ D,D = strOfNums [] := ⟨_,rfl⟩
 have HDD : Hid (D = strOfNums []) := hD
 clear hNX hND hD
 have HNk : Hid (i64b nk ∧ i64b nn ∧ i64b nm ∧ i64b na ∧ i64b np ∧ (byts ntx ∧ ntx.length ≤ 100000) ∧ byts ndc ∧ ndc.length ≤ 1000000) := ⟨hnk,hnn,hnm,hna,hnp,hnt,hnd⟩
 clear hnk hnn hnm hna hnp hnt hnd
 have S1 : Hid (Sx w g a len cap ts base (.slice ad0 n0 c0) ks0 ((w.alloc (.cells #[.int .i64 nk,.string NX,.int .i64 nn,.int .i64 nm,.int .i64 na,.int .i64 np,.string ND,.slice ad0 n0 c0] 28)).alloc (.cells #[.int .i64 0,.string { data := #[] },.int .i64 0,.int .i64 0,.int .i64 0,.int .i64 0,.string { data := #[] },.slice none 0 0] 28)) (s) [(w.heap.size + 1,#[.int .i64 0,.string { data := #[] },.int .i64 0,.int .i64 0,.int .i64 0,.int .i64 0,.string { data := #[] },.slice none 0 0]),(w.heap.size,#[.int .i64 nk,.string NX,.int .i64 nn,.int .i64 nm,.int .i64 na,.int .i64 np,.string ND,.slice ad0 n0 c0])] (.slice ad0 n0 c0) ks0 []) := two_alloc (Sx.start H.out hgb hbw HN.out) _ _
 have QS : Hid _ := rgsign_any (show Hid (Gm ((w.alloc (.cells #[.int .i64 nk,.string NX,.int .i64 nn,.int .i64 nm,.int .i64 na,.int .i64 np,.string ND,.slice ad0 n0 c0] 28)).alloc (.cells #[.int .i64 0,.string { data := #[] },.int .i64 0,.int .i64 0,.int .i64 0,.int .i64 0,.string { data := #[] },.slice none 0 0] 28)) g a len cap ts s) from S1.out.gm) [91] b91
 cases hd1 : gis ts [91] s with
 | false =>
  rw [gopts_off ts d s hd1]
  rw [hd1,gsign_off _ _ _ hd1] at QS
  go_enter Tryz.func144,Tryz.ntmps144
  go_wp2_with fail
  refine Calls.mono QS.out ?_
  rintro e w1 ⟨rfl,hg1,H1⟩
  have S2 : Hid (Sx w g a len cap ts base (.slice ad0 n0 c0) ks0 w1 (s) [(w.heap.size + 1,#[.int .i64 0,.string { data := #[] },.int .i64 0,.int .i64 0,.int .i64 0,.int .i64 0,.string { data := #[] },.slice none 0 0]),(w.heap.size,#[.int .i64 nk,.string NX,.int .i64 nn,.int .i64 nm,.int .i64 na,.int .i64 np,.string ND,.slice ad0 n0 c0])] (.slice ad0 n0 c0) ks0 []) := S1.out.call hg1 H1
  have QW : Hid _ := rgwant_any (show Hid (Gm w1 g a len cap ts s) from H1) [59] b59
  clear hg1 H1
  go_wp2_with fail
  refine Calls.mono QW.out ?_
  rintro e w2 ⟨rfl,hg2,H2⟩
  have S3 : Hid (Sx w g a len cap ts base (.slice ad0 n0 c0) ks0 w2 (gwant ts [59] s) [(w.heap.size + 1,#[.int .i64 0,.string { data := #[] },.int .i64 0,.int .i64 0,.int .i64 0,.int .i64 0,.string { data := #[] },.slice none 0 0]),(w.heap.size,#[.int .i64 nk,.string NX,.int .i64 nn,.int .i64 nm,.int .i64 na,.int .i64 np,.string ND,.slice ad0 n0 c0])] (.slice ad0 n0 c0) ks0 []) := S2.out.call hg2 H2
  clear hg2 H2
  obtain ⟨⟨i0,i1,i2,i3,i4,i5,i6,i7⟩,j0,j1,j2,j3,j4,j5,j6,j7⟩ := eight_cells (S3.out.eight 1 w.heap.size rfl)
  obtain ⟨⟨u0,u1,u2,u3,u4,u5,u6,u7⟩,t0,t1,t2,t3,t4,t5,t6,t7⟩ := eight_cells (S3.out.eight 0 (w.heap.size + 1) rfl)
  have hz1 : w.heap.size + 1 < w2.heap.size := S3.out.lt (w.heap.size + 1,_) (List.mem_cons_self ..)
  have hz2 : w.heap.size < w2.heap.size := by omega
  go_wp2
  obtain ⟨hk1,hk2,hk3,hk4,hk5,hk6,hk7⟩ := HNk.out
  obtain ⟨hn,S9⟩ := S3.out.close hk1 hk2 hk3 hk4 hk5 hk6 hk7
  refine S9.fin rfl 0 (w.heap.size + 1) (.int .i64 0) (.string { data := #[] }) (.int .i64 0) (.int .i64 0) (.int .i64 0) (.int .i64 0) (.string { data := #[] }) (.slice none 0 0) (.int .i64 nk) (.string NX) (.int .i64 nn) (.int .i64 nm) (.int .i64 na) (.int .i64 np) (.string ND) (.slice ad0 n0 c0) rfl rfl rfl ?_ ?_
  ·rw [Tn.cells,HNX.out,HND.out,hn]
  ·rw [Tn.plain,List.append_nil]
 | true =>
  rw [HW.out.br s] at hd1
  cases hd1

set_option maxHeartbeats 4000000 in
theorem rgtail_any0 {w : World} {g : Nat} {a : Option Addr} {len cap : Nat} {ts : List Tq} {s : Gs} (H : Hid (Gm w g a len cap ts s)) (d : Nat) (hod : s.op + d = 31) (HW : Hid (Sim ts)) {base : Nat} (hgb : g < base) (hbw : base ≤ w.heap.size) {ad0 : Option Addr} {n0 c0 : Nat} {ks0 : List Tn} (HN : Hid (Ns w base (.slice ad0 n0 c0) ks0)) (hk0 : ks0.length ≤ 2) {nk nn nm na np : Int} {ntx ndc : List Int} (hnk : i64b nk) (hnn : i64b nn) (hnm : i64b nm) (hna : i64b na) (hnp : i64b np) (hnt : byts ntx ∧ ntx.length ≤ 100000) (hnd : byts ndc ∧ ndc.length ≤ 1000000) :
  Calls Tryz.prog 176 #[.pointer (some ⟨g,0,none⟩),.agg #[.int .i64 nk,.string (strOfNums ntx),.int .i64 nn,.int .i64 nm,.int .i64 na,.int .i64 np,.string (strOfNums ndc),.slice ad0 n0 c0]] w
   (NodeRet2 w g a len cap ts (.slice ad0 n0 c0) ks0 (.mk nk (gtail ts d s).1.1 (gtail ts d s).1.2.1 nm na np ndc (plains ks0 ++ (gtail ts d s).1.2.2),(gtail ts d s).2)) := by
 have hg := H.out.blk.size
 have hL : ts.length = len := H.out.tok.1
 have HE : Hid (Ends ts) := by show (ts.getD (ts.length - 1) Tq.none).kind = 0; rw [hL]; exact H.out.last
 have HTx : Hid (byts (gnow ts s).text ∧ (gnow ts s).text.length ≤ 100000) := ⟨H.out.now_ok.2.1,by have := H.out.now_ok.2.2.2.2.2.1; omega⟩
 obtain ⟨NX,hNX⟩ : ∃ NX,NX = strOfNums ntx := ⟨_,rfl⟩
 obtain ⟨ND,hND⟩ : ∃ ND,ND = strOfNums ndc := ⟨_,rfl⟩
 rw [← hNX,← hND]
 have HNX : Hid (NX = strOfNums ntx) := hNX
 have HND : Hid (ND = strOfNums ndc) := hND
 clear hNX hND
 have HNk : Hid (i64b nk ∧ i64b nn ∧ i64b nm ∧ i64b na ∧ i64b np ∧ (byts ntx ∧ ntx.length ≤ 100000) ∧ byts ndc ∧ ndc.length ≤ 1000000) := ⟨hnk,hnn,hnm,hna,hnp,hnt,hnd⟩
 clear hnk hnn hnm hna hnp hnt hnd
 have HGt0 : Hid (gtail ts d s = (((gnow ts s).text,w64 (gnow ts (gwant ts [61] (gnameS ts s))).n,(gopts ts d (gintS ts 2147483647 (gwant ts [61] (gnameS ts s)))).1),(gopts ts d (gintS ts 2147483647 (gwant ts [61] (gnameS ts s)))).2)) := rfl
 have S0 : Hid (Sx w g a len cap ts base (.slice ad0 n0 c0) ks0 ((w.alloc (.cells #[.int .i64 nk,.string NX,.int .i64 nn,.int .i64 nm,.int .i64 na,.int .i64 np,.string ND,.slice ad0 n0 c0] 28)).alloc (.cells #[.int .i64 0,.string { data := #[] },.int .i64 0,.int .i64 0,.int .i64 0,.int .i64 0,.string { data := #[] },.slice none 0 0] 28)) (s) [(w.heap.size + 1,#[.int .i64 0,.string { data := #[] },.int .i64 0,.int .i64 0,.int .i64 0,.int .i64 0,.string { data := #[] },.slice none 0 0]),(w.heap.size,#[.int .i64 nk,.string NX,.int .i64 nn,.int .i64 nm,.int .i64 na,.int .i64 np,.string ND,.slice ad0 n0 c0])] (.slice ad0 n0 c0) ks0 []) := two_alloc (Sx.start H.out hgb hbw HN.out) _ _
 have Q0 : Hid _ := rgname_any (show Hid (Gm ((w.alloc (.cells #[.int .i64 nk,.string NX,.int .i64 nn,.int .i64 nm,.int .i64 na,.int .i64 np,.string ND,.slice ad0 n0 c0] 28)).alloc (.cells #[.int .i64 0,.string { data := #[] },.int .i64 0,.int .i64 0,.int .i64 0,.int .i64 0,.string { data := #[] },.slice none 0 0] 28)) g a len cap ts (s)) from S0.out.gm)
 obtain ⟨T1,hT1⟩ : ∃ T1,T1 = strOfNums (gnow ts s).text := ⟨_,rfl⟩
 rw [← hT1] at Q0
 have HT1 : Hid (T1 = strOfNums (gnow ts s).text) := hT1
 clear hT1
 go_enter Tryz.func176,Tryz.ntmps176
 go_wp2_with fail
 refine Calls.mono Q0.out ?_
 rintro e w1 ⟨rfl,hgw1,Hw1⟩
 have S1 : Hid (Sx w g a len cap ts base (.slice ad0 n0 c0) ks0 w1 (gnameS ts s) [(w.heap.size + 1,#[.int .i64 0,.string { data := #[] },.int .i64 0,.int .i64 0,.int .i64 0,.int .i64 0,.string { data := #[] },.slice none 0 0]),(w.heap.size,#[.int .i64 nk,.string NX,.int .i64 nn,.int .i64 nm,.int .i64 na,.int .i64 np,.string ND,.slice ad0 n0 c0])] (.slice ad0 n0 c0) ks0 []) := S0.out.call hgw1 Hw1
 clear hgw1 Hw1 Q0
 obtain ⟨⟨ca10,ca11,ca12,ca13,ca14,ca15,ca16,ca17⟩,cb10,cb11,cb12,cb13,cb14,cb15,cb16,cb17⟩ := eight_cells (S1.out.eight 1 w.heap.size rfl)
 have hz_w1_0 : w.heap.size + 1 < w1.heap.size := S1.out.ltAt 0 (w.heap.size + 1) rfl
 have hz_w1_1 : w.heap.size < w1.heap.size := S1.out.ltAt 1 w.heap.size rfl
 have S2 : Hid (Sx w g a len cap ts base (.slice ad0 n0 c0) ks0 (w1.setCell ⟨w.heap.size,1,none⟩ (.string T1)) (gnameS ts s) [(w.heap.size + 1,#[.int .i64 0,.string { data := #[] },.int .i64 0,.int .i64 0,.int .i64 0,.int .i64 0,.string { data := #[] },.slice none 0 0]),(w.heap.size,#[.int .i64 nk,.string T1,.int .i64 nn,.int .i64 nm,.int .i64 na,.int .i64 np,.string ND,.slice ad0 n0 c0])] (.slice ad0 n0 c0) ks0 []) := S1.out.set 1 w.heap.size _ rfl 1 _
 have Q2 : Hid _ := rgwant_any (show Hid (Gm (w1.setCell ⟨w.heap.size,1,none⟩ (.string T1)) g a len cap ts (gnameS ts s)) from S2.out.gm) [61] b61
 go_wp2_with fail
 refine Calls.mono Q2.out ?_
 rintro e w2 ⟨rfl,hgw2,Hw2⟩
 have S3 : Hid (Sx w g a len cap ts base (.slice ad0 n0 c0) ks0 w2 (gwant ts [61] (gnameS ts s)) [(w.heap.size + 1,#[.int .i64 0,.string { data := #[] },.int .i64 0,.int .i64 0,.int .i64 0,.int .i64 0,.string { data := #[] },.slice none 0 0]),(w.heap.size,#[.int .i64 nk,.string T1,.int .i64 nn,.int .i64 nm,.int .i64 na,.int .i64 np,.string ND,.slice ad0 n0 c0])] (.slice ad0 n0 c0) ks0 []) := S2.out.call hgw2 Hw2
 clear hgw2 Hw2 Q2
 clear ca10 ca11 ca12 ca13 ca14 ca15 ca16 ca17 cb10 cb11 cb12 cb13 cb14 cb15 cb16 cb17
 obtain ⟨⟨ca10,ca11,ca12,ca13,ca14,ca15,ca16,ca17⟩,cb10,cb11,cb12,cb13,cb14,cb15,cb16,cb17⟩ := eight_cells (S3.out.eight 1 w.heap.size rfl)
 have hz_w2_0 : w.heap.size + 1 < w2.heap.size := S3.out.ltAt 0 (w.heap.size + 1) rfl
 have hz_w2_1 : w.heap.size < w2.heap.size := S3.out.ltAt 1 w.heap.size rfl
 have Q3 : Hid _ := rginteger_any (show Hid (Gm w2 g a len cap ts (gwant ts [61] (gnameS ts s))) from S3.out.gm) 2147483647 (by decide) (by decide)
 obtain ⟨M1,hM1⟩ : ∃ M1,M1 = w64 (gnow ts (gwant ts [61] (gnameS ts s))).n := ⟨_,rfl⟩
 rw [← hM1] at Q3
 have HM1 : Hid (M1 = w64 (gnow ts (gwant ts [61] (gnameS ts s))).n) := hM1
 clear hM1
 go_wp2_with fail
 refine Calls.mono Q3.out ?_
 rintro e w3 ⟨rfl,hgw3,Hw3⟩
 have S4 : Hid (Sx w g a len cap ts base (.slice ad0 n0 c0) ks0 w3 (gintS ts 2147483647 (gwant ts [61] (gnameS ts s))) [(w.heap.size + 1,#[.int .i64 0,.string { data := #[] },.int .i64 0,.int .i64 0,.int .i64 0,.int .i64 0,.string { data := #[] },.slice none 0 0]),(w.heap.size,#[.int .i64 nk,.string T1,.int .i64 nn,.int .i64 nm,.int .i64 na,.int .i64 np,.string ND,.slice ad0 n0 c0])] (.slice ad0 n0 c0) ks0 []) := S3.out.call hgw3 Hw3
 clear hgw3 Hw3 Q3
 clear ca10 ca11 ca12 ca13 ca14 ca15 ca16 ca17 cb10 cb11 cb12 cb13 cb14 cb15 cb16 cb17
 obtain ⟨⟨ca10,ca11,ca12,ca13,ca14,ca15,ca16,ca17⟩,cb10,cb11,cb12,cb13,cb14,cb15,cb16,cb17⟩ := eight_cells (S4.out.eight 1 w.heap.size rfl)
 have hz_w3_0 : w.heap.size + 1 < w3.heap.size := S4.out.ltAt 0 (w.heap.size + 1) rfl
 have hz_w3_1 : w.heap.size < w3.heap.size := S4.out.ltAt 1 w.heap.size rfl
 have S5 : Hid (Sx w g a len cap ts base (.slice ad0 n0 c0) ks0 (w3.setCell ⟨w.heap.size,2,none⟩ (.int .i64 M1)) (gintS ts 2147483647 (gwant ts [61] (gnameS ts s))) [(w.heap.size + 1,#[.int .i64 0,.string { data := #[] },.int .i64 0,.int .i64 0,.int .i64 0,.int .i64 0,.string { data := #[] },.slice none 0 0]),(w.heap.size,#[.int .i64 nk,.string T1,.int .i64 M1,.int .i64 nm,.int .i64 na,.int .i64 np,.string ND,.slice ad0 n0 c0])] (.slice ad0 n0 c0) ks0 []) := S4.out.set 1 w.heap.size _ rfl 2 _
 have HO3 : Hid ((gintS ts 2147483647 (gwant ts [61] (gnameS ts s))).op + d = 31) := by show _ = _; have h1 := (mint HE.out 2147483647 (gwant ts [61] (gnameS ts s))).op; have h2 := (mwant HE.out [61] (gnameS ts s)).op; have h3 := (mname HE.out s).op; omega
 have Q5 : Hid _ := rgopts_any0 (show Hid (Gm (w3.setCell ⟨w.heap.size,2,none⟩ (.int .i64 M1)) g a len cap ts (gintS ts 2147483647 (gwant ts [61] (gnameS ts s)))) from S5.out.gm) d HO3.out HW hgb (Nat.le_trans hbw S5.out.fr.size) (show Hid (Ns (w3.setCell ⟨w.heap.size,2,none⟩ (.int .i64 M1)) base (.slice ad0 n0 c0) ks0) from S5.out.ns) hk0 HNk.out.1 (show i64b M1 by rw [HM1.out]; exact w64_bd _) HNk.out.2.2.1 HNk.out.2.2.2.1 HNk.out.2.2.2.2.1 HTx.out HNk.out.2.2.2.2.2.2
 rw [← HT1.out,← HND.out] at Q5
 go_wp2_with fail
 refine Calls.mono Q5.out ?_
 rintro e w4 hNw4
 obtain ⟨t,rfl,htp,hw4⟩ := S5.out.got2 hNw4
 obtain ⟨k2,tx2,n2,m2,a2,p2,dc2,ad2,cap2,ks2⟩ := t
 have S6 : Hid (Sx w g a len cap ts base (.slice ad0 n0 c0) ks0 w4 ((gopts ts d (gintS ts 2147483647 (gwant ts [61] (gnameS ts s)))).2) [(w.heap.size + 1,#[.int .i64 0,.string { data := #[] },.int .i64 0,.int .i64 0,.int .i64 0,.int .i64 0,.string { data := #[] },.slice none 0 0]),(w.heap.size,#[.int .i64 nk,.string T1,.int .i64 M1,.int .i64 nm,.int .i64 na,.int .i64 np,.string ND,.slice ad0 n0 c0])] (.slice none 0 0) [] [Tn.mk k2 tx2 n2 m2 a2 p2 dc2 ad2 cap2 ks2]) := hw4
 have HTP2 : Hid ((Tn.mk k2 tx2 n2 m2 a2 p2 dc2 ad2 cap2 ks2).plain = Pn.mk nk (gnow ts s).text M1 nm na np ndc (plains ks0 ++ (gopts ts d (gintS ts 2147483647 (gwant ts [61] (gnameS ts s)))).1)) := htp
 clear hNw4 hw4 htp Q5
 simp only [Tn.val,Tn.cells]
 obtain ⟨X2,hX2⟩ : ∃ X2,X2 = strOfNums tx2 := ⟨_,rfl⟩
 rw [← hX2]
 have HX2 : Hid (X2 = strOfNums tx2) := hX2
 clear hX2
 obtain ⟨D2,hD2⟩ : ∃ D2,D2 = strOfNums dc2 := ⟨_,rfl⟩
 rw [← hD2]
 have HD2 : Hid (D2 = strOfNums dc2) := hD2
 clear hD2
 obtain ⟨⟨ca00,ca01,ca02,ca03,ca04,ca05,ca06,ca07⟩,cb00,cb01,cb02,cb03,cb04,cb05,cb06,cb07⟩ := eight_cells (S6.out.eight 0 (w.heap.size + 1) rfl)
 have hz_w4_0 : w.heap.size + 1 < w4.heap.size := S6.out.ltAt 0 (w.heap.size + 1) rfl
 have hz_w4_1 : w.heap.size < w4.heap.size := S6.out.ltAt 1 w.heap.size rfl
 go_wp2
 rw [HGt0.out,← HM1.out]
 refine S6.out.fin rfl 0 (w.heap.size + 1) (.int .i64 0) (.string { data := #[] }) (.int .i64 0) (.int .i64 0) (.int .i64 0) (.int .i64 0) (.string { data := #[] }) (.slice none 0 0) (.int .i64 k2) (.string X2) (.int .i64 n2) (.int .i64 m2) (.int .i64 a2) (.int .i64 p2) (.string D2) (.slice ad2 ks2.length cap2) rfl rfl rfl ?_ ?_
 ·rw [Tn.cells,HX2.out,HD2.out]
 ·exact HTP2.out

end Go.Proofs.YtlekfcehmlepkaaGreatDoor
