/- Put together by a program out of these texts of mine: JMap, VPut, VDeep, VLay. -/
import Derived.Maps.Own
import Derived.Laws.EntriesVeiled
import Derived.Test.YtjbppjemilijdaaBunA4
import Derived.Test.YtjbppjemilijdaaBunA9

/- Maps whose keys are texts, as functions: what is at a key; how many keys there are. -/
namespace Go.Proofs.Ytjbppjemilijdaa
open Go.RowKit
open Go.ChangeMaps (setBlock heap_setBlock_same heap_setBlock_other modify_eq_set)
set_option linter.unusedVariables false
set_option linter.unusedSimpArgs false

theorem strKeyed : Maps.Keyed Try.prog 9 := Maps.string_keyed Try.underlying9

/-- Block b of w is a map of n entries; g: what is at a key. -/
def Mg (w : World) (b n : Nat) (g : ByteArray → Option Value) : Prop :=
  ∃ es clock, w.heap[b]? = some (.map es clock) ∧ MapKept.Stamped es clock ∧ (∀ e ∈ es.toList, ∃ k : ByteArray, e.key = .string k ∧ k.size ≤ maxLen) ∧ es.size = n ∧ ∀ k v, g k = some v ↔ ∃ e ∈ es.toList, e.key = .string k ∧ e.val = v

theorem keyStr {k : ByteArray} (h : k.size ≤ maxLen) : keyOf Try.prog 9 (.string k) = some (.string k.data.toList) := by
  have h1 := Try.underlying9
  simp [keyOf, h1, mapKey, h]

theorem Mg.lt {w : World} {b n : Nat} {g : ByteArray → Option Value} (h : Mg w b n g) : b < w.heap.size := by
  obtain ⟨es, clock, hb, _⟩ := h
  exact (Array.getElem?_eq_some_iff.1 hb).1

theorem Mg.made (w : World) : Mg (w.alloc (.map #[] 0)) w.heap.size 0 (fun _ => none) :=
  ⟨#[], 0, heap_alloc_new w _, MapKept.stamped_empty 0, by simp, rfl, by simp⟩

theorem Mg.kept {w w' : World} {b n : Nat} {g : ByteArray → Option Value} {row : Option Nat} (h : Mg w b n g) (hg : w.grownBy w' row) (hne : some b ≠ row) : Mg w' b n g := by
  have hlt := h.lt
  obtain ⟨es, clock, hb, r⟩ := h
  exact ⟨es, clock, (hg.block b hlt hne).trans hb, r⟩

theorem Mg.below {w w' : World} {b n : Nat} {g : ByteArray → Option Value} (h : Mg w b n g) {m : Nat} (hb : Below m w w') (hm : b < m) : Mg w' b n g := by
  obtain ⟨es, clock, h1, r⟩ := h
  exact ⟨es, clock, (hb.block b hm).trans h1, r⟩

theorem Mg.congr {w : World} {b n : Nat} {g g' : ByteArray → Option Value} (h : Mg w b n g) (e : ∀ k, g k = g' k) : Mg w b n g' := by
  obtain rfl : g = g' := funext e
  exact h

/-- What a look answers: the worth, and whether it is there. -/
def mlook (z : Value) : Option Value → Bool → Value
  | some v, true => .tuple #[v, .bool true]
  | none, true => .tuple #[z, .bool false]
  | some v, false => v
  | none, false => z

theorem Mg.look {w : World} {b n : Nat} {g : ByteArray → Option Value} (h : Mg w b n g) {t e : TypeId} (ht : Try.prog.underlying t = some (.map 9 e)) {z : Value} (hz : (zeroValue e).run Try.prog w = .ok z w) (k : ByteArray) (hk : k.size ≤ maxLen) (c : Bool) :
    (Instr.lookup t (.map (some b)) (.string k) c).run Try.prog w = .ok (mlook z (g k) c) w := by
  obtain ⟨es, clock, hb, hst, hkeys, hn, hg⟩ := h
  have hkey := keyStr hk
  rcases strKeyed.find w hkey es.toList (fun e he => by obtain ⟨x, hx, hxs⟩ := hkeys e he; rw [hx]; exact ⟨_, keyStr hxs⟩) with ⟨h1, h2⟩ | ⟨j, e0, h1, h2, h3⟩
  · have hgn : g k = none := by
      cases hq : g k with
      | none => rfl
      | some v => obtain ⟨e, he, hek, _⟩ := (hg k v).1 hq; exact absurd hek (h2 e he)
    rw [hgn]
    cases c <;> simp [Instr.lookup, run_underlying ht, MapKept.run_getObj_map hb, strKeyed.check w _ hkey, h1, hz, Result.andThen, mlook]
  · have hgs : g k = some e0.val := (hg k _).2 ⟨e0, List.mem_of_getElem? h2, h3, rfl⟩
    rw [hgs]
    cases c <;> simp [Instr.lookup, run_underlying ht, MapKept.run_getObj_map hb, strKeyed.check w _ hkey, h1, Result.andThen, mlook]

theorem Mg.put {w : World} {b n : Nat} {g : ByteArray → Option Value} (h : Mg w b n g) {t e : TypeId} (ht : Try.prog.underlying t = some (.map 9 e)) (k : ByteArray) (hk : k.size ≤ maxLen) (v : Value) :
    ∃ w', (Instr.mapUpdate t (.map (some b)) (.string k) v).run Try.prog w = .ok () w' ∧ Mg w' b (match g k with | none => n + 1 | some _ => n) (fun x => if x = k then some v else g x) ∧ w.grownBy w' (some b) := by
  obtain ⟨es, clock, hb, hst, hkeys, hn, hg⟩ := h
  have hkey := keyStr hk
  have grown : ∀ o : Obj, w.grownBy (setBlock w b o) (some b) := fun o => ⟨rfl, rfl, rfl, by simp [setBlock], fun i _ hi => heap_setBlock_other hb _ (fun e => hi (by rw [e]))⟩
  have sinj : ∀ {x y : ByteArray}, Value.string x = .string y → x = y := fun e => by simpa using e
  rcases strKeyed.find w hkey es.toList (fun e he => by obtain ⟨x, hx, hxs⟩ := hkeys e he; rw [hx]; exact ⟨_, keyStr hxs⟩) with ⟨h1, h2⟩ | ⟨j, e0, h1, h2, h3⟩
  · have hgn : g k = none := by
      cases hq : g k with
      | none => rfl
      | some v => obtain ⟨e, he, hek, _⟩ := (hg k v).1 hq; exact absurd hek (h2 e he)
    rw [hgn]
    refine ⟨setBlock w b (.map (es.push ⟨.string k, v, clock⟩) (clock + 1)), ?_, ⟨_, _, heap_setBlock_same hb _, MapKept.stamped_push hst h2, ?_, by simp [hn], ?_⟩, grown _⟩
    · simp [Instr.mapUpdate, run_underlying ht, MapKept.run_getObj_map hb, strKeyed.check w false hkey, h1, MapKept.run_setObj_map _ hb, Result.andThen, setBlock]
    · intro x hx
      simp only [Array.toList_push, List.mem_append, List.mem_singleton] at hx
      rcases hx with hx | rfl
      · exact hkeys x hx
      · exact ⟨k, rfl, hk⟩
    · intro x u
      simp only [Array.toList_push, List.mem_append, List.mem_singleton]
      by_cases hx : x = k
      · subst hx
        rw [if_pos rfl]
        constructor
        · intro hu
          exact ⟨_, .inr rfl, rfl, by simpa using hu⟩
        · rintro ⟨y, hy | rfl, hyk, hyv⟩
          · exact absurd hyk (h2 y hy)
          · simpa using hyv
      · rw [if_neg hx, hg]
        constructor
        · rintro ⟨y, hy, r⟩
          exact ⟨y, .inl hy, r⟩
        · rintro ⟨y, hy | rfl, hyk, hyv⟩
          · exact ⟨y, hy, hyk, hyv⟩
          · exact absurd (sinj hyk).symm hx
  · have hgs : g k = some e0.val := (hg k _).2 ⟨e0, List.mem_of_getElem? h2, h3, rfl⟩
    rw [hgs]
    have hj : es[j]? = some e0 := by simpa using h2
    have hjl : j < es.toList.length := (List.getElem?_eq_some_iff.1 h2).1
    have hlist : (es.modify j (fun e' => { e' with key := .string k, val := v })).toList = es.toList.set j { e0 with key := .string k, val := v } := by rw [Array.toList_modify, modify_eq_set _ _ _ _ h2]
    have hkeyf : ∀ e', es[j]? = some e' → ({ e' with key := .string k, val := v } : MapEntry).key = e'.key := fun e' he' => by rw [hj] at he'; cases he'; exact h3.symm
    have hpw := (MapKept.stamped_iff _ _).1 hst
    have other : ∀ (i : Nat) (e : MapEntry), es.toList[i]? = some e → i ≠ j → e.key ≠ .string k := by
      intro i e hi hne hek
      have hi' := (List.getElem?_eq_some_iff.1 hi)
      have hj' := (List.getElem?_eq_some_iff.1 h2)
      obtain ⟨hi1, hi2⟩ := hi'
      obtain ⟨hj1, hj2⟩ := hj'
      have pw := List.pairwise_iff_getElem.1 hpw.2.2
      rcases Nat.lt_or_gt_of_ne hne with hlt | hlt
      · exact pw i j hi1 hj1 hlt (by rw [hi2, hj2, hek, h3])
      · exact pw j i hj1 hi1 hlt (by rw [hi2, hj2, hek, h3])
    have who : ∀ x, x ∈ es.toList.set j { e0 with key := .string k, val := v } ↔ x = { e0 with key := .string k, val := v } ∨ (x ∈ es.toList ∧ x.key ≠ .string k) := by
      intro x
      constructor
      · intro hx
        obtain ⟨i, hi, ex⟩ := List.getElem_of_mem hx
        rw [List.getElem_set] at ex
        split at ex
        · exact Or.inl ex.symm
        · rename_i hne
          have hi' : i < es.toList.length := by simpa using hi
          exact Or.inr ⟨ex ▸ List.getElem_mem hi', other i x (by rw [List.getElem?_eq_getElem hi', ex]) (fun e => hne e.symm)⟩
      · rintro (rfl | ⟨hx, hxk⟩)
        · exact List.mem_iff_getElem.2 ⟨j, by simpa using hjl, by simp⟩
        · obtain ⟨i, hi⟩ := List.getElem?_of_mem hx
          have hij : i ≠ j := fun e => by subst e; rw [h2] at hi; cases hi; exact hxk h3
          have hi' := (List.getElem?_eq_some_iff.1 hi)
          obtain ⟨hi1, hi2⟩ := hi'
          exact List.mem_iff_getElem.2 ⟨i, by simpa using hi1, by rw [List.getElem_set_ne (fun e => hij e.symm)]; exact hi2⟩
    refine ⟨setBlock w b (.map (es.modify j (fun e' => { e' with key := .string k, val := v })) clock), ?_, ⟨_, _, heap_setBlock_same hb _, MapKept.stamped_modify hst _ _ (fun _ _ => rfl) (fun e' _ he' => hkeyf e' he'), ?_, by simp [hn], ?_⟩, grown _⟩
    · simp [Instr.mapUpdate, run_underlying ht, MapKept.run_getObj_map hb, strKeyed.check w false hkey, h1, hj, h3, strKeyed.stays w hkey, MapKept.run_setObj_map _ hb, Result.andThen, setBlock]
    · intro x hx
      have hx := hlist.subst (motive := fun l => x ∈ l) hx
      rcases (who x).1 hx with rfl | ⟨hx, _⟩
      · exact ⟨k, rfl, hk⟩
      · exact hkeys x hx
    · intro x u
      show (if x = k then some v else g x) = some u ↔ ∃ e ∈ (es.modify j (fun e' => { e' with key := .string k, val := v })).toList, e.key = .string x ∧ e.val = u
      rw [hlist]
      by_cases hx : x = k
      · subst hx
        rw [if_pos rfl]
        constructor
        · intro hu
          exact ⟨_, (who _).2 (.inl rfl), rfl, by simpa using hu⟩
        · rintro ⟨y, hy, hyk, hyv⟩
          rcases (who y).1 hy with rfl | ⟨_, h⟩
          · simpa using hyv
          · exact absurd hyk h
      · rw [if_neg hx, hg]
        constructor
        · rintro ⟨y, hy, hyk, r⟩
          exact ⟨y, (who y).2 (.inr ⟨hy, fun e => hx (sinj (hyk.symm.trans e))⟩), hyk, r⟩
        · rintro ⟨y, hy, hyk, hyv⟩
          rcases (who y).1 hy with rfl | ⟨hy, _⟩
          · exact absurd (sinj hyk).symm hx
          · exact ⟨y, hy, hyk, hyv⟩

theorem Mg.len {w : World} {b n : Nat} {g : ByteArray → Option Value} (h : Mg w b n g) {t e : TypeId} (ht : Try.prog.underlying t = some (.map 9 e)) (ty : TypeId) :
    (Builtin.len_ #[t] ty #[.map (some b)]).run Try.prog w = .ok (goInt n) w := by
  obtain ⟨es, clock, hb, hst, hkeys, hn, hg⟩ := h
  simp [Builtin.len_, run_underlying ht, MapKept.run_getObj_map hb, Result.andThen, hn]

end Go.Proofs.Ytjbppjemilijdaa

/- A symbol more in a pool; a package and what it stands in. -/
namespace Go.Proofs.Ytjbppjemilijdaa
open Go.RowKit
set_option linter.unusedVariables false
set_option linter.unusedSimpArgs false

theorem grown_ofV {w w' : World} {row : Option Nat} (hb : Below w.heap.size w w') : w.grownBy w' row := ⟨hb.os, hb.tape, hb.output, hb.size, fun k hk _ => hb.block k hk⟩

theorem grown_transV {w w1 w2 : World} {row : Option Nat} (h1 : w.grownBy w1 row) (h2 : w1.grownBy w2 row) : w.grownBy w2 row := World.grownBy.trans h1 h2

/-- A pool's block: its files, its two maps. -/
structure Po (w : World) (bp bs be : Nat) (vf : Value) (n : Nat) (g : ByteArray → Option Value) : Prop where
  blk : Ob w bp #[vf, .map (some bs), .map (some be)] 59
  sym : Mg w bs n g
  ext : Mg w be 0 (fun _ => none)
  ne : bp ≠ bs ∧ be ≠ bs ∧ bp ≠ be
  sl : ∃ a n c, vf = .slice a n c

theorem Po.below {w w' : World} {bp bs be : Nat} {vf : Value} {n : Nat} {g : ByteArray → Option Value} (h : Po w bp bs be vf n g) {B : Nat} (hb : Below B w w') (hB : w.heap.size ≤ B) : Po w' bp bs be vf n g :=
  ⟨h.blk.below hb (Nat.lt_of_lt_of_le h.blk.lt hB), h.sym.below hb (Nat.lt_of_lt_of_le h.sym.lt hB), h.ext.below hb (Nat.lt_of_lt_of_le h.ext.lt hB), h.ne, h.sl⟩

/-- One more. -/
theorem Po.put {w w' : World} {bp bs be : Nat} {vf : Value} {n n' : Nat} {g g' : ByteArray → Option Value} (h : Po w bp bs be vf n g) (hg : w.grownBy w' (some bs)) (hm : Mg w' bs n' g') : Po w' bp bs be vf n' g' :=
  ⟨h.blk.grown hg (fun e => h.ne.1 (Option.some.inj e)), hm, h.ext.kept hg (fun e => h.ne.2.1 (Option.some.inj e)), h.ne, h.sl⟩

theorem zeroSym (w : World) : (zeroValue 66).run Try.prog w = .ok (.agg #[.int .i64 0, .string ⟨#[]⟩, .pointer none, .pointer none, .pointer none]) w := by kernel_rfl

theorem symMap : Try.prog.underlying 56 = some (.map 9 66) := by kernel_rfl

/-- A name more, at a function. -/
def gput (g : ByteArray → Option Value) (k : ByteArray) (v : Value) : ByteArray → Option Value := fun x => if x = k then some v else g x

set_option maxRecDepth 100000 in
set_option maxHeartbeats 4000000 in
theorem pput0 (H : ByteArray) (sc nm : List Int) (hsb : Hid (byts sc)) (hnb : Hid (byts nm)) (hsl : sc.length ≤ 10000) (hnl : nm.length ≤ 10000) (kd : Int) (p1 p2 p3 : Option Addr) (W : World) {bp bs be : Nat} {vf : Value} {n : Nat} {g : ByteArray → Option Value} (hP : Hid (Po W bp bs be vf n g)) (hg : g (strOfNums (njoin sc nm)) = none) :
    Calls Try.prog 40 #[.agg #[.pointer (some ⟨bp, 0, none⟩), .string H], .string (strOfNums sc), .string (strOfNums nm), .agg #[.int .i64 kd, .string ⟨#[]⟩, .pointer p1, .pointer p2, .pointer p3]] W fun e W' => e = .returned (.string (strOfNums (njoin sc nm))) ∧ W.grownBy W' (some bs) ∧ Mg W' bs (n + 1) (gput g (strOfNums (njoin sc nm)) (.agg #[.int .i64 kd, .string H, .pointer p1, .pointer p2, .pointer p3])) := by
  obtain ⟨w3, hw3⟩ : ∃ w3, w3 = (W.alloc (.cells #[.pointer (some ⟨bp, 0, none⟩), .string H] 96)).alloc (.cells #[.int .i64 kd, .string ⟨#[]⟩, .pointer p1, .pointer p2, .pointer p3] 66) := ⟨_, rfl⟩
  have o0 : Ob w3 W.heap.size #[.pointer (some ⟨bp, 0, none⟩), .string H] 96 := by rw [hw3]; exact (Ob.new W _ _).alloc _
  have o1 : Ob w3 (W.heap.size + 1) #[.int .i64 kd, .string ⟨#[]⟩, .pointer p1, .pointer p2, .pointer p3] 66 := by
    rw [hw3]
    have := Ob.new (W.alloc (.cells #[.pointer (some ⟨bp, 0, none⟩), .string H] 96)) #[.int .i64 kd, .string ⟨#[]⟩, .pointer p1, .pointer p2, .pointer p3] 66
    simpa using this
  have hb3 : Below W.heap.size W w3 := by rw [hw3]; exact ((Below.refl _ W).alloc (Nat.le_refl _) _).alloc (by simp) _
  have hP3 := hP.out.below hb3 (Nat.le_refl _)
  have hbl := hP.out.blk.lt
  have hsl2 := hP.out.sym.lt
  have QJ : Hid _ := pjoin_any sc nm w3 (show Hid (NTab w3) from trivial) hsb hnb hsl hnl
  have hks : (strOfNums (njoin sc nm)).size ≤ maxLen := by rw [strOfNums_size]; unfold njoin maxLen; split <;> simp <;> omega
  generalize strOfNums (njoin sc nm) = F at *
  generalize strOfNums sc = S at *
  generalize strOfNums nm = M at *
  have O0 : Hid _ := o0
  have O1 : Hid _ := o1
  have P3 : Hid _ := hP3
  have HB3 : Hid _ := hb3
  have HW3 : Hid _ := hw3
  have HG : Hid _ := hg
  have HKS : Hid _ := hks
  clear o0 o1 hb3 hw3 hP3 hg hks
  go_enter Try.func40, Try.ntmps40
  go_upto_region 1 with fail
  rw [← HW3.out]
  clear HW3
  go_wp2_with fail
  refine Calls.mono QJ.out ?_
  rintro e w4 ⟨rfl, hb4⟩
  have o0 := O0.out.below hb4 O0.out.lt
  have o1 := O1.out.below hb4 O1.out.lt
  have hP4 := P3.out.below hb4 (Nat.le_refl _)
  have HB4 : Hid (Below W.heap.size W w4) := HB3.out.trans (hb4.mono HB3.out.size)
  have hlk := hP4.sym.look symMap (zeroSym w4) F HKS.out true
  rw [HG.out] at hlk
  simp only [mlook] at hlk
  obtain ⟨w6, hw6⟩ : ∃ w6, w6 = (w4.setCell ⟨W.heap.size + 1, 1, none⟩ (.string H)).alloc (.cells #[.int .i64 0, .string ⟨#[]⟩, .pointer none, .pointer none, .pointer none] 66) := ⟨_, rfl⟩
  have hl4 : W.heap.size + 1 < w4.heap.size := o1.lt
  have hb6 : Below (W.heap.size + 1) w4 w6 := by rw [hw6]; exact ((Below.refl _ w4).setCell (p := ⟨W.heap.size + 1, 1, none⟩) (Nat.le_refl _) _).alloc (by simp; omega) _
  have q0 : Ob w6 W.heap.size #[.pointer (some ⟨bp, 0, none⟩), .string H] 96 := o0.below hb6 (by omega)
  have q1 : Ob w6 (W.heap.size + 1) #[.int .i64 kd, .string H, .pointer p1, .pointer p2, .pointer p3] 66 := by rw [hw6]; have := (o1.set 1 (.string H)).alloc (.cells #[.int .i64 0, .string ⟨#[]⟩, .pointer none, .pointer none, .pointer none] 66); simpa using this
  have q2 : Ob w6 bp #[vf, .map (some bs), .map (some be)] 59 := hP4.blk.below hb6 (by omega)
  have q3 : Mg w6 bs n g := hP4.sym.below hb6 (by omega)
  have HB6 : Hid (Below W.heap.size W w6) := HB4.out.trans (hb6.mono (by omega))
  have a0 := fun x : Ext w6 => x.cell (p := ⟨W.heap.size, 0, none⟩) q0.lt (q0.cell 0 rfl)
  have a1 := fun x : Ext w6 => x.cell (p := ⟨W.heap.size, 1, none⟩) q0.lt (q0.cell 1 rfl)
  have b0 := fun x : Ext w6 => x.cell (p := ⟨W.heap.size + 1, 0, none⟩) q1.lt (q1.cell 0 rfl)
  have b1 := fun x : Ext w6 => x.cell (p := ⟨W.heap.size + 1, 1, none⟩) q1.lt (q1.cell 1 rfl)
  have b2 := fun x : Ext w6 => x.cell (p := ⟨W.heap.size + 1, 2, none⟩) q1.lt (q1.cell 2 rfl)
  have b3 := fun x : Ext w6 => x.cell (p := ⟨W.heap.size + 1, 3, none⟩) q1.lt (q1.cell 3 rfl)
  have b4 := fun x : Ext w6 => x.cell (p := ⟨W.heap.size + 1, 4, none⟩) q1.lt (q1.cell 4 rfl)
  have c0 := fun x : Ext w6 => x.cell (p := ⟨bp, 0, none⟩) q2.lt (q2.cell 0 rfl)
  have c1 := fun x : Ext w6 => x.cell (p := ⟨bp, 1, none⟩) q2.lt (q2.cell 1 rfl)
  have c2 := fun x : Ext w6 => x.cell (p := ⟨bp, 2, none⟩) q2.lt (q2.cell 2 rfl)
  obtain ⟨⟨x0, x1⟩, _, xl⟩ := ob2 o0
  obtain ⟨⟨y0, y1, y2, y3, y4⟩, ⟨u0, u1, u2, u3, u4⟩, yl⟩ := ob5 o1
  have z1 : w4.cell? ⟨bp, 1, none⟩ = some (.map (some bs)) := hP4.blk.cell 1 rfl
  have zl := hP4.blk.lt
  have Q3 : Hid (Mg w6 bs n g) := q3
  have HW6 : Hid _ := hw6
  clear o0 o1 hP4 hb4 hb6 q0 q1 q2 q3 hw6 O0 O1 P3 HB3 HB4 QJ hP
  go_upto_region 6 with fail
  rw [← HW6.out]
  clear HW6 x0 x1 xl y0 y1 y2 y3 y4 u0 u1 u2 u3 u4 yl z1 zl hlk
  refine wp_region_elast w6 (Below.refl _ _) rfl (by kernel_rfl) (by kernel_rfl) (by kernel_rfl) (by kernel_rfl) ?_
  simp only [List.dropLast]
  repeat (go_big_quiet_step (fail))
  refine wpQuiet_nil ?_
  rintro w7 ⟨⟨_, hb7⟩, rfl⟩ Q' hQ'
  have HQ : Hid _ := hQ'
  obtain ⟨w8, hup, hm8, hg8⟩ := (Q3.out.below hb7 Q3.out.lt).put symMap F HKS.out (.agg #[.int .i64 kd, .string H, .pointer p1, .pointer p2, .pointer p3])
  rw [HG.out] at hm8
  have HM8 : Hid (Mg w8 bs (n + 1) (gput g F (.agg #[.int .i64 kd, .string H, .pointer p1, .pointer p2, .pointer p3]))) := hm8
  have HG8 : Hid (W.grownBy w8 (some bs)) := grown_transV (grown_ofV (HB6.out.trans (hb7.mono HB6.out.size))) hg8
  clear hQ' hm8 hg8 hb7 a0 a1 b0 b1 b2 b3 b4 c0 c1 c2 HB6 Q3
  go_wp2
  refine HQ.out _ _ ?_
  clear HQ
  go_wp2
  go_ret
  exact ⟨rfl, HG8.out, HM8.out⟩

/-- What a package's symbol is. -/
def pkgV (H : ByteArray) : Value := .agg #[.int .i64 1, .string H, .pointer none, .pointer none, .pointer none]

/-- Where the rounds of packages are. -/
structure Pk (W wr : World) (bp bs be : Nat) (vf : Value) (H : ByteArray) (n : Nat) (g : ByteArray → Option Value) : Prop where
  hom : Ob wr W.heap.size #[.pointer (some ⟨bp, 0, none⟩), .string H] 96
  po : Po wr bp bs be vf n g
  grown : W.grownBy wr (some bs)

theorem nparent_take (s : List Int) : (nparent s).1 = s.take (nparent s).1.length := by
  unfold nparent
  split
  · simp
  · simp only [List.length_take]
    rw [List.take_eq_take_iff]
    omega

theorem nparent_ltV (s : List Int) (h : s ≠ []) : (nparent s).1.length < s.length := by
  have h1 := nlast_le s s.length
  have h2 : 0 < s.length := List.length_pos_iff.2 h
  unfold nparent
  split
  · simpa using h2
  · rw [List.length_take]; omega

def strLen (v : Value) : Nat := match v with | .string s => s.size | _ => 0

set_option maxRecDepth 100000 in
set_option maxHeartbeats 4000000 in
theorem ppkg_gen (H : ByteArray) (T : List Int → Nat → (ByteArray → Option Value) → Prop) (hT : Hid (∀ s n g, T s n g → s ≠ [] → byts s ∧ (∀ i, 0 ≤ s.getD i 0 ∧ s.getD i 0 ≤ 255) ∧ s.length ≤ 10000 ∧ g (strOfNums s) = none ∧ T (nparent s).1 (n + 1) (gput g (strOfNums s) (pkgV H))))
    (s0 : List Int) (n0 : Nat) (g0 : ByteArray → Option Value) (h0 : Hid (T s0 n0 g0)) (W : World) {bp bs be : Nat} {vf : Value} (hP : Hid (Po W bp bs be vf n0 g0)) :
    Calls Try.prog 38 #[.agg #[.pointer (some ⟨bp, 0, none⟩), .string H], .string (strOfNums s0)] W fun e W' => e = .returned (.tuple #[]) ∧ W.grownBy W' (some bs) ∧ ∃ n g, T [] n g ∧ Po W' bp bs be vf n g := by
  obtain ⟨w3, hw3⟩ : ∃ w3, w3 = W.alloc (.cells #[.pointer (some ⟨bp, 0, none⟩), .string H] 96) := ⟨_, rfl⟩
  have hbl := hP.out.blk.lt
  have hsl2 := hP.out.sym.lt
  have K3 : Hid (Pk W w3 bp bs be vf H n0 g0) := by
    have hb3 : Below W.heap.size W w3 := by rw [hw3]; exact (Below.refl _ W).alloc (Nat.le_refl _) _
    exact ⟨by rw [hw3]; exact Ob.new W _ _, hP.out.below hb3 (Nat.le_refl _), grown_ofV hb3⟩
  have HW3 : Hid _ := hw3
  have hpp : ∀ w, (zeroValue 66).run Try.prog w = .ok (.agg #[.int .i64 0, .string ⟨#[]⟩, .pointer none, .pointer none, .pointer none]) w := zeroSym
  clear hw3 hP
  obtain ⟨S0, hS0⟩ : ∃ S0, S0 = strOfNums s0 := ⟨_, rfl⟩
  rw [← hS0]
  have HS0 : Hid _ := hS0
  clear hS0
  go_enter Try.func38, Try.ntmps38
  go_upto_region 1 with fail
  rw [← HW3.out]
  clear HW3
  go_loopw [1] (fun v wr => ∃ s n g, v = .string (strOfNums s) ∧ Hid (T s n g) ∧ Hid (Pk W wr bp bs be vf H n g)) (fun v _ => strLen v)
  case atStart => exact ⟨s0, n0, g0, by rw [HS0.out], h0, K3⟩
  case round =>
    obtain ⟨s, n, g, rfl, HT, K⟩ := hrel
    by_cases hse : s = []
    · subst hse
      have hne : ((strOfNums []).toList == []) = true := by rw [str_list]; rfl
      generalize strOfNums [] = S at *
      go_wp2
      go_end0
      exact ⟨rfl, K.out.grown, n, g, HT.out, K.out.po⟩
    · obtain ⟨hby, hz, hln, hgn, hT2⟩ := hT.out s n g HT.out hse
      have hne : ((strOfNums s).toList == []) = false := by
        cases s with
        | nil => exact absurd rfl hse
        | cons c r => exact str_ne c r
      have hks : (strOfNums s).size ≤ maxLen := by rw [strOfNums_size]; unfold maxLen; omega
      have QP : Hid _ := fun V => pparent_any s V (show Hid (NTab V) from trivial) hz (by omega)
      have hlt := nparent_ltV s hse
      have h1 := run_head s (nparent s).1.length (by omega) (by omega)
      rw [← nparent_take s] at h1
      have hlen : ((strOfNums (nparent s).1).size : Int) = ((nparent s).1.length : Int) := by rw [strOfNums_size]
      have hms : strLen (.string (strOfNums (nparent s).1)) < strLen (.string (strOfNums s)) := by simp only [strLen, strOfNums_size]; exact hlt
      have HT2 : Hid _ := hT2
      have HMS : Hid _ := hms
      have o0 := K.out.hom
      have hP4 := K.out.po
      have hlk := hP4.sym.look symMap (zeroSym wr) (strOfNums s) hks true
      rw [hgn] at hlk
      simp only [mlook] at hlk
      obtain ⟨w6, hw6⟩ : ∃ w6, w6 = wr.alloc (.cells #[.int .i64 0, .string ⟨#[]⟩, .pointer none, .pointer none, .pointer none] 66) := ⟨_, rfl⟩
      have hb6 : Below wr.heap.size wr w6 := by rw [hw6]; exact (Below.refl _ wr).alloc (Nat.le_refl _) _
      have q0 := o0.below hb6 o0.lt
      have hP6 := hP4.below hb6 (Nat.le_refl _)
      have q2 := hP6.blk
      have HG6 : Hid (W.grownBy w6 (some bs)) := grown_transV K.out.grown (grown_ofV hb6)
      have a0 := fun x : Ext w6 => x.cell (p := ⟨W.heap.size, 0, none⟩) q0.lt (q0.cell 0 rfl)
      have a1 := fun x : Ext w6 => x.cell (p := ⟨W.heap.size, 1, none⟩) q0.lt (q0.cell 1 rfl)
      have c0 := fun x : Ext w6 => x.cell (p := ⟨bp, 0, none⟩) q2.lt (q2.cell 0 rfl)
      have c1 := fun x : Ext w6 => x.cell (p := ⟨bp, 1, none⟩) q2.lt (q2.cell 1 rfl)
      have c2 := fun x : Ext w6 => x.cell (p := ⟨bp, 2, none⟩) q2.lt (q2.cell 2 rfl)
      obtain ⟨⟨x0, x1⟩, _, xl⟩ := ob2 o0
      have z1 : wr.cell? ⟨bp, 1, none⟩ = some (.map (some bs)) := hP4.blk.cell 1 rfl
      have zl := hP4.blk.lt
      have Q0 : Hid _ := q0
      have P6 : Hid (Po w6 bp bs be vf n g) := hP6
      have HGN : Hid _ := hgn
      have HKS : Hid _ := hks
      have HW6 : Hid _ := hw6
      clear o0 hP4 hb6 q0 q2 hP6 hw6 hT2 hms hgn hks hby hz hln hse K HT
      generalize hN1 : strOfNums (nparent s).1 = N1 at *
      have HN1 : Hid _ := hN1
      clear hN1
      generalize strOfNums (nparent s).2 = N2 at *
      generalize strOfNums s = S at *
      go_upto_region 6 with fail
      rw [← HW6.out]
      clear HW6 x0 x1 xl z1 zl hlk
      refine wp_region_elast w6 (Below.refl _ _) rfl (by kernel_rfl) (by kernel_rfl) (by kernel_rfl) (by kernel_rfl) ?_
      simp only [List.dropLast]
      repeat (go_big_quiet_step (fail))
      refine wpQuiet_nil ?_
      rintro w7 ⟨⟨_, hb7⟩, rfl⟩ Q' hQ'
      have HQ : Hid _ := hQ'
      have hP7 := P6.out.below hb7 (Nat.le_refl _)
      obtain ⟨w8, hup, hm8, hg8⟩ := hP7.sym.put symMap S HKS.out (.agg #[.int .i64 1, .string H, .pointer none, .pointer none, .pointer none])
      rw [HGN.out] at hm8
      have hP8 := hP7.put hg8 (show Mg w8 bs (n + 1) (gput g S (pkgV H)) from hm8)
      have P8 : Hid _ := hP8
      have HG8 : Hid (W.grownBy w8 (some bs)) := grown_transV (grown_transV HG6.out (grown_ofV hb7)) hg8
      have hbW : W.heap.size ≠ bs := by omega
      have q8 : Ob w8 W.heap.size #[.pointer (some ⟨bp, 0, none⟩), .string H] 96 := (Q0.out.below hb7 Q0.out.lt).grown hg8 (fun e => hbW (Option.some.inj e))
      have Q8 : Hid _ := q8
      clear hQ' hm8 hg8 hb7 a0 a1 c0 c1 c2 HG6 Q0 P6 hP7 hP8 q8
      go_wp2
      refine HQ.out _ _ ?_
      clear HQ hup
      go_wp2_with fail
      refine Calls.mono (QP.out _) ?_
      rintro e w9 ⟨rfl, hb9⟩
      have P9 : Hid _ := P8.out.below hb9 (Nat.le_refl _)
      have Q9 : Hid _ := Q8.out.below hb9 Q8.out.lt
      have HG9 : Hid (W.grownBy w9 (some bs)) := grown_transV HG8.out (grown_ofV hb9)
      clear hb9 P8 Q8 HG8 QP
      go_wp2
      go_roundw
      case rel => first | exact ⟨(nparent s).1, n + 1, _, by rw [HN1.out], HT2, ⟨Q9.out, P9.out, HG9.out⟩⟩ | ((repeat apply Exists.intro); exact ⟨⟨(nparent s).1, n + 1, _, by rw [HN1.out], HT2, ⟨Q9.out, P9.out, HG9.out⟩⟩, rfl⟩)
      case measure => exact HMS.out

end Go.Proofs.Ytjbppjemilijdaa

/- How deep messages stand: of a file with one message that has nothing in it. -/
namespace Go.Proofs.Ytjbppjemilijdaa
open Go.RowKit
set_option linter.unusedVariables false
set_option linter.unusedSimpArgs false

set_option maxRecDepth 10000 in
set_option maxHeartbeats 1000000 in
theorem pdown0 (a : Option Addr) (c : Nat) (d : Int) (p q : Value) (w : World) :
    Calls Try.prog 34 #[.slice a 0 c, .int .i64 d, p, q] w fun e w' => e = .returned (.bool true) ∧ Below w.heap.size w w' := by
  have HB : Hid (Below w.heap.size w (w.alloc (.cells #[.int .i64 d] 3))) := (Below.refl _ _).alloc (Nat.le_refl _) _
  go_enter Try.func34, Try.ntmps34
  go_wp2
  go_ret
  exact ⟨rfl, HB.out⟩

/-- The closure that calls itself. -/
def downV (bd bq : Nat) : Value := .func (.func 34) #[] #[.pointer (some ⟨bd, 0, none⟩), .pointer (some ⟨bq, 0, none⟩)]

set_option maxRecDepth 10000 in
set_option maxHeartbeats 1000000 in
theorem pdown1 (N : ByteArray) (bd bq bx : Nat) (d : Int) (hd : 0 ≤ d ∧ d ≤ 100) (w : World) (hq : Ob w bq #[downV bd bq] 90) (hx : Ob w bx #[.int .i64 d] 3) :
    Calls Try.prog 36 #[.agg (msg0 N), .pointer (some ⟨bq, 0, none⟩), .pointer (some ⟨bx, 0, none⟩)] w fun e w' => e = .returned (.bool false) ∧ Below w.heap.size w w' := by
  unfold msg0
  unfold downV at hq
  obtain ⟨w3, hw3⟩ : ∃ w3, w3 = w.alloc (.cells #[.string N, .slice none 0 0, .slice none 0 0, .slice none 0 0, .slice none 0 0, .slice none 0 0, .slice none 0 0, .slice none 0 0, .slice none 0 0, .slice none 0 0, .slice none 0 0] 30) := ⟨_, rfl⟩
  have HB : Hid (Below w.heap.size w w3) := by rw [hw3]; exact (Below.refl _ _).alloc (Nat.le_refl _) _
  have o0 : Ob w3 w.heap.size #[.string N, .slice none 0 0, .slice none 0 0, .slice none 0 0, .slice none 0 0, .slice none 0 0, .slice none 0 0, .slice none 0 0, .slice none 0 0, .slice none 0 0, .slice none 0 0] 30 := by rw [hw3]; exact Ob.new _ _ _
  obtain ⟨c1, _, l1⟩ := ob1 (hq.below HB.out hq.lt)
  obtain ⟨c2, _, l2⟩ := ob1 (hx.below HB.out hx.lt)
  have c3 : w3.cell? ⟨w.heap.size, 2, none⟩ = some (.slice none 0 0) := o0.cell 2 rfl
  have l3 := o0.lt
  have HW : Hid _ := hw3
  have hs : IntKind.i64.wrap (d + 1) = d + 1 := wrap_small _ (by omega) (by omega)
  clear o0 hw3 hq hx
  go_enter Try.func36, Try.ntmps36
  go_upto_region 1 with fail
  rw [← HW.out]
  clear HW
  go_wp2_with fail
  refine Calls.mono (pdown0 _ _ _ _ _ _) ?_
  rintro e w4 ⟨rfl, hb4⟩
  go_wp2
  go_ret
  exact ⟨rfl, HB.out.trans (hb4.mono HB.out.size)⟩

set_option maxRecDepth 10000 in
set_option maxHeartbeats 1000000 in
theorem pidxm1 (N : ByteArray) (bd bq bx g : Nat) (d : Int) (hd : 0 ≤ d ∧ d ≤ 100) (w : World) (hq : Ob w bq #[downV bd bq] 90) (hx : Ob w bx #[.int .i64 d] 3) (hg : Ob w g (msg0 N) 30) :
    Calls Try.prog 52 #[.slice (some ⟨g, 0, none⟩) 1 1, .func (.func 36) #[] #[.pointer (some ⟨bq, 0, none⟩), .pointer (some ⟨bx, 0, none⟩)]] w fun e w' => e = .returned (.int .i64 (-1)) ∧ Below w.heap.size w w' := by
  have Q : Hid _ := pdown1 N bd bq bx d hd w hq hx
  obtain ⟨⟨c0, c1, c2, c3, c4, c5, c6, c7, c8, c9, c10⟩, _, cl⟩ := ob11 (show Ob w g #[.string N, .slice none 0 0, .slice none 0 0, .slice none 0 0, .slice none 0 0, .slice none 0 0, .slice none 0 0, .slice none 0 0, .slice none 0 0, .slice none 0 0, .slice none 0 0] 30 from hg)
  unfold msg0 at *
  clear hg
  go_enter Try.func52, Try.ntmps52
  go_wp2
  go_loopw [8] (fun v wr => (v = .int .i64 0 ∧ w = wr) ∨ (v = .int .i64 1 ∧ Hid (Below w.heap.size w wr))) (fun v _ => 1 - (intOf v).toNat)
  case atStart => exact .inl ⟨rfl, rfl⟩
  case round =>
    rcases hrel with ⟨rfl, rfl⟩ | ⟨rfl, HB⟩
    · go_wp2_with fail
      refine Calls.mono Q.out ?_
      rintro e w1 ⟨rfl, hb1⟩
      have HB1 : Hid _ := hb1
      clear hb1 Q c0 c1 c2 c3 c4 c5 c6 c7 c8 c9 c10
      go_wp2
      go_roundw
      case rel => first | exact .inr ⟨by go_num, HB1⟩ | ((repeat apply Exists.intro); exact ⟨.inr ⟨by go_num, HB1⟩, rfl⟩)
      case measure => simp [intOf]
    · go_wp2
      go_ret
      exact ⟨rfl, HB.out⟩

set_option maxRecDepth 10000 in
theorem pconm1 (N : ByteArray) (bd bq bx g : Nat) (d : Int) (hd : 0 ≤ d ∧ d ≤ 100) (w : World) (hq : Ob w bq #[downV bd bq] 90) (hx : Ob w bx #[.int .i64 d] 3) (hg : Ob w g (msg0 N) 30) :
    Calls Try.prog 35 #[.slice (some ⟨g, 0, none⟩) 1 1, .func (.func 36) #[] #[.pointer (some ⟨bq, 0, none⟩), .pointer (some ⟨bx, 0, none⟩)]] w fun e w' => e = .returned (.bool false) ∧ Below w.heap.size w w' := by
  have Q : Hid _ := pidxm1 N bd bq bx g d hd w hq hx hg
  go_enter Try.func35, Try.ntmps35
  go_wp2_with fail
  refine Calls.mono Q.out ?_
  rintro e w1 ⟨rfl, hb1⟩
  go_wp2
  go_ret
  exact ⟨rfl, hb1⟩

/-- A file with one message alone. -/
def fil1 (A K Y : ByteArray) (gm : Nat) : Array Value := #[.string A, .string K, .slice none 0 0, .slice none 0 0, .slice (some ⟨gm, 0, none⟩) 1 1, .slice none 0 0, .slice none 0 0, .slice none 0 0, .string Y, .slice none 0 0, .slice none 0 0]

set_option maxRecDepth 10000 in
set_option maxHeartbeats 1000000 in
theorem pdownF (N : ByteArray) (bd bq g : Nat) (w : World) (hd : Ob w bd #[.int .i64 0] 3) (hq : Ob w bq #[downV bd bq] 90) (hg : Ob w g (msg0 N) 30) (hne : bd ≠ bq) (hne2 : bd ≠ g) :
    Calls Try.prog 34 #[.slice (some ⟨g, 0, none⟩) 1 1, .int .i64 1, .pointer (some ⟨bd, 0, none⟩), .pointer (some ⟨bq, 0, none⟩)] w fun e w' => e = .returned (.bool true) ∧ Ob w' bd #[.int .i64 1] 3 ∧ ∀ B, B ≤ bd → Below B w w' := by
  obtain ⟨w3, hw3⟩ : ∃ w3, w3 = (w.setCell ⟨bd, 0, none⟩ (.int .i64 1)).alloc (.cells #[.int .i64 1] 3) := ⟨_, rfl⟩
  have hsz : w3.heap.size = w.heap.size + 1 := by rw [hw3]; simp
  have od : Ob w3 bd #[.int .i64 1] 3 := by rw [hw3]; have := (hd.set 0 (.int .i64 1)).alloc (.cells #[.int .i64 1] 3); simpa using this
  have oq : Ob w3 bq #[downV bd bq] 90 := by rw [hw3]; exact (hq.other (Ne.symm hne) _ _).alloc _
  have og : Ob w3 g (msg0 N) 30 := by rw [hw3]; exact (hg.other (Ne.symm hne2) _ _).alloc _
  have ox : Ob w3 w.heap.size #[.int .i64 1] 3 := by rw [hw3]; have := Ob.new (w.setCell ⟨bd, 0, none⟩ (.int .i64 1)) #[.int .i64 1] 3; simpa using this
  have HB : Hid (∀ B, B ≤ bd → Below B w w3) := fun B hB => by rw [hw3]; exact ((Below.refl B w).setCell (p := ⟨bd, 0, none⟩) hB _).alloc (by have := hd.lt; simp; omega) _
  have Q : Hid _ := pconm1 N bd bq w.heap.size g 1 (by omega) w3 oq ox og
  obtain ⟨c1, f1, l1⟩ := ob1 hd
  obtain ⟨c2, f2, l2⟩ := ob1 ox
  have OD : Hid _ := od
  have HW : Hid _ := hw3
  have hmf : ∀ (fn : Fn) (first cap : Array Value) (w : World), (Instr.makeFunc fn first cap).run Try.prog w = .ok (.func fn first cap) w := fun _ _ _ _ => rfl
  clear hd hq hg od oq og ox hw3
  go_enter Try.func34, Try.ntmps34
  go_upto_region 4 with fail
  rw [show (max 0 1 : Int) = 1 from rfl, ← HW.out]
  clear HW c1 f1
  go_wp2_with fail
  refine Calls.mono Q.out ?_
  rintro e w4 ⟨rfl, hb4⟩
  go_wp2
  go_ret
  exact ⟨rfl, OD.out.below hb4 OD.out.lt, fun B hB => (HB.out B hB).trans (hb4.mono (Nat.le_trans hB (Nat.le_of_lt OD.out.lt)))⟩

theorem downV_one (bd bq : Nat) : (downV bd bq).oneCell' = true := rfl

set_option maxRecDepth 10000 in
set_option maxHeartbeats 1000000 in
theorem pdeepF (A K Y N : ByteArray) (gm : Nat) (w : World) (hg : Ob w gm (msg0 N) 30) :
    Calls Try.prog 23 #[.agg (fil1 A K Y gm)] w fun e w' => e = .returned (.int .i64 1) ∧ Below w.heap.size w w' := by
  unfold fil1
  obtain ⟨w3, hw3⟩ : ∃ w3, w3 = ((w.alloc (.cells #[.string A, .string K, .slice none 0 0, .slice none 0 0, .slice (some ⟨gm, 0, none⟩) 1 1, .slice none 0 0, .slice none 0 0, .slice none 0 0, .string Y, .slice none 0 0, .slice none 0 0] 36)).alloc (.cells #[.int .i64 0] 3)).alloc (.cells #[.func (.func 34) #[] #[.pointer (some ⟨w.heap.size + 1, 0, none⟩), .pointer (some ⟨w.heap.size + 1 + 1, 0, none⟩)]] 90) := ⟨_, rfl⟩
  have o0 : Ob w3 w.heap.size #[.string A, .string K, .slice none 0 0, .slice none 0 0, .slice (some ⟨gm, 0, none⟩) 1 1, .slice none 0 0, .slice none 0 0, .slice none 0 0, .string Y, .slice none 0 0, .slice none 0 0] 36 := by rw [hw3]; exact ((Ob.new w _ _).alloc _).alloc _
  have od : Ob w3 (w.heap.size + 1) #[.int .i64 0] 3 := by
    rw [hw3]
    have := (Ob.new (w.alloc (.cells #[.string A, .string K, .slice none 0 0, .slice none 0 0, .slice (some ⟨gm, 0, none⟩) 1 1, .slice none 0 0, .slice none 0 0, .slice none 0 0, .string Y, .slice none 0 0, .slice none 0 0] 36)) #[.int .i64 0] 3).alloc (.cells #[.func (.func 34) #[] #[.pointer (some ⟨w.heap.size + 1, 0, none⟩), .pointer (some ⟨w.heap.size + 1 + 1, 0, none⟩)]] 90)
    simpa using this
  have oq : Ob w3 (w.heap.size + 1 + 1) #[downV (w.heap.size + 1) (w.heap.size + 1 + 1)] 90 := by
    rw [hw3]
    have := Ob.new ((w.alloc (.cells #[.string A, .string K, .slice none 0 0, .slice none 0 0, .slice (some ⟨gm, 0, none⟩) 1 1, .slice none 0 0, .slice none 0 0, .slice none 0 0, .string Y, .slice none 0 0, .slice none 0 0] 36)).alloc (.cells #[.int .i64 0] 3)) #[downV (w.heap.size + 1) (w.heap.size + 1 + 1)] 90
    simpa [downV] using this
  have hb3 : Below w.heap.size w w3 := by rw [hw3]; exact (((Below.refl _ w).alloc (Nat.le_refl _) _).alloc (by simp) _).alloc (by simp; omega) _
  have og := hg.below hb3 hg.lt
  have hgl := hg.lt
  have Q : Hid _ := pdownF N (w.heap.size + 1) (w.heap.size + 1 + 1) gm w3 od oq og (by omega) (by omega)
  have c4 : w3.cell? ⟨w.heap.size, 4, none⟩ = some (.slice (some ⟨gm, 0, none⟩) 1 1) := o0.cell 4 rfl
  obtain ⟨c5, f5, l5⟩ := ob1 oq
  unfold downV at c5
  have hl0 := o0.lt
  have HB3 : Hid _ := hb3
  have HW : Hid _ := hw3
  have hmf : ∀ (fn : Fn) (first cap : Array Value) (w : World), (Instr.makeFunc fn first cap).run Try.prog w = .ok (.func fn first cap) w := fun _ _ _ _ => rfl
  have e4 : (((w.alloc (.cells #[.string A, .string K, .slice none 0 0, .slice none 0 0, .slice (some ⟨gm, 0, none⟩) 1 1, .slice none 0 0, .slice none 0 0, .slice none 0 0, .string Y, .slice none 0 0, .slice none 0 0] 36)).alloc (.cells #[.int .i64 0] 3)).alloc (.cells #[.nilFunc] 90)).heap[w.heap.size + 1 + 1]? = some (.cells #[.nilFunc] 90 (0, 0)) := by
    have := heap_alloc_new ((w.alloc (.cells #[.string A, .string K, .slice none 0 0, .slice none 0 0, .slice (some ⟨gm, 0, none⟩) 1 1, .slice none 0 0, .slice none 0 0, .slice none 0 0, .string Y, .slice none 0 0, .slice none 0 0] 36)).alloc (.cells #[.int .i64 0] 3)) (.cells #[.nilFunc] 90)
    simpa using this
  obtain ⟨x4, y4, z4⟩ := ob1 (Ob.mk e4)
  clear o0 od oq og hb3 hw3 hg e4
  go_enter Try.func23, Try.ntmps23
  go_upto_region 4 with fail
  rw [← HW.out]
  clear HW x4 y4 z4
  go_wp2_with fail
  refine Calls.mono Q.out ?_
  rintro e w4 ⟨rfl, od4, hb4⟩
  obtain ⟨d1, d2, d3⟩ := ob1 od4
  have HB4 : Hid (Below w.heap.size w w4) := HB3.out.trans (hb4 _ (by omega))
  clear od4 hb4 c4 c5 f5 l5 HB3 Q
  go_wp2
  go_ret
  exact ⟨rfl, HB4.out⟩

set_option maxRecDepth 10000 in
set_option maxHeartbeats 1000000 in
theorem ptooF (A K Y N : ByteArray) (gm : Nat) (w : World) (hg : Ob w gm (msg0 N) 30) :
    Calls Try.prog 16 #[.agg (fil1 A K Y gm)] w fun e w' => e = .returned (.bool false) ∧ Below w.heap.size w w' := by
  obtain ⟨w3, hw3⟩ : ∃ w3, w3 = w.alloc (.cells (fil1 A K Y gm) 36) := ⟨_, rfl⟩
  have hb3 : Below w.heap.size w w3 := by rw [hw3]; exact (Below.refl _ w).alloc (Nat.le_refl _) _
  have o0 : Ob w3 w.heap.size (fil1 A K Y gm) 36 := by rw [hw3]; exact Ob.new _ _ _
  have Q : Hid _ := pdeepF A K Y N gm w3 (hg.below hb3 hg.lt)
  have HB3 : Hid _ := hb3
  have HW : Hid _ := hw3
  clear hg hb3 hw3
  unfold fil1 at *
  obtain ⟨⟨c0, c1, c2, c3, c4, c5, c6, c7, c8, c9, c10⟩, _, cl⟩ := ob11 o0
  clear o0
  go_enter Try.func16, Try.ntmps16
  go_upto_region 1 with fail
  rw [← HW.out]
  clear HW
  go_wp2_with fail
  refine Calls.mono Q.out ?_
  rintro e w4 ⟨rfl, hb4⟩
  have HB4 : Hid (Below w.heap.size w w4) := HB3.out.trans (hb4.mono HB3.out.size)
  clear hb4 c0 c1 c2 c3 c4 c5 c6 c7 c8 c9 c10 cl HB3 Q
  go_wp2
  go_ret
  exact ⟨rfl, HB4.out⟩

set_option maxRecDepth 10000 in
set_option maxHeartbeats 1000000 in
theorem pidxf1 (A K Y N : ByteArray) (gm g : Nat) (w : World) (hm : Ob w gm (msg0 N) 30) (hg : Ob w g (fil1 A K Y gm) 36) :
    Calls Try.prog 22 #[.slice (some ⟨g, 0, none⟩) 1 1, .func (.func 16) #[] #[]] w fun e w' => e = .returned (.int .i64 (-1)) ∧ Below w.heap.size w w' := by
  have Q : Hid _ := ptooF A K Y N gm w hm
  obtain ⟨⟨c0, c1, c2, c3, c4, c5, c6, c7, c8, c9, c10⟩, _, cl⟩ := ob11 (show Ob w g #[.string A, .string K, .slice none 0 0, .slice none 0 0, .slice (some ⟨gm, 0, none⟩) 1 1, .slice none 0 0, .slice none 0 0, .slice none 0 0, .string Y, .slice none 0 0, .slice none 0 0] 36 from hg)
  unfold fil1 at *
  clear hm
  clear hg
  go_enter Try.func22, Try.ntmps22
  go_wp2
  go_loopw [8] (fun v wr => (v = .int .i64 0 ∧ w = wr) ∨ (v = .int .i64 1 ∧ Hid (Below w.heap.size w wr))) (fun v _ => 1 - (intOf v).toNat)
  case atStart => exact .inl ⟨rfl, rfl⟩
  case round =>
    rcases hrel with ⟨rfl, rfl⟩ | ⟨rfl, HB⟩
    · go_wp2_with fail
      refine Calls.mono Q.out ?_
      rintro e w1 ⟨rfl, hb1⟩
      have HB1 : Hid _ := hb1
      clear hb1 Q c0 c1 c2 c3 c4 c5 c6 c7 c8 c9 c10
      go_wp2
      go_roundw
      case rel => first | exact .inr ⟨by go_num, HB1⟩ | ((repeat apply Exists.intro); exact ⟨.inr ⟨by go_num, HB1⟩, rfl⟩)
      case measure => simp [intOf]
    · go_wp2
      go_ret
      exact ⟨rfl, HB.out⟩

set_option maxRecDepth 10000 in
theorem pconf1 (A K Y N : ByteArray) (gm g : Nat) (w : World) (hm : Ob w gm (msg0 N) 30) (hg : Ob w g (fil1 A K Y gm) 36) :
    Calls Try.prog 15 #[.slice (some ⟨g, 0, none⟩) 1 1, .func (.func 16) #[] #[]] w fun e w' => e = .returned (.bool false) ∧ Below w.heap.size w w' := by
  have Q : Hid _ := pidxf1 A K Y N gm g w hm hg
  go_enter Try.func15, Try.ntmps15
  go_wp2_with fail
  refine Calls.mono Q.out ?_
  rintro e w1 ⟨rfl, hb1⟩
  go_wp2
  go_ret
  exact ⟨rfl, hb1⟩

end Go.Proofs.Ytjbppjemilijdaa

/- What a file's messages come to in a pool: the example's. -/
namespace Go.Proofs.Ytjbppjemilijdaa
open Go.RowKit
set_option linter.unusedVariables false
set_option linter.unusedSimpArgs false

set_option maxRecDepth 10000 in
set_option maxHeartbeats 1000000 in
theorem penums0 (x y s : Value) (a : Option Addr) (c : Nat) (w : World) :
    Calls Try.prog 42 #[.agg #[x, y], s, .slice a 0 c] w fun e w' => e = .returned (.tuple #[]) ∧ Below w.heap.size w w' := by
  obtain ⟨w3, hw3⟩ : ∃ w3, w3 = w.alloc (.cells #[x, y] 96) := ⟨_, rfl⟩
  have HB : Hid (Below w.heap.size w w3) := by rw [hw3]; exact (Below.refl _ _).alloc (Nat.le_refl _) _
  have HW : Hid _ := hw3
  clear hw3
  go_enter Try.func42, Try.ntmps42
  go_upto_region 1 with fail
  rw [← HW.out]
  clear HW
  go_wp2
  go_loopw [12] (fun v wr => v = .int .i64 0 ∧ w3 = wr) (fun _ _ => 0)
  case atStart => exact ⟨rfl, rfl⟩
  case round =>
    obtain ⟨rfl, rfl⟩ := hrel
    go_wp2
    go_end0
    exact ⟨rfl, HB.out⟩

set_option maxRecDepth 10000 in
set_option maxHeartbeats 1000000 in
theorem pservs0 (x y s : Value) (a : Option Addr) (c : Nat) (w : World) :
    Calls Try.prog 44 #[.agg #[x, y], s, .slice a 0 c] w fun e w' => e = .returned (.tuple #[]) ∧ Below w.heap.size w w' := by
  obtain ⟨w3, hw3⟩ : ∃ w3, w3 = w.alloc (.cells #[x, y] 96) := ⟨_, rfl⟩
  have HB : Hid (Below w.heap.size w w3) := by rw [hw3]; exact (Below.refl _ _).alloc (Nat.le_refl _) _
  have HW : Hid _ := hw3
  clear hw3
  go_enter Try.func44, Try.ntmps44
  go_upto_region 1 with fail
  rw [← HW.out]
  clear HW
  go_wp2
  go_loopw [13] (fun v wr => v = .int .i64 0 ∧ w3 = wr) (fun _ _ => 0)
  case atStart => exact ⟨rfl, rfl⟩
  case round =>
    obtain ⟨rfl, rfl⟩ := hrel
    go_wp2
    go_end0
    exact ⟨rfl, HB.out⟩

set_option maxRecDepth 10000 in
set_option maxHeartbeats 1000000 in
theorem pexts0 (x y s : Value) (a : Option Addr) (c : Nat) (w : World) :
    Calls Try.prog 43 #[.agg #[x, y], s, .slice a 0 c] w fun e w' => e = .returned (.tuple #[]) ∧ Below w.heap.size w w' := by
  obtain ⟨w3, hw3⟩ : ∃ w3, w3 = w.alloc (.cells #[x, y] 96) := ⟨_, rfl⟩
  have HB : Hid (Below w.heap.size w w3) := by rw [hw3]; exact (Below.refl _ _).alloc (Nat.le_refl _) _
  have HW : Hid _ := hw3
  clear hw3
  go_enter Try.func43, Try.ntmps43
  go_upto_region 1 with fail
  rw [← HW.out]
  clear HW
  go_wp2
  go_loopw [11] (fun v wr => v = .int .i64 0 ∧ w3 = wr) (fun _ _ => 0)
  case atStart => exact ⟨rfl, rfl⟩
  case round =>
    obtain ⟨rfl, rfl⟩ := hrel
    go_wp2
    go_end0
    exact ⟨rfl, HB.out⟩

/-- The closure that lays messages. -/
def layV (bh ba bq : Nat) : Value := .func (.func 39) #[] #[.pointer (some ⟨bh, 0, none⟩), .pointer (some ⟨ba, 0, none⟩), .pointer (some ⟨bq, 0, none⟩)]

theorem mk0 (w : World) : (Instr.makeSlice 23 (.int .i64 0) (.int .i64 0)).run Try.prog w = .ok (.slice (some ⟨w.heap.size, 0, none⟩) 0 0) (w.alloc (.cells #[] 30)) := by kernel_rfl

theorem mk1 (w : World) : (Instr.makeSlice 23 (.int .i64 1) (.int .i64 1)).run Try.prog w = .ok (.slice (some ⟨w.heap.size, 0, none⟩) 1 1) (w.alloc (.cells #[.string ⟨#[]⟩, .slice none 0 0, .slice none 0 0, .slice none 0 0, .slice none 0 0, .slice none 0 0, .slice none 0 0, .slice none 0 0, .slice none 0 0, .slice none 0 0, .slice none 0 0] 30)) := by kernel_rfl

set_option maxRecDepth 10000 in
set_option maxHeartbeats 1000000 in
theorem play0 (s p1 p2 p3 : Value) (a : Option Addr) (c : Nat) (w : World) :
    Calls Try.prog 39 #[s, .slice a 0 c, p1, p2, p3] w fun e w' => ∃ a' c', e = .returned (.slice a' 0 c') ∧ Below w.heap.size w w' := by
  have hmk := mk0 w
  have HB : Hid (Below w.heap.size w (w.alloc (.cells #[] 30))) := (Below.refl _ _).alloc (Nat.le_refl _) _
  obtain ⟨w3, hw3⟩ : ∃ w3, w3 = w.alloc (.cells #[] 30) := ⟨_, rfl⟩
  rw [← hw3] at hmk HB
  clear hw3
  go_enter Try.func39, Try.ntmps39
  go_wp2
  go_loopw [21] (fun v wr => v = .int .i64 0 ∧ w3 = wr) (fun _ _ => 0)
  case atStart => exact ⟨rfl, rfl⟩
  case round =>
    obtain ⟨rfl, rfl⟩ := hrel
    go_wp2
    go_ret
    exact ⟨_, _, rfl, HB.out⟩

theorem other11 {w : World} {b b' : Nat} {T : TypeId} {c : Array Value} (h : Ob w b' c T) (hne : b' ≠ b) (x0 x1 x2 x3 x4 x5 x6 x7 x8 x9 x10 : Value) :
    Ob (((((((((((w.setCell ⟨b, 0, none⟩ x0).setCell ⟨b, 1, none⟩ x1).setCell ⟨b, 2, none⟩ x2).setCell ⟨b, 3, none⟩ x3).setCell ⟨b, 4, none⟩ x4).setCell ⟨b, 5, none⟩ x5).setCell ⟨b, 6, none⟩ x6).setCell ⟨b, 7, none⟩ x7).setCell ⟨b, 8, none⟩ x8).setCell ⟨b, 9, none⟩ x9).setCell ⟨b, 10, none⟩ x10) b' c T :=
  ((((((((((h.other hne 0 x0).other hne 1 x1).other hne 2 x2).other hne 3 x3).other hne 4 x4).other hne 5 x5).other hne 6 x6).other hne 7 x7).other hne 8 x8).other hne 9 x9).other hne 10 x10

/-- What the closure that lays messages finds in memory. -/
structure Lz (W w : World) (bh ba bq bp bs be : Nat) (vf : Value) (H : ByteArray) (n : Nat) (g : ByteArray → Option Value) : Prop where
  po : Po w bp bs be vf n g
  hb : Ob w bh #[.pointer (some ⟨bp, 0, none⟩), .string H] 96
  ab : Ob w ba #[.int .i64 1, .bool false] 93
  qb : Ob w bq #[layV bh ba bq] 98
  lt : bh < W.heap.size ∧ ba < W.heap.size ∧ bq < W.heap.size ∧ bp < W.heap.size ∧ bs < W.heap.size ∧ be < W.heap.size
  ne : bh ≠ bs ∧ ba ≠ bs ∧ bq ≠ bs
  gr : W.grownBy w (some bs)

theorem Lz.keep {W w w' : World} {bh ba bq bp bs be : Nat} {vf : Value} {H : ByteArray} {n : Nat} {g : ByteArray → Option Value} (h : Lz W w bh ba bq bp bs be vf H n g) {B : Nat} (hb : Below B w w') (hB : W.heap.size ≤ B) : Lz W w' bh ba bq bp bs be vf H n g := by
  obtain ⟨l1, l2, l3, l4, l5, l6⟩ := h.lt
  refine ⟨⟨h.po.blk.below hb (by omega), h.po.sym.below hb (by omega), h.po.ext.below hb (by omega), h.po.ne, h.po.sl⟩, h.hb.below hb (by omega), h.ab.below hb (by omega), h.qb.below hb (by omega), h.lt, h.ne, ?_⟩
  obtain ⟨a1, a2, a3, a4, a5⟩ := h.gr
  exact ⟨by first | exact hb.os.trans a1 | exact a1.trans hb.os, by first | exact hb.tape.trans a2 | exact a2.trans hb.tape, by first | exact hb.output.trans a3 | exact a3.trans hb.output, Nat.le_trans a4 hb.size, fun k hk hne => (hb.block k (by omega)).trans (a5 k hk hne)⟩

theorem Lz.put {W w w' : World} {bh ba bq bp bs be : Nat} {vf : Value} {H : ByteArray} {n n' : Nat} {g g' : ByteArray → Option Value} (h : Lz W w bh ba bq bp bs be vf H n g) (hg : w.grownBy w' (some bs)) (hm : Mg w' bs n' g') : Lz W w' bh ba bq bp bs be vf H n' g' :=
  ⟨h.po.put hg hm, h.hb.grown hg (fun e => h.ne.1 (Option.some.inj e)), h.ab.grown hg (fun e => h.ne.2.1 (Option.some.inj e)), h.qb.grown hg (fun e => h.ne.2.2 (Option.some.inj e)), h.lt, h.ne, grown_transV h.gr hg⟩

set_option maxRecDepth 100000 in
set_option maxHeartbeats 8000000 in
theorem play1 (sc nm : List Int) (hsb : Hid (byts sc)) (hnb : Hid (byts nm)) (hsl : sc.length ≤ 5000) (hnl : nm.length ≤ 4000) (H : ByteArray) (W : World) {bh ba bq bp bs be gm : Nat} {vf : Value} {n : Nat} {g : ByteArray → Option Value} (hL : Hid (Lz W W bh ba bq bp bs be vf H n g)) (hgm : Ob W gm (msg0 (strOfNums nm)) 30) (hg : g (strOfNums (njoin sc nm)) = none) :
    Calls Try.prog 39 #[.string (strOfNums sc), .slice (some ⟨gm, 0, none⟩) 1 1, .pointer (some ⟨bh, 0, none⟩), .pointer (some ⟨ba, 0, none⟩), .pointer (some ⟨bq, 0, none⟩)] W fun e W' => e = .returned (.slice (some ⟨W.heap.size, 0, none⟩) 1 1) ∧ Lz W W' bh ba bq bp bs be vf H (n + 1) (gput g (strOfNums (njoin sc nm)) (.agg #[.int .i64 2, .string H, .pointer (some ⟨W.heap.size, 0, none⟩), .pointer none, .pointer none])) := by
  have hmk := mk1 W
  obtain ⟨w1, hw1⟩ : ∃ w1, w1 = W.alloc (.cells #[.string ⟨#[]⟩, .slice none 0 0, .slice none 0 0, .slice none 0 0, .slice none 0 0, .slice none 0 0, .slice none 0 0, .slice none 0 0, .slice none 0 0, .slice none 0 0, .slice none 0 0] 30) := ⟨_, rfl⟩
  rw [← hw1] at hmk
  have hb1 : Below W.heap.size W w1 := by rw [hw1]; exact (Below.refl _ _).alloc (Nat.le_refl _) _
  have k1 : Ob w1 W.heap.size #[.string ⟨#[]⟩, .slice none 0 0, .slice none 0 0, .slice none 0 0, .slice none 0 0, .slice none 0 0, .slice none 0 0, .slice none 0 0, .slice none 0 0, .slice none 0 0, .slice none 0 0] 30 := by rw [hw1]; exact Ob.new _ _ _
  have hs1 : w1.heap.size = W.heap.size + 1 := by rw [hw1]; simp
  have g1 := hgm.below hb1 hgm.lt
  have L1 : Hid (Lz W w1 bh ba bq bp bs be vf H n g) := hL.out.keep hb1 (Nat.le_refl _)
  have K1 : Hid _ := k1
  have G1 : Hid _ := g1
  have HS1 : Hid _ := hs1
  have HG : Hid _ := hg
  have hgl : gm < W.heap.size := hgm.lt
  have hks : (strOfNums nm).size ≤ 1000000 := by rw [strOfNums_size]; omega
  have HKS : Hid _ := hks
  have HNL : Hid (sc.length ≤ 10000 ∧ nm.length ≤ 10000) := ⟨by omega, by omega⟩
  clear hw1 hb1 k1 g1 hL hgm hs1 hg hks hsl hnl
  go_enter Try.func39, Try.ntmps39
  go_wp2
  go_loopw [21] (fun v wr => (v = .int .i64 0 ∧ w1 = wr) ∨ (v = .int .i64 1 ∧ Hid (Lz W wr bh ba bq bp bs be vf H (n + 1) (gput g (strOfNums (njoin sc nm)) (.agg #[.int .i64 2, .string H, .pointer (some ⟨W.heap.size, 0, none⟩), .pointer none, .pointer none]))))) (fun v _ => 1 - (intOf v).toNat)
  case atStart => exact .inl ⟨rfl, rfl⟩
  case round =>
    rcases hrel with ⟨rfl, rfl⟩ | ⟨rfl, HL⟩
    · obtain ⟨w2, hw2⟩ : ∃ w2, w2 = w1.alloc (.cells (msg0 (strOfNums nm)) 30) := ⟨_, rfl⟩
      have hb2 : Below w1.heap.size w1 w2 := by rw [hw2]; exact (Below.refl _ _).alloc (Nat.le_refl _) _
      have m2 : Ob w2 w1.heap.size (msg0 (strOfNums nm)) 30 := by rw [hw2]; exact Ob.new _ _ _
      have k2 := K1.out.below hb2 K1.out.lt
      have L2 : Hid (Lz W w2 bh ba bq bp bs be vf H n g) := L1.out.keep hb2 (by rw [HS1.out]; omega)
      have h2 := L2.out.hb
      have a0 := fun x : Ext w2 => x.cell (p := ⟨bh, 0, none⟩) h2.lt (h2.cell 0 rfl)
      have a1 := fun x : Ext w2 => x.cell (p := ⟨bh, 1, none⟩) h2.lt (h2.cell 1 rfl)
      have b0 := fun x : Ext w2 => x.cell (p := ⟨w1.heap.size, 0, none⟩) m2.lt (m2.cell 0 rfl)
      obtain ⟨⟨i0, i1, i2, i3, i4, i5, i6, i7, i8, i9, i10⟩, _, il⟩ := ob11 (show Ob w1 gm #[.string (strOfNums nm), .slice none 0 0, .slice none 0 0, .slice none 0 0, .slice none 0 0, .slice none 0 0, .slice none 0 0, .slice none 0 0, .slice none 0 0, .slice none 0 0, .slice none 0 0] 30 from G1.out)
      have kl : W.heap.size < w2.heap.size := k2.lt
      have K2 : Hid _ := k2
      have M2 : Hid _ := m2
      have HW2 : Hid _ := hw2
      have QP : Hid _ := fun V (hV : Below w2.heap.size w2 V) => pput0 H sc nm hsb hnb HNL.out.1 HNL.out.2 2 (some ⟨W.heap.size, 0, none⟩) none none V (show Hid _ from L2.out.po.below hV (Nat.le_refl _)) HG.out
      clear hb2 m2 k2 h2 hw2
      unfold msg0 at *
      generalize hF : strOfNums (njoin sc nm) = F at *
      generalize strOfNums nm = N at *
      generalize strOfNums sc = S at *
      go_upto_region 5 with fail
      rw [← HW2.out]
      clear HW2 i0 i1 i2 i3 i4 i5 i6 i7 i8 i9 i10 il
      refine wp_region_then w2 8 2 rfl (Below.refl _ _) (by kernel_rfl) (by kernel_rfl) (by kernel_rfl) (by kernel_rfl) ?_
      simp only [List.take]
      repeat (go_big_quiet_step (fail))
      refine wpQuiet_nil ?_
      rintro w3 ⟨⟨_, hb3⟩, rfl⟩
      have QP3 : Hid _ := QP.out w3 hb3
      have HB3 : Hid _ := hb3
      clear hb3 a0 a1 QP
      refine wpAny_force (i := 8) (by kernel_rfl) rfl ?_
      intro Q' hQ' hPn
      have HQ : Hid _ := hQ'
      clear hQ' hPn
      go_wp2_with fail
      refine Calls.mono QP3.out ?_
      rintro e w4 ⟨rfl, hg4, hm4⟩
      have hbs : bs < W.heap.size := L2.out.lt.2.2.2.2.1
      have hs1' := HS1.out
      have l4 := (L2.out.keep HB3.out (by omega)).put hg4 hm4
      have k4 := (K2.out.below HB3.out K2.out.lt).grown hg4 (fun e => by have := Option.some.inj e; omega)
      have m4 := (M2.out.below HB3.out M2.out.lt).grown hg4 (fun e => by have := Option.some.inj e; omega)
      have L4 : Hid _ := l4
      have K4 : Hid _ := k4
      have M4 : Hid _ := m4
      clear hg4 hm4 l4 k4 m4 QP3 HB3 L2 K2 M2 L1 K1 G1 hs1'
      go_wp2
      refine HQ.out _ _ ?_
      clear HQ
      refine wpAny_force (i := 9) (by kernel_rfl) rfl ?_
      intro Q' hQ' hPn
      have HQ : Hid _ := hQ'
      clear hQ' hPn
      go_wp2
      refine HQ.out _ _ ?_
      clear HQ
      refine wpAny_end (by kernel_rfl) ?_
      have QM : Hid _ := pwmsg0 N HKS.out w4
      unfold msg0 at QM
      obtain ⟨⟨c0, c1⟩, _, cl⟩ := ob2 L4.out.ab
      obtain ⟨⟨d0, d1, d2, d3, d4, d5, d6, d7, d8, d9, d10⟩, _, dl⟩ := ob11 M4.out
      have kl4 : W.heap.size < w4.heap.size := K4.out.lt
      go_wp2_with fail
      refine Calls.mono QM.out ?_
      rintro e w5 ⟨rfl, hb5⟩
      have L5 : Hid _ := L4.out.keep hb5 (by omega)
      have k5 := K4.out.below hb5 K4.out.lt
      have M5 : Hid _ := M4.out.below hb5 M4.out.lt
      obtain ⟨⟨f0, f1, f2, f3, f4, f5, f6, f7, f8, f9, f10⟩, ⟨h0, h1, h2, h3, h4, h5, h6, h7, h8, h9, h10⟩, fl⟩ := ob11 k5
      have K5 : Hid _ := k5
      clear hb5 k5 QM L4 K4 M4 c0 c1 cl d0 d1 d2 d3 d4 d5 d6 d7 d8 d9 d10 dl kl4
      go_upto_region 7 with fail
      have k6 := set11 K5.out (.string N) (.slice none 0 0) (.slice none 0 0) (.slice none 0 0) (.slice none 0 0) (.slice none 0 0) (.slice none 0 0) (.slice none 0 0) (.slice none 0 0) (.slice none 0 0) (.slice none 0 0)
      have b6 := below11 (n := W.heap.size) W.heap.size (Nat.le_refl _) (Below.refl W.heap.size w5) (.string N) (.slice none 0 0) (.slice none 0 0) (.slice none 0 0) (.slice none 0 0) (.slice none 0 0) (.slice none 0 0) (.slice none 0 0) (.slice none 0 0) (.slice none 0 0) (.slice none 0 0)
      have m6 := other11 (b := W.heap.size) M5.out (by rw [HS1.out]; omega) (.string N) (.slice none 0 0) (.slice none 0 0) (.slice none 0 0) (.slice none 0 0) (.slice none 0 0) (.slice none 0 0) (.slice none 0 0) (.slice none 0 0) (.slice none 0 0) (.slice none 0 0)
      have l6 := L5.out.keep b6 (Nat.le_refl _)
      generalize (((((((((((w5.setCell ⟨W.heap.size, 0, none⟩ (.string N)).setCell ⟨W.heap.size, 1, none⟩ (.slice none 0 0)).setCell ⟨W.heap.size, 2, none⟩ (.slice none 0 0)).setCell ⟨W.heap.size, 3, none⟩ (.slice none 0 0)).setCell ⟨W.heap.size, 4, none⟩ (.slice none 0 0)).setCell ⟨W.heap.size, 5, none⟩ (.slice none 0 0)).setCell ⟨W.heap.size, 6, none⟩ (.slice none 0 0)).setCell ⟨W.heap.size, 7, none⟩ (.slice none 0 0)).setCell ⟨W.heap.size, 8, none⟩ (.slice none 0 0)).setCell ⟨W.heap.size, 9, none⟩ (.slice none 0 0)).setCell ⟨W.heap.size, 10, none⟩ (.slice none 0 0)) = w6 at *
      clear b6 f0 f1 f2 f3 f4 f5 f6 f7 f8 f9 f10 h0 h1 h2 h3 h4 h5 h6 h7 h8 h9 h10 fl K5 M5 L5
      have d1 : w6.cell? ⟨w1.heap.size, 1, none⟩ = some (.slice none 0 0) := m6.cell 1 rfl
      have d2 : w6.cell? ⟨w1.heap.size, 2, none⟩ = some (.slice none 0 0) := m6.cell 2 rfl
      have d6 : w6.cell? ⟨w1.heap.size, 6, none⟩ = some (.slice none 0 0) := m6.cell 6 rfl
      have dl : w1.heap.size < w6.heap.size := m6.lt
      obtain ⟨e1, _, el⟩ := ob1 l6.qb
      unfold layV at e1
      have QZ : Hid _ := fun (s p1 p2 p3 : Value) => play0 s p1 p2 p3 none 0 w6
      have K6 : Hid _ := k6
      have L6 : Hid _ := l6
      clear k6 m6 l6
      go_wp2
      go_loopw [44] (fun v wr => v = .int .i64 0 ∧ w6 = wr) (fun _ _ => 0)
      case atStart => exact ⟨rfl, rfl⟩
      case round =>
        obtain ⟨rfl, rfl⟩ := hrel
        go_wp2
        go_loopw [58] (fun v wr => v = .int .i64 0 ∧ w6 = wr) (fun _ _ => 0)
        case atStart => exact ⟨rfl, rfl⟩
        case round =>
          obtain ⟨rfl, rfl⟩ := hrel
          go_wp2_with fail
          refine Calls.mono (QZ.out _ _ _ _) ?_
          rintro e w7 ⟨na, nc, rfl, hb7⟩
          have k7 := K6.out.below hb7 K6.out.lt
          have L7 : Hid _ := L6.out.keep hb7 (Nat.le_of_lt K6.out.lt)
          obtain ⟨w8, hw8⟩ : ∃ w8, w8 = w7.setCell ⟨W.heap.size, 2, none⟩ (.slice na 0 nc) := ⟨_, rfl⟩
          have k8 : Ob w8 W.heap.size #[.string N, .slice none 0 0, .slice na 0 nc, .slice none 0 0, .slice none 0 0, .slice none 0 0, .slice none 0 0, .slice none 0 0, .slice none 0 0, .slice none 0 0, .slice none 0 0] 30 := by rw [hw8]; have := k7.set 2 (.slice na 0 nc); simpa using this
          have L8 : Hid _ := L7.out.keep (show Below W.heap.size w7 w8 by rw [hw8]; exact (Below.refl _ _).setCell (p := ⟨W.heap.size, 2, none⟩) (Nat.le_refl _) _) (Nat.le_refl _)
          have s1 : w7.cell? ⟨W.heap.size, 2, none⟩ = some (.slice none 0 0) := k7.cell 2 rfl
          have s2 : w7.frozen? ⟨W.heap.size, 2, none⟩ = false := k7.frozen 2
          have s3 : W.heap.size < w7.heap.size := k7.lt
          have q8 := L8.out.hb
          have a0 := fun x : Ext w8 => x.cell (p := ⟨bh, 0, none⟩) q8.lt (q8.cell 0 rfl)
          have a1 := fun x : Ext w8 => x.cell (p := ⟨bh, 1, none⟩) q8.lt (q8.cell 1 rfl)
          have a2 := fun x : Ext w8 => x.cell (p := ⟨W.heap.size, 3, none⟩) k8.lt (k8.cell 3 rfl)
          have K8 : Hid _ := k8
          have HW8 : Hid _ := hw8
          clear hb7 k7 k8 q8 hw8 L7 L6 K6 QZ d1 d2 d6 dl e1 el
          go_upto_region 18 with fail
          rw [← HW8.out]
          clear HW8 s1 s2 s3
          refine wp_region_ext w8 (Below.refl _ _) (by kernel_rfl) (by kernel_rfl) ?_
          repeat (go_big_quiet_step (first
            | (go_at_call 42; exact Ext.call (fun V hV => penums0 _ _ _ _ _ V) _)))
          refine wpQuiet_nil ?_
          rintro w9 ⟨⟨_, hb9⟩, rfl⟩
          have l9 := L8.out.keep hb9 (Nat.le_of_lt K8.out.lt)
          have k9 := K8.out.below hb9 K8.out.lt
          have q9 := l9.hb
          clear a0 a1 a2
          have a0 := fun x : Ext w9 => x.cell (p := ⟨bh, 0, none⟩) q9.lt (q9.cell 0 rfl)
          have a1 := fun x : Ext w9 => x.cell (p := ⟨bh, 1, none⟩) q9.lt (q9.cell 1 rfl)
          have a2 := fun x : Ext w9 => x.cell (p := ⟨W.heap.size, 5, none⟩) k9.lt (k9.cell 5 rfl)
          have L9 : Hid _ := l9
          have K9 : Hid (W.heap.size < w9.heap.size) := k9.lt
          clear l9 k9 q9 hb9 L8 K8
          go_upto_region 19 with fail
          refine wp_region_ext w9 (Below.refl _ _) (by kernel_rfl) (by kernel_rfl) ?_
          repeat (go_big_quiet_step (first
            | (go_at_call 43; exact Ext.call (fun V hV => pexts0 _ _ _ _ _ V) _)))
          refine wpQuiet_nil ?_
          rintro w10 ⟨⟨_, hb10⟩, rfl⟩
          have L10 : Hid _ := L9.out.keep hb10 (Nat.le_of_lt K9.out)
          clear a0 a1 a2 hb10 L9 K9
          go_wp2
          go_roundw
          case rel => first | exact .inr ⟨by go_num, L10⟩ | ((repeat apply Exists.intro); exact ⟨.inr ⟨by go_num, L10⟩, rfl⟩)
          case measure => simp [intOf]
    · go_wp2
      go_ret
      exact ⟨rfl, HL.out⟩

end Go.Proofs.Ytjbppjemilijdaa
