/- Put together by a program out of these texts of mine: JMap. -/
import Derived.Maps.Own
import Derived.Test.YtafmoceinamcdaaGreatBunS2

namespace Go.Proofs.YtafmoceinamcdaaGreat
open Go.RowKit
open Go.ChangeMaps (setBlock heap_setBlock_same heap_setBlock_other modify_eq_set)
set_option linter.unusedVariables false
set_option linter.unusedSimpArgs false

theorem strKeyed : Maps.Keyed Tryz.prog 9 := Maps.string_keyed Tryz.underlying9

def Mg (w : World) (b n : Nat) (g : ByteArray → Option Value) : Prop :=
  ∃ es clock, w.heap[b]? = some (.map es clock) ∧ MapKept.Stamped es clock ∧ (∀ e ∈ es.toList, ∃ k : ByteArray, e.key = .string k ∧ k.size ≤ maxLen) ∧ es.size = n ∧ ∀ k v, g k = some v ↔ ∃ e ∈ es.toList, e.key = .string k ∧ e.val = v

theorem keyStr {k : ByteArray} (h : k.size ≤ maxLen) : keyOf Tryz.prog 9 (.string k) = some (.string k.data.toList) := by
  have h1 := Tryz.underlying9
  simp [keyOf, h1, mapKey, h]

theorem Mg.lt {w : World} {b n : Nat} {g : ByteArray → Option Value} (h : Mg w b n g) : b < w.heap.size := by
  obtain ⟨es, clock, hb, _⟩ := h
  exact (Array.getElem?_eq_some_iff.1 hb).1

theorem Mg.made (w : World) : Mg (w.alloc (.map #[] 0)) w.heap.size 0 (fun _ => none) :=
  ⟨#[], 0, heap_alloc_new w _, MapKept.stamped_empty 0, by simp, rfl, by simp⟩

theorem Mg.kept {w w' : World} {b n : Nat} {g : ByteArray → Option Value} {row : Option Nat} (h : Mg w b n g) (hg : w.grownBy w' row) (hne : some b ≠ row) : Mg w' b n g := by
  have hlt := h.lt
  obtain ⟨es, clock, hb, r⟩ := h
  exact ⟨es, clock, (hg.block b hlt hne).trans hb, r⟩

theorem Mg.below {w w' : World} {b n : Nat} {g : ByteArray → Option Value} (h : Mg w b n g) {m : Nat} (hb : Below m w w') (hm : b < m) : Mg w' b n g := by
  obtain ⟨es, clock, h1, r⟩ := h
  exact ⟨es, clock, (hb.block b hm).trans h1, r⟩

def mlook (z : Value) : Option Value → Bool → Value
  | some v, true => .tuple #[v, .bool true]
  | none, true => .tuple #[z, .bool false]
  | some v, false => v
  | none, false => z

theorem Mg.look {w : World} {b n : Nat} {g : ByteArray → Option Value} (h : Mg w b n g) {t e : TypeId} (ht : Tryz.prog.underlying t = some (.map 9 e)) {z : Value} (hz : (zeroValue e).run Tryz.prog w = .ok z w) (k : ByteArray) (hk : k.size ≤ maxLen) (c : Bool) :
    (Instr.lookup t (.map (some b)) (.string k) c).run Tryz.prog w = .ok (mlook z (g k) c) w := by
  obtain ⟨es, clock, hb, hst, hkeys, hn, hg⟩ := h
  have hkey := keyStr hk
  rcases strKeyed.find w hkey es.toList (fun e he => by obtain ⟨x, hx, hxs⟩ := hkeys e he; rw [hx]; exact ⟨_, keyStr hxs⟩) with ⟨h1, h2⟩ | ⟨j, e0, h1, h2, h3⟩
  · have hgn : g k = none := by
      cases hq : g k with
      | none => rfl
      | some v => obtain ⟨e, he, hek, _⟩ := (hg k v).1 hq; exact absurd hek (h2 e he)
    rw [hgn]
    cases c <;> simp [Instr.lookup, run_underlying ht, MapKept.run_getObj_map hb, strKeyed.check w _ hkey, h1, hz, Result.andThen, mlook]
  · have hgs : g k = some e0.val := (hg k _).2 ⟨e0, List.mem_of_getElem? h2, h3, rfl⟩
    rw [hgs]
    cases c <;> simp [Instr.lookup, run_underlying ht, MapKept.run_getObj_map hb, strKeyed.check w _ hkey, h1, Result.andThen, mlook]

theorem Mg.put {w : World} {b n : Nat} {g : ByteArray → Option Value} (h : Mg w b n g) {t e : TypeId} (ht : Tryz.prog.underlying t = some (.map 9 e)) (k : ByteArray) (hk : k.size ≤ maxLen) (v : Value) :
    ∃ w', (Instr.mapUpdate t (.map (some b)) (.string k) v).run Tryz.prog w = .ok () w' ∧ Mg w' b (match g k with | none => n + 1 | some _ => n) (fun x => if x = k then some v else g x) ∧ w.grownBy w' (some b) := by
  obtain ⟨es, clock, hb, hst, hkeys, hn, hg⟩ := h
  have hkey := keyStr hk
  have grown : ∀ o : Obj, w.grownBy (setBlock w b o) (some b) := fun o => ⟨rfl, rfl, rfl, by simp [setBlock], fun i _ hi => heap_setBlock_other hb _ (fun e => hi (by rw [e]))⟩
  have sinj : ∀ {x y : ByteArray}, Value.string x = .string y → x = y := fun e => by simpa using e
  rcases strKeyed.find w hkey es.toList (fun e he => by obtain ⟨x, hx, hxs⟩ := hkeys e he; rw [hx]; exact ⟨_, keyStr hxs⟩) with ⟨h1, h2⟩ | ⟨j, e0, h1, h2, h3⟩
  · have hgn : g k = none := by
      cases hq : g k with
      | none => rfl
      | some v => obtain ⟨e, he, hek, _⟩ := (hg k v).1 hq; exact absurd hek (h2 e he)
    rw [hgn]
    refine ⟨setBlock w b (.map (es.push ⟨.string k, v, clock⟩) (clock + 1)), ?_, ⟨_, _, heap_setBlock_same hb _, MapKept.stamped_push hst h2, ?_, by simp [hn], ?_⟩, grown _⟩
    · simp [Instr.mapUpdate, run_underlying ht, MapKept.run_getObj_map hb, strKeyed.check w false hkey, h1, MapKept.run_setObj_map _ hb, Result.andThen, setBlock]
    · intro x hx
      simp only [Array.toList_push, List.mem_append, List.mem_singleton] at hx
      rcases hx with hx | rfl
      · exact hkeys x hx
      · exact ⟨k, rfl, hk⟩
    · intro x u
      simp only [Array.toList_push, List.mem_append, List.mem_singleton]
      by_cases hx : x = k
      · subst hx
        rw [if_pos rfl]
        constructor
        · intro hu
          exact ⟨_, .inr rfl, rfl, by simpa using hu⟩
        · rintro ⟨y, hy | rfl, hyk, hyv⟩
          · exact absurd hyk (h2 y hy)
          · simpa using hyv
      · rw [if_neg hx, hg]
        constructor
        · rintro ⟨y, hy, r⟩
          exact ⟨y, .inl hy, r⟩
        · rintro ⟨y, hy | rfl, hyk, hyv⟩
          · exact ⟨y, hy, hyk, hyv⟩
          · exact absurd (sinj hyk).symm hx
  · have hgs : g k = some e0.val := (hg k _).2 ⟨e0, List.mem_of_getElem? h2, h3, rfl⟩
    rw [hgs]
    have hj : es[j]? = some e0 := by simpa using h2
    have hjl : j < es.toList.length := (List.getElem?_eq_some_iff.1 h2).1
    have hlist : (es.modify j (fun e' => { e' with key := .string k, val := v })).toList = es.toList.set j { e0 with key := .string k, val := v } := by rw [Array.toList_modify, modify_eq_set _ _ _ _ h2]
    have hkeyf : ∀ e', es[j]? = some e' → ({ e' with key := .string k, val := v } : MapEntry).key = e'.key := fun e' he' => by rw [hj] at he'; cases he'; exact h3.symm
    have hpw := (MapKept.stamped_iff _ _).1 hst
    have other : ∀ (i : Nat) (e : MapEntry), es.toList[i]? = some e → i ≠ j → e.key ≠ .string k := by
      intro i e hi hne hek
      have hi' := (List.getElem?_eq_some_iff.1 hi)
      have hj' := (List.getElem?_eq_some_iff.1 h2)
      obtain ⟨hi1, hi2⟩ := hi'
      obtain ⟨hj1, hj2⟩ := hj'
      have pw := List.pairwise_iff_getElem.1 hpw.2.2
      rcases Nat.lt_or_gt_of_ne hne with hlt | hlt
      · exact pw i j hi1 hj1 hlt (by rw [hi2, hj2, hek, h3])
      · exact pw j i hj1 hi1 hlt (by rw [hi2, hj2, hek, h3])
    have who : ∀ x, x ∈ es.toList.set j { e0 with key := .string k, val := v } ↔ x = { e0 with key := .string k, val := v } ∨ (x ∈ es.toList ∧ x.key ≠ .string k) := by
      intro x
      constructor
      · intro hx
        obtain ⟨i, hi, ex⟩ := List.getElem_of_mem hx
        rw [List.getElem_set] at ex
        split at ex
        · exact Or.inl ex.symm
        · rename_i hne
          have hi' : i < es.toList.length := by simpa using hi
          exact Or.inr ⟨ex ▸ List.getElem_mem hi', other i x (by rw [List.getElem?_eq_getElem hi', ex]) (fun e => hne e.symm)⟩
      · rintro (rfl | ⟨hx, hxk⟩)
        · exact List.mem_iff_getElem.2 ⟨j, by simpa using hjl, by simp⟩
        · obtain ⟨i, hi⟩ := List.getElem?_of_mem hx
          have hij : i ≠ j := fun e => by subst e; rw [h2] at hi; cases hi; exact hxk h3
          have hi' := (List.getElem?_eq_some_iff.1 hi)
          obtain ⟨hi1, hi2⟩ := hi'
          exact List.mem_iff_getElem.2 ⟨i, by simpa using hi1, by rw [List.getElem_set_ne (fun e => hij e.symm)]; exact hi2⟩
    refine ⟨setBlock w b (.map (es.modify j (fun e' => { e' with key := .string k, val := v })) clock), ?_, ⟨_, _, heap_setBlock_same hb _, MapKept.stamped_modify hst _ _ (fun _ _ => rfl) (fun e' _ he' => hkeyf e' he'), ?_, by simp [hn], ?_⟩, grown _⟩
    · simp [Instr.mapUpdate, run_underlying ht, MapKept.run_getObj_map hb, strKeyed.check w false hkey, h1, hj, h3, strKeyed.stays w hkey, MapKept.run_setObj_map _ hb, Result.andThen, setBlock]
    · intro x hx
      have hx := hlist.subst (motive := fun l => x ∈ l) hx
      rcases (who x).1 hx with rfl | ⟨hx, _⟩
      · exact ⟨k, rfl, hk⟩
      · exact hkeys x hx
    · intro x u
      show (if x = k then some v else g x) = some u ↔ ∃ e ∈ (es.modify j (fun e' => { e' with key := .string k, val := v })).toList, e.key = .string x ∧ e.val = u
      rw [hlist]
      by_cases hx : x = k
      · subst hx
        rw [if_pos rfl]
        constructor
        · intro hu
          exact ⟨_, (who _).2 (.inl rfl), rfl, by simpa using hu⟩
        · rintro ⟨y, hy, hyk, hyv⟩
          rcases (who y).1 hy with rfl | ⟨_, h⟩
          · simpa using hyv
          · exact absurd hyk h
      · rw [if_neg hx, hg]
        constructor
        · rintro ⟨y, hy, hyk, r⟩
          exact ⟨y, (who y).2 (.inr ⟨hy, fun e => hx (sinj (hyk.symm.trans e))⟩), hyk, r⟩
        · rintro ⟨y, hy, hyk, hyv⟩
          rcases (who y).1 hy with rfl | ⟨hy, _⟩
          · exact absurd (sinj hyk).symm hx
          · exact ⟨y, hy, hyk, hyv⟩

end Go.Proofs.YtafmoceinamcdaaGreat
