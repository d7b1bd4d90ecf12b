/- Whether a text stands twice; the reference's walk in memory. -/
import Derived.Test.YtnkknkijnpdapaaHRef
namespace Go.Proofs.Ytnkknkijnpdapaa
open Go.RowKit
set_option linter.unusedVariables false
set_option linter.unusedSimpArgs false

theorem hdupA_yes : ∀ (ds pre : List ByteArray) (k : Nat) (d : ByteArray), ds[k]? = some d → d ∈ pre ++ ds.take k → hdupA pre ds = true
  | [], pre, k, d, h, _ => by simp at h
  | x :: ds, pre, 0, d, h, hm => by
    simp at h hm
    subst h
    simp [hdupA, (hin_iff pre x).2 hm]
  | x :: ds, pre, k + 1, d, h, hm => by
    have ih := hdupA_yes ds (pre ++ [x]) k d (by simpa using h) (by simpa using hm)
    simp [hdupA, ih]

theorem hdupA_no : ∀ (ds pre : List ByteArray), (∀ (k : Nat) (d : ByteArray), ds[k]? = some d → d ∉ pre ++ ds.take k) → hdupA pre ds = false
  | [], pre, _ => by simp [hdupA]
  | x :: ds, pre, h => by
    have h0 := h 0 x rfl
    have ih := hdupA_no ds (pre ++ [x]) (fun k d hk => by simpa using h (k + 1) d (by simpa using hk))
    have : hin pre x = false := by
      cases hq : hin pre x with
      | false => rfl
      | true => exact absurd (by simpa using (hin_iff _ _).1 hq) h0
    simp [hdupA, this, ih]

theorem hdup_yes {ds : List ByteArray} {k : Nat} {d : ByteArray} (h : ds[k]? = some d) (hm : hin (ds.take k) d = true) : hdup ds = true := hdupA_yes ds [] k d h (by simpa using (hin_iff _ _).1 hm)

theorem hdup_no {ds : List ByteArray} (h : ∀ (j : Nat), j < ds.length → ∀ d, ds[j]? = some d → hin (ds.take j) d = false) : hdup ds = false :=
  hdupA_no ds [] (fun k d hk hm => by
    have h1 := h k (List.getElem?_eq_some_iff.1 hk).1 d hk
    rw [List.nil_append] at hm
    rw [(hin_iff _ _).2 hm] at h1
    cases h1)

theorem Sb.take {w : World} {a : Option Addr} {len cap : Nat} {zs : List ByteArray} (h : Sb w a len cap zs) (k : Nat) (hk : k ≤ len) : Sb w a k cap (zs.take k) := by
  refine ⟨by rw [List.length_take, h.hlen]; omega, by have := h.h63; omega, Nat.le_trans hk h.hcap, h.hnil, fun hp => ?_⟩
  obtain ⟨b, off, h1, hlt, hc⟩ := h.hmem (by omega)
  refine ⟨b, off, h1, hlt, fun i z hi => hc i z ?_⟩
  rw [List.getElem?_take] at hi
  split at hi
  · exact hi
  · cases hi

/-- The reference's walk in memory: its own block, its two lists. -/
structure Wk (w : World) (g : Nat) (a : Option Addr) (len cap : Nat) (s : Hs) (vo vw : Value) : Prop where
  blk : w.heap[g]? = some (.cells #[.slice a len cap, vo, vw, .string s.path, .int .i64 s.e] 50 (0, 0))
  out : Sw w (g + 1) vo s.out
  way : Sw w (g + 1) vw s.way
  apart : vo.ownBlock = none ∨ vo.ownBlock ≠ vw.ownBlock

theorem Wk.lt {w : World} {g : Nat} {a : Option Addr} {len cap : Nat} {s : Hs} {vo vw : Value} (h : Wk w g a len cap s vo vw) : g < w.heap.size := (Array.getElem?_eq_some_iff.1 h.blk).1

theorem Wk.cells {w : World} {g : Nat} {a : Option Addr} {len cap : Nat} {s : Hs} {vo vw : Value} (h : Wk w g a len cap s vo vw) :
    w.cell? ⟨g, 0, none⟩ = some (.slice a len cap) ∧ w.cell? ⟨g, 1, none⟩ = some vo ∧ w.cell? ⟨g, 2, none⟩ = some vw ∧ w.cell? ⟨g, 3, none⟩ = some (.string s.path) ∧ w.cell? ⟨g, 4, none⟩ = some (.int .i64 s.e) := by
  refine ⟨?_, ?_, ?_, ?_, ?_⟩ <;> simp [World.cell?, h.blk]

theorem Wk.free {w : World} {g : Nat} {a : Option Addr} {len cap : Nat} {s : Hs} {vo vw : Value} (h : Wk w g a len cap s vo vw) (j : Nat) : w.frozen? ⟨g, j, none⟩ = false := by
  simp [World.frozen?, h.blk]

theorem Wk.under {w w' : World} {g : Nat} {a : Option Addr} {len cap : Nat} {s : Hs} {vo vw : Value} (h : Wk w g a len cap s vo vw) (hb : Below w.heap.size w w') : Wk w' g a len cap s vo vw :=
  ⟨(hb.block _ h.lt).trans h.blk, h.out.below hb, h.way.below hb, h.apart⟩

theorem own_set_low {w : World} {base : Nat} {e : TypeId} {sz n : Nat} {v : Value} {xs : List Value} (h : w.ownsRow base e sz v n xs) (g j : Nat) (u : Value) (hg : g < base) : (w.setCell ⟨g, j, none⟩ u).ownsRow base e sz v n xs := by
  refine ⟨h.1, ?_⟩
  rcases h.2 with h2 | ⟨b, cap, cur, h1, h2, h3, h4⟩
  · exact .inl h2
  · exact .inr ⟨b, cap, cur, h1, h2, (heap_setCell_other _ _ _ _ (by simp; omega)).trans h3, h4⟩

/-- The walk's block with one cell written. -/
theorem blk_set {w : World} {g : Nat} {cs : Array Value} {t : TypeId} (h : w.heap[g]? = some (.cells cs t (0, 0))) (j : Nat) (v : Value) : (w.setCell ⟨g, j, none⟩ v).heap[g]? = some (.cells (cs.setIfInBounds j v) t (0, 0)) := by
  rw [setCell_eq_setRow w g j cs t (0, 0) v h]
  exact setRow_heap w g cs _ t _ h

theorem Wk.fail {w : World} {g : Nat} {a : Option Addr} {len cap : Nat} {s : Hs} {vo vw : Value} (h : Wk w g a len cap s vo vw) (p : ByteArray) (c : Int) : Wk ((w.setCell ⟨g, 3, none⟩ (.string p)).setCell ⟨g, 4, none⟩ (.int .i64 c)) g a len cap { s with path := p, e := c } vo vw := by
  refine ⟨?_, own_set_low (own_set_low h.out g 3 _ (by omega)) g 4 _ (by omega), own_set_low (own_set_low h.way g 3 _ (by omega)) g 4 _ (by omega), h.apart⟩
  rw [blk_set (blk_set h.blk 3 _) 4 _]
  simp

theorem Wk.setWay {w : World} {g : Nat} {a : Option Addr} {len cap : Nat} {s : Hs} {vo vw : Value} (h : w.heap[g]? = some (.cells #[.slice a len cap, vo, vw, .string s.path, .int .i64 s.e] 50 (0, 0))) (ho : Sw w (g + 1) vo s.out) {vw' : Value} {way : List ByteArray} (hw : Sw w (g + 1) vw' way) (hap : vo.ownBlock = none ∨ vo.ownBlock ≠ vw'.ownBlock) : Wk (w.setCell ⟨g, 2, none⟩ vw') g a len cap { s with way := way } vo vw' := by
  refine ⟨?_, own_set_low ho g 2 _ (by omega), own_set_low hw g 2 _ (by omega), hap⟩
  rw [blk_set h 2 _]
  simp

theorem Wk.setOut {w : World} {g : Nat} {a : Option Addr} {len cap : Nat} {s : Hs} {vo vw : Value} (h : w.heap[g]? = some (.cells #[.slice a len cap, vo, vw, .string s.path, .int .i64 s.e] 50 (0, 0))) (hw : Sw w (g + 1) vw s.way) {vo' : Value} {out : List ByteArray} (ho : Sw w (g + 1) vo' out) (hap : vo'.ownBlock = none ∨ vo'.ownBlock ≠ vw.ownBlock) : Wk (w.setCell ⟨g, 1, none⟩ vo') g a len cap { s with out := out } vo' vw := by
  refine ⟨?_, own_set_low ho g 1 _ (by omega), own_set_low hw g 1 _ (by omega), hap⟩
  rw [blk_set h 1 _]
  simp

/-- One fewer. -/
theorem Sw.cut {w : World} {base : Nat} {a : Option Addr} {n cap : Nat} {zs : List ByteArray} {z : ByteArray} (h : Sw w base (.slice a n cap) (zs ++ [z])) : Sw w base (.slice a zs.length cap) zs := by
  refine ⟨by simp, ?_⟩
  rcases h.2 with ⟨_, hn⟩ | ⟨g, c, cur, he, hg, hh, h1, h2, h3, h4⟩
  · simp at hn
  · simp only [Value.slice.injEq] at he
    obtain ⟨rfl, _, rfl⟩ := he
    refine .inr ⟨g, cap, cur, rfl, hg, hh, by simp at h1; omega, h2, h3, ?_⟩
    simp only [List.length_append, List.length_cons, List.length_nil, Nat.mul_one, List.map_append, List.map_cons, List.map_nil] at h4 ⊢
    have h5 : List.take zs.length (List.take (zs.length + (0 + 1)) cur.toList) = List.take zs.length (List.map Value.string zs ++ [Value.string z]) := by rw [h4]
    have h6 : List.take zs.length (List.map Value.string zs ++ [Value.string z]) = List.map Value.string zs := List.take_left' (by simp)
    rw [List.take_take, h6, Nat.min_eq_left (by omega)] at h5
    exact h5

theorem own_at {w : World} {base : Nat} {v : Value} {zs : List ByteArray} (h : Sw w base v zs) {k : Nat} (hk : v.ownBlock = some k) : base ≤ k ∧ k < w.heap.size := h.lt k hk

/-- One more on the way. -/
theorem Wk.pushWay {w1 w3 : World} {g : Nat} {a : Option Addr} {len cap : Nat} {s : Hs} {vo vw v' : Value} {p : ByteArray} (h : Wk w1 g a len cap s vo vw) (hN : Sw w3 (g + 1) v' (s.way ++ [p])) (hg : (w1.alloc (.cells #[.string p] 9)).grownBy w3 vw.ownBlock) (hat : v'.ownBlock = vw.ownBlock ∨ v'.ownBlock = some (w1.alloc (.cells #[.string p] 9)).heap.size) :
    w3.cell? ⟨g, 2, none⟩ = some vw ∧ g < w3.heap.size ∧ w3.frozen? ⟨g, 2, none⟩ = false ∧ Wk (w3.setCell ⟨g, 2, none⟩ v') g a len cap { s with way := s.way ++ [p] } vo v' ∧ ∀ B, B ≤ g → Below B w1 w3 := by
  have hA : Below w1.heap.size w1 (w1.alloc (.cells #[.string p] 9)) := (Below.refl _ _).alloc (Nat.le_refl _) _
  have hlt := h.lt
  have hA1 := h.under hA
  have hgn : some g ≠ vw.ownBlock := fun e => by have := (own_at h.way e.symm).1; omega
  have hb : w3.heap[g]? = some (.cells #[.slice a len cap, vo, vw, .string s.path, .int .i64 s.e] 50 (0, 0)) := (hg.block g hA1.lt hgn).trans hA1.blk
  have hlt3 : g < w3.heap.size := (Array.getElem?_eq_some_iff.1 hb).1
  have ho : Sw w3 (g + 1) vo s.out := World.ownsRow.kept hA1.out hg h.apart
  refine ⟨by simp [World.cell?, hb], hlt3, by simp [World.frozen?, hb], Wk.setWay hb ho hN ?_, fun B hB => (hA.mono (by omega)).grown hg (by have := hA.size; omega) (fun k hk => by have := (own_at h.way hk).1; omega)⟩
  rcases h.apart with h1 | h1
  · exact .inl h1
  · rcases hat with h2 | h2
    · right; rw [h2]; exact h1
    · right
      rw [h2]
      intro e
      have := (own_at h.out e).2
      simp only [World.size_alloc] at this
      omega

/-- One more that is there. -/
theorem Wk.pushOut {w1 w3 : World} {g : Nat} {a : Option Addr} {len cap : Nat} {s : Hs} {vo vw v' : Value} {p : ByteArray} (h : Wk w1 g a len cap s vo vw) (hN : Sw w3 (g + 1) v' (s.out ++ [p])) (hg : (w1.alloc (.cells #[.string p] 9)).grownBy w3 vo.ownBlock) (hat : v'.ownBlock = vo.ownBlock ∨ v'.ownBlock = some (w1.alloc (.cells #[.string p] 9)).heap.size) :
    w3.cell? ⟨g, 1, none⟩ = some vo ∧ g < w3.heap.size ∧ w3.frozen? ⟨g, 1, none⟩ = false ∧ Wk (w3.setCell ⟨g, 1, none⟩ v') g a len cap { s with out := s.out ++ [p] } v' vw ∧ ∀ B, B ≤ g → Below B w1 w3 := by
  have hA : Below w1.heap.size w1 (w1.alloc (.cells #[.string p] 9)) := (Below.refl _ _).alloc (Nat.le_refl _) _
  have hlt := h.lt
  have hA1 := h.under hA
  have hgn : some g ≠ vo.ownBlock := fun e => by have := (own_at h.out e.symm).1; omega
  have hb : w3.heap[g]? = some (.cells #[.slice a len cap, vo, vw, .string s.path, .int .i64 s.e] 50 (0, 0)) := (hg.block g hA1.lt hgn).trans hA1.blk
  have hlt3 : g < w3.heap.size := (Array.getElem?_eq_some_iff.1 hb).1
  have hwy : vw.ownBlock = none ∨ vw.ownBlock ≠ vo.ownBlock := by
    rcases h.apart with h1 | h1
    · cases hq : vw.ownBlock with
      | none => left; rfl
      | some k => right; rw [h1]; simp
    · exact .inr (Ne.symm h1)
  have hw : Sw w3 (g + 1) vw s.way := World.ownsRow.kept hA1.way hg hwy
  refine ⟨by simp [World.cell?, hb], hlt3, by simp [World.frozen?, hb], Wk.setOut hb hw hN ?_, fun B hB => (hA.mono (by omega)).grown hg (by have := hA.size; omega) (fun k hk => by have := (own_at h.out hk).1; omega)⟩
  rcases hat with h2 | h2
  · rcases h.apart with h1 | h1
    · left; rw [h2]; exact h1
    · right; rw [h2]; exact h1
  · right
    rw [h2]
    intro e
    have := (own_at h.way e.symm).2
    simp only [World.size_alloc] at this
    omega

theorem Wk.cutWay {w : World} {g : Nat} {a : Option Addr} {len cap : Nat} {s : Hs} {vo : Value} {ya : Option Addr} {n yc : Nat} {way : List ByteArray} {p : ByteArray} (h : Wk w g a len cap s vo (.slice ya n yc)) (hw : s.way = way ++ [p]) : Wk (w.setCell ⟨g, 2, none⟩ (.slice ya way.length yc)) g a len cap { s with way := way } vo (.slice ya way.length yc) := by
  have h2 := h.way
  rw [hw] at h2
  exact Wk.setWay h.blk h.out h2.cut (by cases ya <;> exact h.apart)

end Go.Proofs.Ytnkknkijnpdapaa
