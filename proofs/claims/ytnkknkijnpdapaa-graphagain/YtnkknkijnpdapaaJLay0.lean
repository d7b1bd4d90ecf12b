/- What the program's lay has in memory; what each step does to it. -/
import Derived.Test.YtnkknkijnpdapaaJImp
import Derived.Test.YtnkknkijnpdapaaHCome
import Derived.OrdersHeld
namespace Go.Proofs.Ytnkknkijnpdapaa
open Go.RowKit
set_option linter.unusedVariables false
set_option linter.unusedSimpArgs false

/-- The marks: laid, open. -/
def gmk (out way : List ByteArray) (x : ByteArray) : Option Value := if hin out x = true then some (.int .i64 2) else if hin way x = true then some (.int .i64 1) else none

theorem gmk_open {out way : List ByteArray} {p : ByteArray} (h : hin out p = false) (x : ByteArray) : (if x = p then some (.int .i64 1) else gmk out way x) = gmk out (way ++ [p]) x := by
  unfold gmk
  by_cases hx : x = p
  · subst hx
    rw [if_pos rfl, if_neg (by simp [h]), if_pos ((hin_iff _ _).2 (by simp))]
  · rw [if_neg hx]
    by_cases h1 : hin out x = true
    · rw [if_pos h1, if_pos h1]
    · rw [if_neg h1, if_neg h1]
      by_cases h2 : x ∈ way
      · rw [if_pos ((hin_iff _ _).2 h2), if_pos ((hin_iff _ _).2 (by simp [h2]))]
      · rw [if_neg ((hin_not _ _).2 h2), if_neg ((hin_not _ _).2 (by simp [h2, hx]))]

theorem gmk_laid {out way : List ByteArray} {p : ByteArray} (x : ByteArray) : (if x = p then some (.int .i64 2) else gmk out (way ++ [p]) x) = gmk (out ++ [p]) way x := by
  unfold gmk
  by_cases hx : x = p
  · subst hx
    rw [if_pos rfl, if_pos ((hin_iff _ _).2 (by simp))]
  · rw [if_neg hx]
    have e1 : hin (out ++ [p]) x = hin out x := by unfold hin; simp; exact fun e => absurd e.symm hx
    have e2 : hin (way ++ [p]) x = hin way x := by unfold hin; simp; exact fun e => absurd e.symm hx
    rw [e1, e2]

theorem zeroMark (w : World) : (zeroValue 62).run Try.prog w = .ok (.int .i64 0) w := by kernel_rfl

/-- What the closure of lay holds on to. -/
def lcaps (g h : Nat) : Array Value := #[.pointer (some ⟨h + 2, 0, none⟩), .pointer (some ⟨h + 3, 0, none⟩), .pointer (some ⟨h, 0, none⟩), .pointer (some ⟨g, 0, none⟩)]

/-- lay's own memory: the order, the fault, the units and the marks with their boxes, the closure's box. -/
structure Ly (w0 W : World) (g h : Nat) (us : List Um) (out : List ByteArray) (gm : ByteArray → Option Value) : Prop where
  bo : ∃ vo, W.heap[g]? = some (.cells #[vo] 23 (0, 0)) ∧ Sw W (h + 4) vo out
  bw : W.heap[g + 1]? = some (.cells #[.string ⟨#[]⟩, .int .i64 0] 44 (0, 0))
  mu : ∃ n, Mg W (g + 2) n (ug us)
  bu : W.heap[h]? = some (.cells #[.map (some (g + 2))] 52 (0, 0))
  mm : ∃ n, Mg W (h + 1) n gm
  bm : W.heap[h + 2]? = some (.cells #[.map (some (h + 1))] 60 (0, 0))
  be : W.heap[h + 3]? = some (.cells #[.func (.func 33) #[] #[.pointer (some ⟨h + 2, 0, none⟩), .pointer (some ⟨h + 3, 0, none⟩), .pointer (some ⟨h, 0, none⟩), .pointer (some ⟨g, 0, none⟩)]] 61 (0, 0))
  below : Below w0.heap.size w0 W
  hg : w0.heap.size ≤ g
  hh : g + 3 ≤ h

theorem box_cell {W : World} {b : Nat} {v : Value} {t : TypeId} (h : W.heap[b]? = some (.cells #[v] t (0, 0))) : W.cell? ⟨b, 0, none⟩ = some v ∧ W.frozen? ⟨b, 0, none⟩ = false ∧ b < W.heap.size :=
  ⟨by simp [World.cell?, h], by simp [World.frozen?, h], (Array.getElem?_eq_some_iff.1 h).1⟩

theorem Ly.size {w0 W : World} {g h : Nat} {us : List Um} {out : List ByteArray} {gm : ByteArray → Option Value} (L : Ly w0 W g h us out gm) : h + 3 < W.heap.size := (Array.getElem?_eq_some_iff.1 L.be).1

theorem Ly.under {w0 W W' : World} {g h : Nat} {us : List Um} {out : List ByteArray} {gm : ByteArray → Option Value} (L : Ly w0 W g h us out gm) (hb : Below W.heap.size W W') : Ly w0 W' g h us out gm := by
  have hs := L.size
  have hh := L.hh
  obtain ⟨vo, h1, h2⟩ := L.bo
  obtain ⟨n1, h3⟩ := L.mu
  obtain ⟨n2, h4⟩ := L.mm
  refine ⟨⟨vo, (hb.block _ (by omega)).trans h1, h2.below hb⟩, (hb.block _ (by omega)).trans L.bw, ⟨n1, h3.below hb (by omega)⟩, (hb.block _ (by omega)).trans L.bu, ⟨n2, h4.below hb (by omega)⟩, (hb.block _ (by omega)).trans L.bm, (hb.block _ (by omega)).trans L.be, L.below.trans (hb.mono L.below.size), L.hg, L.hh⟩

theorem Ly.mark {w0 W W' : World} {g h n : Nat} {us : List Um} {out : List ByteArray} {gm gm' : ByteArray → Option Value} (L : Ly w0 W g h us out gm) (hg : W.grownBy W' (some (h + 1))) (hM : Mg W' (h + 1) n gm') : Ly w0 W' g h us out gm' := by
  have hs := L.size
  have hh := L.hh
  have hg0 := L.hg
  obtain ⟨vo, h1, h2⟩ := L.bo
  obtain ⟨n1, h3⟩ := L.mu
  refine ⟨⟨vo, (hg.block _ (by omega) (by simp; omega)).trans h1, World.ownsRow.kept h2 hg ?_⟩, (hg.block _ (by omega) (by simp; omega)).trans L.bw, ⟨n1, h3.kept hg (by simp; omega)⟩, (hg.block _ (by omega) (by simp)).trans L.bu, ⟨n, hM⟩, (hg.block _ (by omega) (by simp)).trans L.bm, (hg.block _ (by omega) (by simp)).trans L.be, L.below.grown hg L.below.size (fun k hk => by cases hk; omega), L.hg, L.hh⟩
  cases hq : vo.ownBlock with
  | none => exact .inl rfl
  | some k => exact .inr (fun e => by have := (own_at h2 hq).1; cases e; omega)

/-- One more in the order: the list has grown, and its box is written. -/
theorem Ly.push {w0 W W3 : World} {g h : Nat} {us : List Um} {out out' : List ByteArray} {gm : ByteArray → Option Value} {vo v' : Value} (L : Ly w0 W g h us out gm) (ho : W.heap[g]? = some (.cells #[vo] 23 (0, 0))) (hso : Sw W (h + 4) vo out) (hg : W.grownBy W3 vo.ownBlock) (hs3 : Sw W3 (h + 4) v' out') :
    Ly w0 (W3.setCell ⟨g, 0, none⟩ v') g h us out' gm ∧ W3.cell? ⟨g, 0, none⟩ = some vo ∧ W3.frozen? ⟨g, 0, none⟩ = false ∧ g < W3.heap.size := by
  have hs := L.size
  have hh := L.hh
  have hg0 := L.hg
  have hne : ∀ k, k < h + 4 → some k ≠ vo.ownBlock := fun k hk e => by have := (own_at hso e.symm).1; omega
  have hb3 : W3.heap[g]? = some (.cells #[vo] 23 (0, 0)) := (hg.block _ (by omega) (hne _ (by omega))).trans ho
  have oth : ∀ k, k ≠ g → (W3.setCell ⟨g, 0, none⟩ v').heap[k]? = W3.heap[k]? := fun k hk => heap_setCell_other _ _ _ _ (by simpa using hk)
  have hgr : W3.grownBy (W3.setCell ⟨g, 0, none⟩ v') (some g) := ⟨rfl, rfl, rfl, by simp, fun k _ hk => oth k (fun e => hk (by rw [e]))⟩
  obtain ⟨c1, c2, c3⟩ := box_cell hb3
  obtain ⟨n1, h3⟩ := L.mu
  obtain ⟨n2, h4⟩ := L.mm
  have at3 : ∀ k o, k < h + 4 → k ≠ g → W.heap[k]? = some o → (W3.setCell ⟨g, 0, none⟩ v').heap[k]? = some o := fun k o hk hkg hko =>
    (oth k hkg).trans ((hg.block _ (by omega) (hne _ hk)).trans hko)
  refine ⟨⟨⟨v', ?_, own_set_low hs3 g 0 _ (by omega)⟩, at3 _ _ (by omega) (by omega) L.bw, ⟨n1, (h3.kept hg (hne _ (by omega))).kept hgr (by simp)⟩, at3 _ _ (by omega) (by omega) L.bu, ⟨n2, (h4.kept hg (hne _ (by omega))).kept hgr (by simp; omega)⟩, at3 _ _ (by omega) (by omega) L.bm, at3 _ _ (by omega) (by omega) L.be, ?_, L.hg, L.hh⟩, c1, c2, c3⟩
  · rw [blk_set hb3 0 v']
    simp
  · refine (L.below.grown hg L.below.size (fun k hk => ?_)).setCell (p := ⟨g, 0, none⟩) hg0 _
    have := (own_at hso hk).1
    omega

/-- One operation of a region that draws its order, as a walk; a panic goes where the region's goes. -/
theorem wpOp_list2 {P : Program} {ops : Array Oper} {Q : Exit → Act → World → Prop} {i : Nat} {K : Act → World → Prop} {a : Act} {w : World} {o : Oper} (ho : ops[i]? = some o)
    (h : ∀ Q' : Exit → Act → World → Prop, (∀ a w, K a w → Q' .normal a w) → (∀ c a w, Q (.panic c) a w → Q' (.panic c) a w) → wpList P ops Q' [o] a w) : wpOp P ops Q i K a w := by
  have h1 := h (fun e a w => match e with | .normal => K a w | e => Q e a w) (fun _ _ h => h) (fun _ _ _ h => h)
  unfold wpOp
  simp only [ho]
  simp only [wpList] at h1
  split
  · rename_i hw
    rw [if_pos hw] at h1
    refine h1.imp (fun h2 => ?_) (fun h2 => ⟨h2.1, h2.2⟩)
    unfold Oper.wp at *
    generalize (execOp a.eval o).run P w = r at *
    cases r with
    | ok n w' =>
      cases n <;> simp only [Oper.upon] at h2 ⊢ <;>
        first
          | exact h2
          | exact Calls.mono h2 (fun e w'' he => by cases e <;> exact he)
    | halt x w' => cases x <;> simp only [Oper.upon] at h2 ⊢ <;> exact h2
  · rename_i hw
    rw [if_neg hw] at h1
    exact h1

/-- Behind an error nothing goes on. -/
theorem fold_stop {l : List Un} {f : Nat} : ∀ (zs : List ByteArray) (s : Hs), s.e ≠ 0 → zs.foldl (fun s d => hcome l (f + 1) d s) s = s
  | [], s, _ => rfl
  | z :: zs, s, h => by rw [List.foldl_cons, hcome_stop (.inl h)]; exact fold_stop zs s h

theorem fold_at {l : List Un} {f : Nat} {zs : List ByteArray} {s : Hs} {k : Nat} {z : ByteArray} (hz : zs[k]? = some z) (he : (hcome l (f + 1) z ((zs.take k).foldl (fun s d => hcome l (f + 1) d s) s)).e ≠ 0) :
    zs.foldl (fun s d => hcome l (f + 1) d s) s = hcome l (f + 1) z ((zs.take k).foldl (fun s d => hcome l (f + 1) d s) s) := by
  have h1 : zs = zs.take (k + 1) ++ zs.drop (k + 1) := (List.take_append_drop _ _).symm
  rw [take_snoc hz] at h1
  conv => lhs; rw [h1, List.foldl_append, List.foldl_append]
  exact fold_stop _ _ he

end Go.Proofs.Ytnkknkijnpdapaa
