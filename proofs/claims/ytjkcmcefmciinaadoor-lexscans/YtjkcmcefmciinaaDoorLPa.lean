/- The contracts of the program's own endLine, remark, claim: what Scan remembers of the lines ahead. -/
import Derived.Test.YtjkcmcefmciinaaDoorLScnD
import Derived.Test.YtjkcmcefmciinaaDoorLSt
import Derived.Lib.AppendStr
namespace Go.Proofs.YtjkcmcefmciinaaDoor
open Go.RowKit
set_option linter.unusedVariables false
set_option linter.unusedSimpArgs false

/-- The block g holds what is remembered: the comments (a row of the call's own), whether the line is used, whether it has a comment of its own. -/
def Ah (w : World) (g base : Nat) (v : Value) (D : List Int) (U O : Bool) : Prop :=
  w.heap[g]? = some (.cells #[v, .bool U, .bool O] 44 (0, 0)) ∧ base ≤ g ∧ w.ownsRow base 5 1 v D.length (D.map (Value.int .u8))

theorem Ah.lt {w : World} {g base : Nat} {v : Value} {D : List Int} {U O : Bool} (h : Ah w g base v D U O) : g < w.heap.size := (Array.getElem?_eq_some_iff.1 h.1).1

theorem Ah.cells {w : World} {g base : Nat} {v : Value} {D : List Int} {U O : Bool} (h : Ah w g base v D U O) :
    w.cell? ⟨g, 0, none⟩ = some v ∧ w.cell? ⟨g, 1, none⟩ = some (.bool U) ∧ w.cell? ⟨g, 2, none⟩ = some (.bool O) ∧ w.frozen? ⟨g, 0, none⟩ = false ∧ w.frozen? ⟨g, 1, none⟩ = false ∧ w.frozen? ⟨g, 2, none⟩ = false := by
  refine ⟨?_, ?_, ?_, ?_, ?_, ?_⟩ <;> simp [World.cell?, World.frozen?, h.1]

theorem set_heap {w : World} {g : Nat} {c : Array Value} {e : TypeId} (h : w.heap[g]? = some (.cells c e (0, 0))) (j : Nat) (u : Value) : (w.setCell ⟨g, j, none⟩ u).heap[g]? = some (.cells (c.setIfInBounds j u) e (0, 0)) := by
  simp only [World.setCell, Array.getElem?_modify]
  rw [if_pos trivial, h]
  rfl

/-- A store into a block of another kind leaves a row of the call's own. -/
theorem own_set {w : World} {base : Nat} {e1 e2 : TypeId} {z n : Nat} {v : Value} {xs : List Value} {g : Nat} {c : Array Value} (h : w.ownsRow base e1 z v n xs) (hg : w.heap[g]? = some (.cells c e2 (0, 0))) (he : e1 ≠ e2) (j : Nat) (u : Value) : (w.setCell ⟨g, j, none⟩ u).ownsRow base e1 z v n xs := by
  refine ⟨h.1, ?_⟩
  rcases h.2 with hn | ⟨a, c2, cur, rfl, ha, hh, hr⟩
  · exact .inl hn
  · refine .inr ⟨a, c2, cur, rfl, ha, ?_, hr⟩
    rw [Below.heap_setCell w ⟨g, j, none⟩ u a ?_]
    · exact hh
    · rintro rfl
      rw [hg] at hh
      simp only [Option.some.injEq, Obj.cells.injEq] at hh
      exact he hh.2.1.symm

theorem Ah.set {w : World} {g base : Nat} {v v' : Value} {D D' : List Int} {U O U' O' : Bool} (h : Ah w g base v D U O) (j : Nat) (u : Value) (hc : (#[v, .bool U, .bool O] : Array Value).setIfInBounds j u = #[v', .bool U', .bool O'])
    (ho : w.ownsRow base 5 1 v' D'.length (D'.map (Value.int .u8))) : Ah (w.setCell ⟨g, j, none⟩ u) g base v' D' U' O' :=
  ⟨by rw [set_heap h.1, hc], h.2.1, own_set ho h.1 (by decide) j u⟩

theorem To.set {w : World} {g base : Nat} {v o : Value} {D : List Int} {U O : Bool} {out : List Tk} (ho : To w base o out) (h : Ah w g base v D U O) (j : Nat) (u : Value) : To (w.setCell ⟨g, j, none⟩ u) base o out :=
  ⟨own_set ho.1 h.1 (by decide) j u, ho.2⟩

theorem Ah.drew {w : World} {g base : Nat} {v : Value} {D : List Int} {U O : Bool} (h : Ah w g base v D U O) (n : Nat) : Ah (w.drewN n) g base v D U O :=
  ⟨by rw [← h.1]; exact (below_drewN (Below.refl w.heap.size w) n).block g h.lt, h.2.1, own_below h.2.2 (below_drewN (Below.refl _ _) n)⟩

theorem Ah.below {w w' : World} {g base : Nat} {v : Value} {D : List Int} {U O : Bool} (h : Ah w g base v D U O) (hb : Below w.heap.size w w') : Ah w' g base v D U O :=
  ⟨by rw [hb.block g h.lt]; exact h.1, h.2.1, own_below h.2.2 hb⟩

/-- The row cut down to nothing is the call's own still. -/
theorem own_none {w : World} {base e : Nat} {n : Nat} {a : Option Addr} {c : Nat} {xs : List Value} (h : w.ownsRow base e 1 (.slice a n c) n xs) : w.ownsRow base e 1 (.slice a 0 c) 0 [] := by
  refine ⟨by simp, ?_⟩
  rcases h.2 with ⟨h1, _⟩ | ⟨g', c', cur, h1, h2, h3, h4, h5, h6, h7⟩
  · simp only [Value.slice.injEq] at h1
    obtain ⟨rfl, rfl, rfl⟩ := h1
    exact .inl ⟨rfl, rfl⟩
  · simp only [Value.slice.injEq] at h1
    obtain ⟨rfl, _, rfl⟩ := h1
    exact .inr ⟨g', c, cur, rfl, h2, h3, by omega, h5, h6, by simp⟩

set_option maxHeartbeats 400000 in
theorem pend_any {w : World} {g base : Nat} {v o : Value} {D : List Int} {U O : Bool} {out : List Tk} (hA : Hid (Ah w g base v D U O)) (ho : Hid (To w base o out)) :
    Calls Tryd.prog 32 #[.pointer (some ⟨g, 0, none⟩)] w fun e w' => e = .returned (.tuple #[]) ∧ (∃ v', Ah w' g base v' (if O = true then D else []) false false) ∧ To w' base o out ∧ Below base w w' := by
  obtain ⟨c0, c1, c2, f0, f1, f2⟩ := hA.out.cells
  have hg := hA.out.2.1
  cases O with
  | true =>
    go_enter Tryd.func32, Tryd.ntmps32
    go_wp2
    go_end0
    have h1 : Ah (w.setCell ⟨g, 1, none⟩ (.bool false)) g base v D false true := hA.out.set 1 _ rfl hA.out.2.2
    have t1 : To (w.setCell ⟨g, 1, none⟩ (.bool false)) base o out := ho.out.set hA.out 1 _
    exact ⟨rfl, ⟨v, h1.set 2 _ rfl h1.2.2⟩, t1.set h1 2 _, ((Below.refl base w).setCell (p := ⟨g, 1, none⟩) hg _).setCell (p := ⟨g, 2, none⟩) hg _⟩
  | false =>
    obtain ⟨a, c, rfl⟩ := own_slice hA.out.2.2
    go_enter Tryd.func32, Tryd.ntmps32
    go_wp2
    go_end0
    have h0 : Ah (w.setCell ⟨g, 0, none⟩ (.slice a 0 c)) g base (.slice a 0 c) [] U false := hA.out.set 0 _ rfl (own_none hA.out.2.2)
    have h1 : Ah ((w.setCell ⟨g, 0, none⟩ (.slice a 0 c)).setCell ⟨g, 1, none⟩ (.bool false)) g base (.slice a 0 c) [] false false := h0.set 1 _ rfl h0.2.2
    have t0 : To (w.setCell ⟨g, 0, none⟩ (.slice a 0 c)) base o out := ho.out.set hA.out 0 _
    have t1 := t0.set h0 1 (.bool false)
    exact ⟨rfl, ⟨_, h1.set 2 _ rfl h1.2.2⟩, t1.set h1 2 _, (((Below.refl base w).setCell (p := ⟨g, 0, none⟩) hg _).setCell (p := ⟨g, 1, none⟩) hg _).setCell (p := ⟨g, 2, none⟩) hg _⟩

set_option maxHeartbeats 400000 in
theorem pclaim_any {w : World} {g base : Nat} {v o : Value} {D : List Int} {U O : Bool} {out : List Tk} (hA : Hid (Ah w g base v D U O)) (ho : Hid (To w base o out)) (HD : Hid (∀ c ∈ D, 0 ≤ c ∧ c ≤ 255)) :
    Calls Tryd.prog 20 #[.pointer (some ⟨g, 0, none⟩)] w fun e w' => e = .returned (.string (strOfNums (if U = true then [] else D))) ∧ Ah w' g base v D true O ∧ To w' base o out ∧ Below base w w' := by
  obtain ⟨c0, c1, c2, f0, f1, f2⟩ := hA.out.cells
  have hg := hA.out.2.1
  cases U with
  | true =>
    go_enter Tryd.func20, Tryd.ntmps20
    go_wp2
    go_ret
    exact ⟨rfl, hA.out, ho.out, Below.refl _ _⟩
  | false =>
    obtain ⟨a, c, rfl⟩ := own_slice hA.out.2.2
    have h1 : Ah (w.setCell ⟨g, 1, none⟩ (.bool true)) g base (.slice a D.length c) D true O := hA.out.set 1 _ rfl hA.out.2.2
    have hcv := (Bs.of_owns h1.2.2 HD.out).conv
    have H1 : Hid _ := h1
    clear h1
    go_enter Tryd.func20, Tryd.ntmps20
    go_wp2
    go_ret
    exact ⟨rfl, H1.out, ho.out.set hA.out 1 _, (Below.refl base w).setCell (p := ⟨g, 1, none⟩) hg _⟩

theorem strCells_nums (t : List Int) (ht : ∀ c ∈ t, 0 ≤ c ∧ c ≤ 255) : Lib.strCells (strOfNums t) = t.map (Value.int .u8) := by
  unfold Lib.strCells
  rw [strOfNums_data, List.map_map]
  apply List.map_congr_left
  intro c hc
  have := ht c hc
  simp only [Function.comp, UInt8.toNat_ofNat', Value.int.injEq, true_and]
  omega

theorem wpList_append_str {w : World} {ops : Array Oper} {rest : List Oper} {o : Oper} {f : Act} {Q : Exit → Act → World → Prop} (hgd : o.guard = none) (s x : Operand)
    (ho : o.op = .call { callee := .builtin .append, args := #[s, x], argTypes := #[42, 9] }) (base : Nat) (v : Value) (n : Nat) (xs : List Value) (zs : List Int) (S : ByteArray)
    (hs : f.eval s = v) (hx : f.eval x = .string S) (hS : S = strOfNums zs) (hown : w.ownsRow base 5 1 v n xs) (hz : ∀ c ∈ zs, 0 ≤ c ∧ c ≤ 255) (hn : n + zs.length ≤ 140737488355328) (hbase : base ≤ w.heap.size)
    (h : ∀ v' w', w'.ownsRow base 5 1 v' (n + zs.length) (xs ++ zs.map (Value.int .u8)) → w.grownBy w' v.ownBlock → wpList Tryd.prog ops Q rest (f.put o.dst v') w') : wpList Tryd.prog ops Q (o :: rest) f w := by
  obtain ⟨i0, hi, hz0, hz1, hz2⟩ := info_parts Tryd.info5
  subst hS
  have hsz := strOfNums_size zs
  refine Lib.wpList_append_own_string (P := Tryd.prog) w hgd s x 42 9 ho base 5 i0 Tryd.underlying42 Tryd.underlying9 hi hz0 hz1 hz2 v n xs hs hown _ hx (by rw [hsz]; unfold maxLen; omega) (by rw [hsz]; exact hn) hbase ?_
  intro v' w' h1 h2 _
  rw [hsz, strCells_nums zs hz] at h1
  exact h v' w' h1 h2

theorem blk_grown {w w' : World} {g base : Nat} {c : Array Value} {e1 e2 : TypeId} {z n : Nat} {v : Value} {xs : List Value} (h : w.heap[g]? = some (.cells c e2 (0, 0))) (ho : w.ownsRow base e1 z v n xs) (he : e1 ≠ e2) (hg : w.grownBy w' v.ownBlock) : w'.heap[g]? = some (.cells c e2 (0, 0)) := by
  rw [hg.block g (Array.getElem?_eq_some_iff.1 h).1 ?_]
  · exact h
  · intro hv
    rcases ho.2 with ⟨rfl, _⟩ | ⟨a, c2, cur, rfl, ha, hh, hr⟩
    · simp [Value.ownBlock] at hv
    · simp only [Value.ownBlock, Option.some.injEq] at hv
      subst hv
      rw [h] at hh
      simp only [Option.some.injEq, Obj.cells.injEq] at hh
      exact he hh.2.1.symm

theorem blk_facts {w : World} {g : Nat} {v : Value} {U O : Bool} {e : TypeId} (h : w.heap[g]? = some (.cells #[v, .bool U, .bool O] e (0, 0))) :
    w.cell? ⟨g, 0, none⟩ = some v ∧ w.cell? ⟨g, 1, none⟩ = some (.bool U) ∧ w.cell? ⟨g, 2, none⟩ = some (.bool O) ∧ w.frozen? ⟨g, 0, none⟩ = false ∧ w.frozen? ⟨g, 1, none⟩ = false ∧ w.frozen? ⟨g, 2, none⟩ = false := by
  refine ⟨?_, ?_, ?_, ?_, ?_, ?_⟩ <;> simp [World.cell?, World.frozen?, h]

theorem bs_lit (w : World) (x : Int) (h : 0 ≤ x ∧ x ≤ 255) : Bs (w.alloc (.cells #[.int .u8 x] 5)) (some ⟨w.heap.size, 0, none⟩) 1 1 [x] :=
  Bs.of_owns (zs := [x]) (own_lit w x) (by simp; exact h)

theorem one_more {w w2 w3 : World} {g base n : Nat} {v v2 o : Value} {xs : List Value} {U O : Bool} {out : List Tk} (ob : Obj) (hH : w2.heap[g]? = some (.cells #[v, .bool U, .bool O] 44 (0, 0))) (hT : To w2 base o out) (hB : Below base w w2) (hb : base ≤ w.heap.size)
    (hown2 : w2.ownsRow base 5 1 v2 n xs) (hg : (w2.alloc ob).grownBy w3 v2.ownBlock) : Hid (w3.heap[g]? = some (.cells #[v, .bool U, .bool O] 44 (0, 0))) ∧ Hid (To w3 base o out) ∧ Hid (Below base w w3) ∧
      w3.cell? ⟨g, 0, none⟩ = some v ∧ w3.cell? ⟨g, 1, none⟩ = some (.bool U) ∧ w3.cell? ⟨g, 2, none⟩ = some (.bool O) ∧ w3.frozen? ⟨g, 0, none⟩ = false ∧ w3.frozen? ⟨g, 1, none⟩ = false ∧ w3.frozen? ⟨g, 2, none⟩ = false := by
  have h1 := hB.size
  have hgl : g < w2.heap.size := (Array.getElem?_eq_some_iff.1 hH).1
  have h2 : (w2.alloc ob).heap[g]? = some (.cells #[v, .bool U, .bool O] 44 (0, 0)) := (Below.heap_alloc w2 ob g hgl).trans hH
  have h3 : w3.heap[g]? = some (.cells #[v, .bool U, .bool O] 44 (0, 0)) := blk_grown h2 (hown2.alloc ob) (by decide) hg
  have h4 : (w2.alloc ob).heap.size = w2.heap.size + 1 := by simp
  refine ⟨h3, ⟨own_other (hT.1.alloc ob) (hown2.alloc ob) (by decide) hg, hT.2⟩, ?_, blk_facts h3⟩
  exact (hB.alloc (by omega) ob).grown hg (by omega) (fun k hk => ((hown2.alloc ob).lt k hk).1)

set_option maxHeartbeats 400000 in
theorem premark_any {w : World} {g base : Nat} {v o : Value} {D t : List Int} {U O : Bool} {out : List Tk} (hA : Hid (Ah w g base v D U O)) (ho : Hid (To w base o out)) (ht : Hid (∀ c ∈ t, 0 ≤ c ∧ c ≤ 255)) (hl : D.length + t.length ≤ 1000000) (hbase : base ≤ w.heap.size) :
    Calls Tryd.prog 35 #[.pointer (some ⟨g, 0, none⟩), .string (strOfNums t)] w fun e w' => e = .returned (.tuple #[]) ∧ (∃ v', Ah w' g base v' (if U = true then D else D ++ (t ++ [10])) true (if U = true then O else true)) ∧ To w' base o out ∧ Below base w w' := by
  obtain ⟨c0, c1, c2, f0, f1, f2⟩ := hA.out.cells
  have hg := hA.out.2.1
  cases U with
  | true =>
    go_enter Tryd.func35, Tryd.ntmps35
    go_wp2
    go_end0
    exact ⟨rfl, ⟨v, hA.out.set 1 _ rfl hA.out.2.2⟩, ho.out.set hA.out 1 _, (Below.refl base w).setCell (p := ⟨g, 1, none⟩) hg _⟩
  | false =>
    have hbd := ht.out
    have hgl := hA.out.lt
    have HW : Hid (w.ownsRow base 5 1 v D.length (D.map (Value.int .u8))) := hA.out.2.2
    go_enter Tryd.func35, Tryd.ntmps35
    go_wp2_with (first
      | (at_builtin; refine wpList_append_str rfl _ _ rfl base _ _ _ t _ rfl rfl rfl HW.out ht.out (by omega) hbase ?_; intro v2 w2 hown2 hgrow2; have hs2 := hgrow2.size; have HH2 : Hid _ := blk_grown hA.out.1 HW.out (by decide) hgrow2; have HT2 : Hid (To w2 base o out) := ⟨own_other ho.out.1 HW.out (by decide) hgrow2, ho.out.2⟩; have HB2 : Hid (Below base w w2) := (Below.refl _ _).grown hgrow2 hbase (fun k hk => (HW.out.lt k hk).1); clear hgrow2)
      | (at_builtin; refine wpList_append_bs rfl _ _ rfl base _ _ _ _ _ _ [10] rfl rfl (hown2.alloc _) (bs_lit w2 10 (by omega)) (by omega) (Nat.le_trans hbase (Nat.le_trans hs2 (by simp))) ?_; intro v3 w3 hown3 hgrow3; obtain ⟨HH3, HT3, HB3, d0, d1, d2, e0, e1, e2⟩ := one_more _ HH2.out HT2.out HB2.out hbase hown2 hgrow3; clear hgrow3; obtain ⟨a3, k3, rfl⟩ := own_slice hown3))
    go_end0
    obtain ⟨v3, hV⟩ : ∃ V, V = Value.slice a3 (D.length + t.length + 1) k3 := ⟨_, rfl⟩
    rw [← hV] at hown3 ⊢
    have e3 : w3.ownsRow base 5 1 v3 (D ++ (t ++ [10])).length ((D ++ (t ++ [10])).map (Value.int .u8)) := by
      have := hown3
      simp only [List.map_append, List.length_append, List.map_cons, List.map_nil, List.length_cons, List.length_nil, Nat.zero_add, ← List.append_assoc, ← Nat.add_assoc] at this ⊢
      exact this
    have h0 : Ah (w3.setCell ⟨g, 0, none⟩ v3) g base v3 (D ++ (t ++ [10])) false O := ⟨by rw [set_heap HH3.out]; rfl, hg, own_set e3 HH3.out (by decide) 0 _⟩
    have t0 : To (w3.setCell ⟨g, 0, none⟩ v3) base o out := ⟨own_set HT3.out.1 HH3.out (by decide) 0 _, ho.out.2⟩
    have h1 := h0.set (U' := false) (O' := true) 2 (.bool true) rfl h0.2.2
    have t1 := t0.set h0 2 (.bool true)
    exact ⟨rfl, ⟨v3, h1.set 1 _ rfl h1.2.2⟩, t1.set h1 1 _, ((HB3.out.setCell (p := ⟨g, 0, none⟩) hg _).setCell (p := ⟨g, 2, none⟩) hg _).setCell (p := ⟨g, 1, none⟩) hg _⟩

end Go.Proofs.YtjkcmcefmciinaaDoor
