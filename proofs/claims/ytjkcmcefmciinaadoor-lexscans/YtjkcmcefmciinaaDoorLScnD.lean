/- What the walks over Scan lean on: rows of the call's own side by side, tokens and marks that are appended, the facts of a source, what Scan ends in. -/
import Derived.Test.YtjkcmcefmciinaaDoorLTok
namespace Go.Proofs.YtjkcmcefmciinaaDoor
open Go.RowKit
set_option linter.unusedVariables false
set_option linter.unusedSimpArgs false

theorem ldl_bd (s : List Int) (ms : List Nat) (hs : ∀ c ∈ s, 0 ≤ c ∧ c ≤ 255) : ∀ (f n : Nat) (out : List Int), (∀ c ∈ out, 0 ≤ c ∧ c ≤ 255) → ∀ c ∈ ldl s ms f n out, 0 ≤ c ∧ c ≤ 255
  | 0, n, out, h => h
  | f + 1, n, out, h => by
    rw [ldl]
    by_cases k0 : n = 0
    · rw [if_pos k0]; exact h
    rw [if_neg k0]
    cases ho : lown s (lnAt s (n - 1)) (n - 1) with
    | none => exact h
    | some t =>
      simp only
      by_cases k1 : (linside ms (lnAt s (n - 1)) || linside ms (n - 1)) = true
      · rw [if_pos k1]; exact h
      · rw [if_neg k1]
        apply ldl_bd s ms hs
        have ht : ∀ c ∈ t, 0 ≤ c ∧ c ≤ 255 := by
          unfold lown at ho
          simp only at ho
          by_cases k2 : lrun lblank s (n - 1) (n - 1 - lnAt s (n - 1)) (lnAt s (n - 1)) + 2 ≤ n - 1 ∧ s.getD (lrun lblank s (n - 1) (n - 1 - lnAt s (n - 1)) (lnAt s (n - 1))) 0 = 47 ∧ s.getD (lrun lblank s (n - 1) (n - 1 - lnAt s (n - 1)) (lnAt s (n - 1)) + 1) 0 = 47
          · rw [if_pos k2] at ho
            simp only [Option.some.injEq] at ho
            intro c hc
            rw [← ho] at hc
            exact hs c (List.mem_of_mem_take (List.mem_of_mem_drop hc))
          · rw [if_neg k2] at ho; simp at ho
        intro c hc
        simp only [List.mem_append, List.mem_cons, List.not_mem_nil, or_false] at hc
        rcases hc with (hc | rfl) | hc
        · exact ht c hc
        · omega
        · exact h c hc

theorem ldoc_bd (s : List Int) (k : Nat) (ms : List Nat) (hs : ∀ c ∈ s, 0 ≤ c ∧ c ≤ 255) : ∀ c ∈ ldoc s k ms, 0 ≤ c ∧ c ≤ 255 := by
  unfold ldoc
  split
  · exact ldl_bd s ms hs _ _ [] (by simp)
  · simp

/-- Two rows of the call's own, of other kinds, are not one. -/
theorem own_apart {w : World} {base : Nat} {e1 e2 : TypeId} {z1 z2 n1 n2 : Nat} {v1 v2 : Value} {x1 x2 : List Value} (h1 : w.ownsRow base e1 z1 v1 n1 x1) (h2 : w.ownsRow base e2 z2 v2 n2 x2) (he : e1 ≠ e2) : ∀ g, v1.ownBlock = some g → v2.ownBlock ≠ some g := by
  intro g hg hg2
  rcases h1.2 with ⟨rfl, _⟩ | ⟨a, c, cur, rfl, ha, hh, _⟩
  · simp [Value.ownBlock] at hg
  rcases h2.2 with ⟨rfl, _⟩ | ⟨a2, c2, cur2, rfl, ha2, hh2, _⟩
  · simp [Value.ownBlock] at hg2
  simp only [Value.ownBlock, Option.some.injEq] at hg hg2
  subst hg
  subst hg2
  rw [hh] at hh2
  simp only [Option.some.injEq, Obj.cells.injEq] at hh2
  exact he hh2.2.1

/-- What the one grows leaves the other. -/
theorem own_other {w w' : World} {base : Nat} {e1 e2 : TypeId} {z1 z2 n1 n2 : Nat} {v1 v2 : Value} {x1 x2 : List Value} (h1 : w.ownsRow base e1 z1 v1 n1 x1) (h2 : w.ownsRow base e2 z2 v2 n2 x2) (he : e1 ≠ e2) (hg : w.grownBy w' v2.ownBlock) : w'.ownsRow base e1 z1 v1 n1 x1 := by
  refine h1.kept hg ?_
  cases hb : v1.ownBlock with
  | none => exact .inl rfl
  | some g => exact .inr (fun h => own_apart h1 h2 he g hb h.symm)

theorem Tryd.infoInt : (Tryd.prog.info? 3).map (fun i => (i.zero, i.size, i.bytes)) = some (some (.int .i64 0), 1, 8) := by kernel_rfl

def mcells (ms : List Nat) : List Value := ms.map fun m => Value.int .i64 ((m : Nat) : Int)

theorem wpList_append_marks {w : World} {ops : Array Oper} {rest : List Oper} {o : Oper} {f : Act} {Q : Exit → Act → World → Prop} (hgd : o.guard = none) (s x : Operand)
    (ho : o.op = .call { callee := .builtin .append, args := #[s, x], argTypes := #[50, 50] }) (base : Nat) (v : Value) (ms : List Nat) (m1 m2 : Nat) (b cap : Nat)
    (hs : f.eval s = v) (hx : f.eval x = .slice (some ⟨b, 0, none⟩) 2 cap) (hown : w.ownsRow base 3 1 v ms.length (mcells ms))
    (h0 : w.cell? ⟨b, 0, none⟩ = some (.int .i64 (m1 : Int))) (h1 : w.cell? ⟨b, 1, none⟩ = some (.int .i64 (m2 : Int))) (hn : ms.length + 2 ≤ 1000000) (hbase : base ≤ w.heap.size)
    (h : ∀ v' w', w'.ownsRow base 3 1 v' (ms ++ [m1, m2]).length (mcells (ms ++ [m1, m2])) → w.grownBy w' v.ownBlock → wpList Tryd.prog ops Q rest (f.put o.dst v') w') : wpList Tryd.prog ops Q (o :: rest) f w := by
  refine wpList_plain hgd fun K hK => ?_
  obtain ⟨i0, hi, hz0, hz1, hz2⟩ := info_parts Tryd.infoInt
  obtain ⟨v', w', hrun, g1, g2, _⟩ := run_append_own (P := Tryd.prog) w base 50 o.type 3 i0 _ 1 8 Tryd.underlying50 hi hz0 hz1 hz2 rfl (by decide) v ms.length _ hown ⟨b, 0, none⟩ 2 cap (mcells [m1, m2]) rfl
    (fun j u hj => by
      have hp : (⟨b, 0, none⟩ : Addr).add j = ⟨b, j, none⟩ := by unfold Addr.add; split <;> simp_all
      rw [hp]
      match j, hj with
      | 0, hj => simp [mcells] at hj; subst hj; exact h0
      | 1, hj => simp [mcells] at hj; subst hj; exact h1)
    (fun u hu => by simp [mcells] at hu; rcases hu with rfl | rfl <;> rfl) (by unfold maxLen; omega) (by omega) hbase
  unfold Oper.wp
  simp [execOp, ho, resolve, invoke, builtin, hs, hx, hrun, Result.andThen]
  exact hK _ _ (h v' w' (by simpa [mcells] using g1) g2)

theorem tok_cells (W : World) (t : Tk) (C : Array Value) (hC : C.toList = t.cells) : ∀ j u, t.cells[j]? = some u → (W.alloc (.cells C 40)).cell? ⟨W.heap.size, j, none⟩ = some u := by
  intro j u hj
  rw [World.cell?_alloc_new, ← Array.getElem?_toList, hC, hj]

theorem two_allc (W : World) (o1 o2 : Obj) : Below W.heap.size W ((W.alloc o1).alloc o2) := ((Below.refl _ _).alloc (Nat.le_refl _) _).alloc (by simp) _

theorem tok_cells2 (W : World) (o : Obj) (t : Tk) (C : Array Value) (hC : C.toList = t.cells) : ∀ j u, t.cells[j]? = some u → ((W.alloc o).alloc (.cells C 40)).cell? ⟨W.heap.size + 1, j, none⟩ = some u := by
  intro j u hj
  have h := tok_cells (W.alloc o) t C hC j u hj
  rwa [show (W.alloc o).heap.size = W.heap.size + 1 by simp] at h

theorem own_allc {W : World} {base e sz n : Nat} {v : Value} {xs : List Value} (h : W.ownsRow base e sz v n xs) (o : Obj) : (W.alloc o).ownsRow base e sz v n xs :=
  own_below h ((Below.refl _ _).alloc (Nat.le_refl _) _)

/-- The facts of a source that the walk leans on. -/
structure Src (S : ByteArray) (s : List Int) : Prop where
  sz : S.size = s.length
  bd : ∀ i, 0 ≤ s.getD i 0 ∧ s.getD i 0 ≤ 255
  eq : S = strOfNums s

theorem Src.at {S : ByteArray} {s : List Int} (h : Src S s) (k : Nat) (hk : k < s.length) : ((S[k]'(by rw [h.sz]; exact hk)).toNat : Int) = s.getD k 0 := by
  obtain ⟨h1, h2, rfl⟩ := h
  exact str_at s h2 k _

theorem Src.two {S : ByteArray} {s : List Int} (h : Src S s) (i : Nat) (hi : i + 1 < s.length) (a b : Int) (ha : 0 ≤ a ∧ a ≤ 255) (hb : 0 ≤ b ∧ b ≤ 255) :
    ((S.extract i (i + 2)).toList == [UInt8.ofNat a.toNat, UInt8.ofNat b.toNat]) = decide (s.getD i 0 = a ∧ s.getD (i + 1) 0 = b) := by
  obtain ⟨h1, h2, rfl⟩ := h
  exact str_two s h2 i hi a b ha hb

theorem Src.cut {S : ByteArray} {s : List Int} (h : Src S s) (i k : Nat) : S.extract i k = strOfNums (lpc s i k) := by
  obtain ⟨h1, h2, rfl⟩ := h
  exact str_pc s i k

/-- What holds at the head of Scan's loop. -/
def SJ (w : World) (s : List Int) (R : List Tk × Int × Int) (o m iv : Value) (wr : World) : Prop :=
  ∃ (i f : Nat) (out : List Tk) (ms : List Nat), iv = .int .i64 (i : Int) ∧ i ≤ s.length ∧ s.length < i + f ∧ out.length ≤ i ∧ ms.length ≤ i ∧ Hid (∀ j, ms.getD j 0 ≤ 1000000) ∧ Hid (R = lsc s f i out ms) ∧
    To wr w.heap.size o out ∧ wr.ownsRow w.heap.size 3 1 m ms.length (mcells ms) ∧ Below w.heap.size w wr

/-- What Scan ends in. -/
def ScanEnd (w : World) (R : List Tk × Int × Int) (e : Ending) (w' : World) : Prop :=
  ∃ v, e = .returned (.tuple #[v, .int .i64 R.2.1, .int .i64 R.2.2]) ∧ To w' w.heap.size v R.1 ∧ Below w.heap.size w w'

theorem ScanEnd_no {w w' : World} {R : List Tk × Int × Int} (p e : Int) (h : R = ([], p, e)) (hb : Below w.heap.size w w') : ScanEnd w R (.returned (.tuple #[.slice none 0 0, .int .i64 p, .int .i64 e])) w' := by
  subst h
  exact ⟨_, rfl, To.nil _ _, hb⟩

/-- What a token's new block holds behind a call that turned nothing that was there. -/
theorem after_call {W w1 : World} {v0 v1 v2 v3 v4 : Value} (hb1 : Below (W.alloc (.cells #[v0, v1, v2, v3, v4] 40)).drew.heap.size (W.alloc (.cells #[v0, v1, v2, v3, v4] 40)).drew w1) :
    Below W.heap.size W w1 ∧ W.heap.size < w1.heap.size ∧ w1.cell? ⟨W.heap.size, 0, none⟩ = some v0 ∧ w1.cell? ⟨W.heap.size, 1, none⟩ = some v1 ∧ w1.cell? ⟨W.heap.size, 2, none⟩ = some v2 ∧ w1.cell? ⟨W.heap.size, 3, none⟩ = some v3 ∧ w1.cell? ⟨W.heap.size, 4, none⟩ = some v4 ∧
      w1.frozen? ⟨W.heap.size, 0, none⟩ = false ∧ w1.frozen? ⟨W.heap.size, 1, none⟩ = false ∧ w1.frozen? ⟨W.heap.size, 2, none⟩ = false := by
  have hlt : W.heap.size < (W.alloc (.cells #[v0, v1, v2, v3, v4] 40)).drew.heap.size := by show W.heap.size < (W.alloc _).heap.size; simp
  have hc : ∀ j, w1.cell? ⟨W.heap.size, j, none⟩ = #[v0, v1, v2, v3, v4][j]? := fun j => (hb1.cell (p := ⟨W.heap.size, j, none⟩) hlt).trans (World.cell?_alloc_new _ _ _ _)
  have hf : ∀ j, w1.frozen? ⟨W.heap.size, j, none⟩ = false := fun j => (hb1.frozen (p := ⟨W.heap.size, j, none⟩) hlt).trans (World.frozen?_alloc_new _ _ _ _)
  exact ⟨((Below.refl W.heap.size W).alloc (Nat.le_refl _) _).drew.trans (hb1.mono (Nat.le_of_lt hlt)), Nat.lt_of_lt_of_le hlt hb1.size, hc 0, hc 1, hc 2, hc 3, hc 4, hf 0, hf 1, hf 2⟩

theorem after_call0 {W w1 : World} {v0 v1 v2 v3 v4 : Value} (hb1 : Below (W.alloc (.cells #[v0, v1, v2, v3, v4] 40)).heap.size (W.alloc (.cells #[v0, v1, v2, v3, v4] 40)) w1) :
    Below W.heap.size W w1 ∧ W.heap.size < w1.heap.size ∧ w1.cell? ⟨W.heap.size, 0, none⟩ = some v0 ∧ w1.cell? ⟨W.heap.size, 1, none⟩ = some v1 ∧ w1.cell? ⟨W.heap.size, 2, none⟩ = some v2 ∧ w1.cell? ⟨W.heap.size, 3, none⟩ = some v3 ∧ w1.cell? ⟨W.heap.size, 4, none⟩ = some v4 ∧
      w1.frozen? ⟨W.heap.size, 0, none⟩ = false ∧ w1.frozen? ⟨W.heap.size, 1, none⟩ = false ∧ w1.frozen? ⟨W.heap.size, 2, none⟩ = false := by
  have hlt : W.heap.size < (W.alloc (.cells #[v0, v1, v2, v3, v4] 40)).heap.size := by simp
  have hc : ∀ j, w1.cell? ⟨W.heap.size, j, none⟩ = #[v0, v1, v2, v3, v4][j]? := fun j => (hb1.cell (p := ⟨W.heap.size, j, none⟩) hlt).trans (World.cell?_alloc_new _ _ _ _)
  have hf : ∀ j, w1.frozen? ⟨W.heap.size, j, none⟩ = false := fun j => (hb1.frozen (p := ⟨W.heap.size, j, none⟩) hlt).trans (World.frozen?_alloc_new _ _ _ _)
  exact ⟨((Below.refl W.heap.size W).alloc (Nat.le_refl _) _).trans (hb1.mono (Nat.le_of_lt hlt)), Nat.lt_of_lt_of_le hlt hb1.size, hc 0, hc 1, hc 2, hc 3, hc 4, hf 0, hf 1, hf 2⟩

/-- A store into another block. -/
theorem Bs.setc {w : World} {a : Option Addr} {len cap : Nat} {zs : List Int} (h : Bs w a len cap zs) (p : Addr) (hne : ∀ x, a = some x → x.block ≠ p.block) (v : Value) : Bs (w.setCell p v) a len cap zs := by
  obtain ⟨h1, h2, h3, h4, h5, h6⟩ := h
  refine ⟨h1, h2, h3, h4, h5, fun hp => ?_⟩
  obtain ⟨b, off, rfl, hlt, hc⟩ := h6 hp
  refine ⟨b, off, rfl, by simpa [World.setCell] using hlt, fun i hi => ?_⟩
  rw [← hc i hi]
  have hb := hne _ rfl
  exact World.cell?_of_block (w := w) (Below.heap_setCell w p v b hb)

theorem own_far {W w1 : World} {o : Obj} {e z n : Nat} {a : Option Addr} {len cap : Nat} {xs : List Value} (h : w1.ownsRow (W.alloc o).heap.size e z (.slice a len cap) n xs) : ∀ x, a = some x → x.block ≠ W.heap.size := by
  intro x hx
  subst hx
  have := (h.lt x.block rfl).1
  simp at this
  omega

theorem qtk_place (q : Int) : ∀ (f : Nat) (s : List Int) (i : Int) (o : List Int), s.length ≤ f → i ≤ (qtk q f s i o).2.1 ∧ (qtk q f s i o).2.1 ≤ i + s.length
  | 0, s, i, o, h => by simp only [qtk]; omega
  | f + 1, [], i, o, h => by simp [qtk]
  | f + 1, c :: r, i, o, h => by
    simp only [List.length_cons] at h ⊢
    rw [qtk]
    by_cases k1 : c = q
    · simp only [if_pos k1]; omega
    simp only [if_neg k1]
    by_cases k2 : c = 0 ∨ c = 10
    · simp only [if_pos k2]; omega
    simp only [if_neg k2]
    by_cases k3 : c = 92
    · simp only [if_pos k3]
      by_cases k4 : (qesc r).2 = 0
      · simp only [if_pos k4]; omega
      · simp only [if_neg k4]
        have hle := (qesc_le r).1
        have := qtk_place q f (r.drop (qesc r).2) (i + 1 + (qesc r).2) (o ++ (qesc r).1) (by simp only [List.length_drop]; omega)
        simp only [List.length_drop] at this
        omega
    · simp only [if_neg k3]
      have := qtk_place q f r (i + 1) (o ++ [c]) (by omega)
      omega

theorem qtake_place (s : List Int) : 0 ≤ (qtake s).2.1 ∧ (qtake s).2.1 ≤ s.length := by
  cases s with
  | nil => simp [qtake]
  | cons c r =>
    rw [qtake]
    by_cases k : c = 34 ∨ c = 39
    · simp only [if_pos k]
      have := qtk_place c r.length r 1 [] (Nat.le_refl _)
      simp only [List.length_cons]
      omega
    · simp only [if_neg k, List.length_cons]
      omega

end Go.Proofs.YtjkcmcefmciinaaDoor
