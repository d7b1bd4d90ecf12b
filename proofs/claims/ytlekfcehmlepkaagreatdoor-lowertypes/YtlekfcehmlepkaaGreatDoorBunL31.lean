/- Put together by a program out of these texts of mine: LScnD, LSt, LQ0, LQ1, LQ3, LQ4, LPl. -/
import Derived.Test.YtlekfcehmlepkaaGreatDoorBunL30

namespace Go.Proofs.YtlekfcehmlepkaaGreatDoor
open Go.RowKit
set_option linter.unusedVariables false
set_option linter.unusedSimpArgs false

theorem ldl_bd (s : List Int) (ms : List Nat) (hs : ∀ c ∈ s, 0 ≤ c ∧ c ≤ 255) : ∀ (f n : Nat) (out : List Int), (∀ c ∈ out, 0 ≤ c ∧ c ≤ 255) → ∀ c ∈ ldl s ms f n out, 0 ≤ c ∧ c ≤ 255
  | 0, n, out, h => h
  | f + 1, n, out, h => by
    rw [ldl]
    by_cases k0 : n = 0
    · rw [if_pos k0]; exact h
    rw [if_neg k0]
    cases ho : lown s (lnAt s (n - 1)) (n - 1) with
    | none => exact h
    | some t =>
      simp only
      by_cases k1 : (linside ms (lnAt s (n - 1)) || linside ms (n - 1)) = true
      · rw [if_pos k1]; exact h
      · rw [if_neg k1]
        apply ldl_bd s ms hs
        have ht : ∀ c ∈ t, 0 ≤ c ∧ c ≤ 255 := by
          unfold lown at ho
          simp only at ho
          by_cases k2 : lrun lblank s (n - 1) (n - 1 - lnAt s (n - 1)) (lnAt s (n - 1)) + 2 ≤ n - 1 ∧ s.getD (lrun lblank s (n - 1) (n - 1 - lnAt s (n - 1)) (lnAt s (n - 1))) 0 = 47 ∧ s.getD (lrun lblank s (n - 1) (n - 1 - lnAt s (n - 1)) (lnAt s (n - 1)) + 1) 0 = 47
          · rw [if_pos k2] at ho
            simp only [Option.some.injEq] at ho
            intro c hc
            rw [← ho] at hc
            exact hs c (List.mem_of_mem_take (List.mem_of_mem_drop hc))
          · rw [if_neg k2] at ho; simp at ho
        intro c hc
        simp only [List.mem_append, List.mem_cons, List.not_mem_nil, or_false] at hc
        rcases hc with (hc | rfl) | hc
        · exact ht c hc
        · omega
        · exact h c hc

theorem ldoc_bd (s : List Int) (k : Nat) (ms : List Nat) (hs : ∀ c ∈ s, 0 ≤ c ∧ c ≤ 255) : ∀ c ∈ ldoc s k ms, 0 ≤ c ∧ c ≤ 255 := by
  unfold ldoc
  split
  · exact ldl_bd s ms hs _ _ [] (by simp)
  · simp

theorem own_apart {w : World} {base : Nat} {e1 e2 : TypeId} {z1 z2 n1 n2 : Nat} {v1 v2 : Value} {x1 x2 : List Value} (h1 : w.ownsRow base e1 z1 v1 n1 x1) (h2 : w.ownsRow base e2 z2 v2 n2 x2) (he : e1 ≠ e2) : ∀ g, v1.ownBlock = some g → v2.ownBlock ≠ some g := by
  intro g hg hg2
  rcases h1.2 with ⟨rfl, _⟩ | ⟨a, c, cur, rfl, ha, hh, _⟩
  · simp [Value.ownBlock] at hg
  rcases h2.2 with ⟨rfl, _⟩ | ⟨a2, c2, cur2, rfl, ha2, hh2, _⟩
  · simp [Value.ownBlock] at hg2
  simp only [Value.ownBlock, Option.some.injEq] at hg hg2
  subst hg
  subst hg2
  rw [hh] at hh2
  simp only [Option.some.injEq, Obj.cells.injEq] at hh2
  exact he hh2.2.1

theorem own_other {w w' : World} {base : Nat} {e1 e2 : TypeId} {z1 z2 n1 n2 : Nat} {v1 v2 : Value} {x1 x2 : List Value} (h1 : w.ownsRow base e1 z1 v1 n1 x1) (h2 : w.ownsRow base e2 z2 v2 n2 x2) (he : e1 ≠ e2) (hg : w.grownBy w' v2.ownBlock) : w'.ownsRow base e1 z1 v1 n1 x1 := by
  refine h1.kept hg ?_
  cases hb : v1.ownBlock with
  | none => exact .inl rfl
  | some g => exact .inr (fun h => own_apart h1 h2 he g hb h.symm)

theorem Tryz.infoInt : (Tryz.prog.info? 3).map (fun i => (i.zero, i.size, i.bytes)) = some (some (.int .i64 0), 1, 8) := by kernel_rfl

def mcells (ms : List Nat) : List Value := ms.map fun m => Value.int .i64 ((m : Nat) : Int)

theorem wpList_append_marks {w : World} {ops : Array Oper} {rest : List Oper} {o : Oper} {f : Act} {Q : Exit → Act → World → Prop} (hgd : o.guard = none) (s x : Operand)
    (ho : o.op = .call { callee := .builtin .append, args := #[s, x], argTypes := #[36, 36] }) (base : Nat) (v : Value) (ms : List Nat) (m1 m2 : Nat) (b cap : Nat)
    (hs : f.eval s = v) (hx : f.eval x = .slice (some ⟨b, 0, none⟩) 2 cap) (hown : w.ownsRow base 3 1 v ms.length (mcells ms))
    (h0 : w.cell? ⟨b, 0, none⟩ = some (.int .i64 (m1 : Int))) (h1 : w.cell? ⟨b, 1, none⟩ = some (.int .i64 (m2 : Int))) (hn : ms.length + 2 ≤ 1000000) (hbase : base ≤ w.heap.size)
    (h : ∀ v' w', w'.ownsRow base 3 1 v' (ms ++ [m1, m2]).length (mcells (ms ++ [m1, m2])) → w.grownBy w' v.ownBlock → wpList Tryz.prog ops Q rest (f.put o.dst v') w') : wpList Tryz.prog ops Q (o :: rest) f w := by
  refine wpList_plain hgd fun K hK => ?_
  obtain ⟨i0, hi, hz0, hz1, hz2⟩ := info_parts Tryz.infoInt
  obtain ⟨v', w', hrun, g1, g2, _⟩ := run_append_own (P := Tryz.prog) w base 36 o.type 3 i0 _ 1 8 Tryz.underlying36 hi hz0 hz1 hz2 rfl (by decide) v ms.length _ hown ⟨b, 0, none⟩ 2 cap (mcells [m1, m2]) rfl
    (fun j u hj => by
      have hp : (⟨b, 0, none⟩ : Addr).add j = ⟨b, j, none⟩ := by unfold Addr.add; split <;> simp_all
      rw [hp]
      match j, hj with
      | 0, hj => simp [mcells] at hj; subst hj; exact h0
      | 1, hj => simp [mcells] at hj; subst hj; exact h1)
    (fun u hu => by simp [mcells] at hu; rcases hu with rfl | rfl <;> rfl) (by unfold maxLen; omega) (by omega) hbase
  unfold Oper.wp
  simp [execOp, ho, resolve, invoke, builtin, hs, hx, hrun, Result.andThen]
  exact hK _ _ (h v' w' (by simpa [mcells] using g1) g2)

theorem tok_cells (W : World) (t : Tk) (C : Array Value) (hC : C.toList = t.cells) : ∀ j u, t.cells[j]? = some u → (W.alloc (.cells C 81)).cell? ⟨W.heap.size, j, none⟩ = some u := by
  intro j u hj
  rw [World.cell?_alloc_new, ← Array.getElem?_toList, hC, hj]

theorem own_allc {W : World} {base e sz n : Nat} {v : Value} {xs : List Value} (h : W.ownsRow base e sz v n xs) (o : Obj) : (W.alloc o).ownsRow base e sz v n xs :=
  own_below h ((Below.refl _ _).alloc (Nat.le_refl _) _)

structure Src (S : ByteArray) (s : List Int) : Prop where
  sz : S.size = s.length
  bd : ∀ i, 0 ≤ s.getD i 0 ∧ s.getD i 0 ≤ 255
  eq : S = strOfNums s

theorem Src.at {S : ByteArray} {s : List Int} (h : Src S s) (k : Nat) (hk : k < s.length) : ((S[k]'(by rw [h.sz]; exact hk)).toNat : Int) = s.getD k 0 := by
  obtain ⟨h1, h2, rfl⟩ := h
  exact str_at s h2 k _

theorem Src.two {S : ByteArray} {s : List Int} (h : Src S s) (i : Nat) (hi : i + 1 < s.length) (a b : Int) (ha : 0 ≤ a ∧ a ≤ 255) (hb : 0 ≤ b ∧ b ≤ 255) :
    ((S.extract i (i + 2)).toList == [UInt8.ofNat a.toNat, UInt8.ofNat b.toNat]) = decide (s.getD i 0 = a ∧ s.getD (i + 1) 0 = b) := by
  obtain ⟨h1, h2, rfl⟩ := h
  exact str_two s h2 i hi a b ha hb

theorem Src.cut {S : ByteArray} {s : List Int} (h : Src S s) (i k : Nat) : S.extract i k = strOfNums (lpc s i k) := by
  obtain ⟨h1, h2, rfl⟩ := h
  exact str_pc s i k

def SJ (w : World) (s : List Int) (R : List Tk × Int × Int) (o m iv : Value) (wr : World) : Prop :=
  ∃ (i f : Nat) (out : List Tk) (ms : List Nat), iv = .int .i64 (i : Int) ∧ i ≤ s.length ∧ s.length < i + f ∧ out.length ≤ i ∧ ms.length ≤ i ∧ Hid (∀ j, ms.getD j 0 ≤ 1000000) ∧ Hid (R = lsc s f i out ms) ∧
    To wr w.heap.size o out ∧ wr.ownsRow w.heap.size 3 1 m ms.length (mcells ms) ∧ Below w.heap.size w wr

def ScanEnd (w : World) (R : List Tk × Int × Int) (e : Ending) (w' : World) : Prop :=
  ∃ v, e = .returned (.tuple #[v, .int .i64 R.2.1, .int .i64 R.2.2]) ∧ To w' w.heap.size v R.1 ∧ Below w.heap.size w w'

theorem after_call {W w1 : World} {v0 v1 v2 v3 v4 : Value} (hb1 : Below (W.alloc (.cells #[v0, v1, v2, v3, v4] 81)).drew.heap.size (W.alloc (.cells #[v0, v1, v2, v3, v4] 81)).drew w1) :
    Below W.heap.size W w1 ∧ W.heap.size < w1.heap.size ∧ w1.cell? ⟨W.heap.size, 0, none⟩ = some v0 ∧ w1.cell? ⟨W.heap.size, 1, none⟩ = some v1 ∧ w1.cell? ⟨W.heap.size, 2, none⟩ = some v2 ∧ w1.cell? ⟨W.heap.size, 3, none⟩ = some v3 ∧ w1.cell? ⟨W.heap.size, 4, none⟩ = some v4 ∧
      w1.frozen? ⟨W.heap.size, 0, none⟩ = false ∧ w1.frozen? ⟨W.heap.size, 1, none⟩ = false ∧ w1.frozen? ⟨W.heap.size, 2, none⟩ = false := by
  have hlt : W.heap.size < (W.alloc (.cells #[v0, v1, v2, v3, v4] 81)).drew.heap.size := by show W.heap.size < (W.alloc _).heap.size; simp
  have hc : ∀ j, w1.cell? ⟨W.heap.size, j, none⟩ = #[v0, v1, v2, v3, v4][j]? := fun j => (hb1.cell (p := ⟨W.heap.size, j, none⟩) hlt).trans (World.cell?_alloc_new _ _ _ _)
  have hf : ∀ j, w1.frozen? ⟨W.heap.size, j, none⟩ = false := fun j => (hb1.frozen (p := ⟨W.heap.size, j, none⟩) hlt).trans (World.frozen?_alloc_new _ _ _ _)
  exact ⟨((Below.refl W.heap.size W).alloc (Nat.le_refl _) _).drew.trans (hb1.mono (Nat.le_of_lt hlt)), Nat.lt_of_lt_of_le hlt hb1.size, hc 0, hc 1, hc 2, hc 3, hc 4, hf 0, hf 1, hf 2⟩

theorem after_call0 {W w1 : World} {v0 v1 v2 v3 v4 : Value} (hb1 : Below (W.alloc (.cells #[v0, v1, v2, v3, v4] 81)).heap.size (W.alloc (.cells #[v0, v1, v2, v3, v4] 81)) w1) :
    Below W.heap.size W w1 ∧ W.heap.size < w1.heap.size ∧ w1.cell? ⟨W.heap.size, 0, none⟩ = some v0 ∧ w1.cell? ⟨W.heap.size, 1, none⟩ = some v1 ∧ w1.cell? ⟨W.heap.size, 2, none⟩ = some v2 ∧ w1.cell? ⟨W.heap.size, 3, none⟩ = some v3 ∧ w1.cell? ⟨W.heap.size, 4, none⟩ = some v4 ∧
      w1.frozen? ⟨W.heap.size, 0, none⟩ = false ∧ w1.frozen? ⟨W.heap.size, 1, none⟩ = false ∧ w1.frozen? ⟨W.heap.size, 2, none⟩ = false := by
  have hlt : W.heap.size < (W.alloc (.cells #[v0, v1, v2, v3, v4] 81)).heap.size := by simp
  have hc : ∀ j, w1.cell? ⟨W.heap.size, j, none⟩ = #[v0, v1, v2, v3, v4][j]? := fun j => (hb1.cell (p := ⟨W.heap.size, j, none⟩) hlt).trans (World.cell?_alloc_new _ _ _ _)
  have hf : ∀ j, w1.frozen? ⟨W.heap.size, j, none⟩ = false := fun j => (hb1.frozen (p := ⟨W.heap.size, j, none⟩) hlt).trans (World.frozen?_alloc_new _ _ _ _)
  exact ⟨((Below.refl W.heap.size W).alloc (Nat.le_refl _) _).trans (hb1.mono (Nat.le_of_lt hlt)), Nat.lt_of_lt_of_le hlt hb1.size, hc 0, hc 1, hc 2, hc 3, hc 4, hf 0, hf 1, hf 2⟩

theorem Bs.setc {w : World} {a : Option Addr} {len cap : Nat} {zs : List Int} (h : Bs w a len cap zs) (p : Addr) (hne : ∀ x, a = some x → x.block ≠ p.block) (v : Value) : Bs (w.setCell p v) a len cap zs := by
  obtain ⟨h1, h2, h3, h4, h5, h6⟩ := h
  refine ⟨h1, h2, h3, h4, h5, fun hp => ?_⟩
  obtain ⟨b, off, rfl, hlt, hc⟩ := h6 hp
  refine ⟨b, off, rfl, by simpa [World.setCell] using hlt, fun i hi => ?_⟩
  rw [← hc i hi]
  have hb := hne _ rfl
  exact World.cell?_of_block (w := w) (Below.heap_setCell w p v b hb)

theorem own_far {W w1 : World} {o : Obj} {e z n : Nat} {a : Option Addr} {len cap : Nat} {xs : List Value} (h : w1.ownsRow (W.alloc o).heap.size e z (.slice a len cap) n xs) : ∀ x, a = some x → x.block ≠ W.heap.size := by
  intro x hx
  subst hx
  have := (h.lt x.block rfl).1
  simp at this
  omega

theorem qtk_place (q : Int) : ∀ (f : Nat) (s : List Int) (i : Int) (o : List Int), s.length ≤ f → i ≤ (qtk q f s i o).2.1 ∧ (qtk q f s i o).2.1 ≤ i + s.length
  | 0, s, i, o, h => by simp only [qtk]; omega
  | f + 1, [], i, o, h => by simp [qtk]
  | f + 1, c :: r, i, o, h => by
    simp only [List.length_cons] at h ⊢
    rw [qtk]
    by_cases k1 : c = q
    · simp only [if_pos k1]; omega
    simp only [if_neg k1]
    by_cases k2 : c = 0 ∨ c = 10
    · simp only [if_pos k2]; omega
    simp only [if_neg k2]
    by_cases k3 : c = 92
    · simp only [if_pos k3]
      by_cases k4 : (qesc r).2 = 0
      · simp only [if_pos k4]; omega
      · simp only [if_neg k4]
        have hle := (qesc_le r).1
        have := qtk_place q f (r.drop (qesc r).2) (i + 1 + (qesc r).2) (o ++ (qesc r).1) (by simp only [List.length_drop]; omega)
        simp only [List.length_drop] at this
        omega
    · simp only [if_neg k3]
      have := qtk_place q f r (i + 1) (o ++ [c]) (by omega)
      omega

theorem qtake_place (s : List Int) : 0 ≤ (qtake s).2.1 ∧ (qtake s).2.1 ≤ s.length := by
  cases s with
  | nil => simp [qtake]
  | cons c r =>
    rw [qtake]
    by_cases k : c = 34 ∨ c = 39
    · simp only [if_pos k]
      have := qtk_place c r.length r 1 [] (Nat.le_refl _)
      simp only [List.length_cons]
      omega
    · simp only [if_neg k, List.length_cons]
      omega

end Go.Proofs.YtlekfcehmlepkaaGreatDoor

namespace Go.Proofs.YtlekfcehmlepkaaGreatDoor
set_option linter.unusedSimpArgs false
set_option linter.unusedVariables false

theorem lrun_holds (p : Int → Bool) (s : List Int) (to : Nat) : ∀ f i q, i ≤ q → q < lrun p s to f i → p (s.getD q 0) = true ∧ q < to
  | 0, i, q, h1, h2 => by rw [lrun] at h2; omega
  | f + 1, i, q, h1, h2 => by
    rw [lrun] at h2
    by_cases k : i < to ∧ p (s.getD i 0) = true
    · rw [if_pos k] at h2
      by_cases e : q = i
      · subst e; exact ⟨k.2, k.1⟩
      · exact lrun_holds p s to f (i + 1) q (by omega) h2
    · rw [if_neg k] at h2; omega

/- A quoted text has no line's end within. -/
theorem qrn_no10 (base : Int) (hb : base ≤ 16) : ∀ (f : Nat) (s : List Int) (n : Int), ∀ x ∈ s.take (qrn base f s n).2, x ≠ 10
  | 0, s, n => by simp [qrn]
  | f + 1, [], n => by simp [qrn]
  | f + 1, c :: r, n => by
    rw [qrn]
    by_cases k : dgt c < base
    · rw [if_pos k]
      intro x hx
      simp only [List.take_succ_cons, List.mem_cons] at hx
      rcases hx with rfl | hx
      · rintro rfl
        have : dgt 10 = 99 := by decide
        omega
      · exact qrn_no10 base hb f r _ x hx
    · rw [if_neg k]; simp

theorem qesc_no10 (s : List Int) : ∀ x ∈ s.take (qesc s).2, x ≠ 10 := by
  cases s with
  | nil => simp [qesc]
  | cons c r =>
    have h1 := qrn_no10 16 (by omega) 2 r 0
    have h2 := qrn_no10 16 (by omega) 4 r 0
    have h3 := qrn_no10 16 (by omega) 8 r 0
    have h4 := qrn_no10 8 (by omega) 3 (c :: r) 0
    rw [qesc]
    by_cases k0 : c = 97
    · rw [if_pos k0]; simp [k0]
    rw [if_neg k0]
    by_cases k1 : c = 98
    · rw [if_pos k1]; simp [k1]
    rw [if_neg k1]
    by_cases k2 : c = 102
    · rw [if_pos k2]; simp [k2]
    rw [if_neg k2]
    by_cases k3 : c = 110
    · rw [if_pos k3]; simp [k3]
    rw [if_neg k3]
    by_cases k4 : c = 114
    · rw [if_pos k4]; simp [k4]
    rw [if_neg k4]
    by_cases k5 : c = 116
    · rw [if_pos k5]; simp [k5]
    rw [if_neg k5]
    by_cases k6 : c = 118
    · rw [if_pos k6]; simp [k6]
    rw [if_neg k6]
    by_cases k7 : c = 92 ∨ c = 39 ∨ c = 34 ∨ c = 63
    · rw [if_pos k7]; simp; omega
    rw [if_neg k7]
    by_cases m0 : c = 120 ∨ c = 88
    · rw [if_pos m0]
      by_cases j : 0 < (qrn 16 2 r 0).2
      · rw [if_pos j]
        simp only [Nat.add_comm 1, List.take_succ_cons, List.mem_cons]
        rintro x (rfl | hx)
        · omega
        · exact h1 x hx
      · rw [if_neg j]; simp
    rw [if_neg m0]
    by_cases m1 : c = 117
    · rw [if_pos m1]
      by_cases j : (qrn 16 4 r 0).2 = 4 ∧ isCh (qrn 16 4 r 0).1 = true
      · rw [if_pos j]
        rw [j.1] at h2
        simp only [List.take_succ_cons, List.mem_cons]
        rintro x (rfl | hx)
        · omega
        · exact h2 x hx
      · rw [if_neg j]; simp
    rw [if_neg m1]
    by_cases m2 : c = 85
    · rw [if_pos m2]
      by_cases j : (qrn 16 8 r 0).2 = 8 ∧ isCh (qrn 16 8 r 0).1 = true
      · rw [if_pos j]
        rw [j.1] at h3
        simp only [List.take_succ_cons, List.mem_cons]
        rintro x (rfl | hx)
        · omega
        · exact h3 x hx
      · rw [if_neg j]; simp
    rw [if_neg m2]
    by_cases j : 0 < (qrn 8 3 (c :: r) 0).2 ∧ (qrn 8 3 (c :: r) 0).1 < 256
    · rw [if_pos j]; exact h4
    · rw [if_neg j]; simp

theorem qtk_no10 (q : Int) (hq : q ≠ 10) : ∀ (f : Nat) (s : List Int) (i : Int) (o : List Int), (qtk q f s i o).2.2 = 0 → ∃ n : Nat, (qtk q f s i o).2.1 = i + n ∧ n ≤ s.length ∧ ∀ x ∈ s.take n, x ≠ 10
  | 0, s, i, o, h => by simp [qtk] at h
  | f + 1, [], i, o, h => by simp [qtk] at h
  | f + 1, c :: r, i, o, h => by
    rw [qtk] at h ⊢
    by_cases k1 : c = q
    · simp only [if_pos k1] at h ⊢
      exact ⟨1, by omega, by simp, by simp; omega⟩
    simp only [if_neg k1] at h ⊢
    by_cases k2 : c = 0 ∨ c = 10
    · simp only [if_pos k2] at h; exact absurd h (by decide)
    simp only [if_neg k2] at h ⊢
    by_cases k3 : c = 92
    · simp only [if_pos k3] at h ⊢
      by_cases k4 : (qesc r).2 = 0
      · simp only [if_pos k4] at h; exact absurd h (by decide)
      · simp only [if_neg k4] at h ⊢
        obtain ⟨n, h1, h2, h3⟩ := qtk_no10 q hq f (r.drop (qesc r).2) _ _ h
        have hle := (qesc_le r).1
        simp only [List.length_drop] at h2
        refine ⟨1 + (qesc r).2 + n, by rw [h1]; push_cast; omega, by simp only [List.length_cons]; omega, ?_⟩
        rw [show 1 + (qesc r).2 + n = ((qesc r).2 + n) + 1 by omega, List.take_succ_cons, List.take_add]
        simp only [List.mem_cons, List.mem_append]
        rintro x (rfl | hx | hx)
        · omega
        · exact qesc_no10 r x hx
        · exact h3 x hx
    · simp only [if_neg k3] at h ⊢
      obtain ⟨n, h1, h2, h3⟩ := qtk_no10 q hq f r _ _ h
      refine ⟨n + 1, by rw [h1]; push_cast; omega, by simp only [List.length_cons]; omega, ?_⟩
      rw [List.take_succ_cons]
      simp only [List.mem_cons]
      rintro x (rfl | hx)
      · omega
      · exact h3 x hx

theorem qtake_no10 (s : List Int) (h : (qtake s).2.2 = 0) : ∃ n : Nat, (qtake s).2.1 = n ∧ n ≤ s.length ∧ 0 < n ∧ ∀ p, p < n → s.getD p 0 ≠ 10 := by
  cases s with
  | nil => simp [qtake] at h
  | cons c r =>
    rw [qtake] at h ⊢
    by_cases k : c = 34 ∨ c = 39
    · simp only [if_pos k] at h ⊢
      obtain ⟨n, h1, h2, h3⟩ := qtk_no10 c (by omega) r.length r 1 [] h
      refine ⟨n + 1, by rw [h1]; push_cast; omega, by simp only [List.length_cons]; omega, by omega, ?_⟩
      intro p hp
      match p with
      | 0 => simp; omega
      | p + 1 =>
        have hpr : p < r.length := by omega
        simp only [List.getD, List.getElem?_cons_succ, List.getElem?_eq_getElem hpr, Option.getD_some]
        refine h3 _ ?_
        rw [List.mem_take_iff_getElem]
        exact ⟨p, by omega, rfl⟩
    · simp only [if_neg k] at h; exact absurd h (by decide)

end Go.Proofs.YtlekfcehmlepkaaGreatDoor

namespace Go.Proofs.YtlekfcehmlepkaaGreatDoor
open Go.RowKit
set_option linter.unusedVariables false
set_option linter.unusedSimpArgs false

def goR : Code → Code
  | .seq _ b => b
  | c => c

def goL : Code → Code
  | .seq a _ => a
  | c => c

def goIn : Code → Code
  | .block _ c => c
  | .loop c => c
  | c => c

noncomputable def rbody : Code := Tryz.f22.body.getD .skip

noncomputable def rloop : Code := goIn (goR (goR (goR (goR (goR rbody)))))

noncomputable def rB : Code := goIn (goIn rloop)

noncomputable def rP1 : Code := goL rB

noncomputable def rP2 : Code := goL (goR rB)

noncomputable def rP3 : Code := goL (goR (goR rB))

noncomputable def rP4 : Code := goL (goR (goR (goR rB)))

noncomputable def rT : Code := goR (goR (goR (goR rB)))

noncomputable def rT1 : Code := goL rT

noncomputable def rT2 : Code := goL (goR rT)

noncomputable def rSW : Code := goL (goR (goR rT))

noncomputable def rT3 : Code := goR (goR (goR rT))

set_option maxRecDepth 100000 in
def RF (S : ByteArray) (o m iv t9 k10 : Value) (us : Nat → Value) : Act :=
  { tmps := List.toArray (.string S :: undef :: .slice none 0 0 :: .int .i64 0 :: .int .i64 0 :: o :: m :: iv :: us 8 :: t9 :: k10 :: us 11 :: us 12 :: us 13 :: us 14 :: us 15 :: us 16 :: us 17 :: us 18 :: us 19 :: us 20 :: us 21 :: us 22 :: us 23 :: us 24 :: us 25 :: us 26 :: us 27 :: us 28 :: us 29 :: us 30 :: us 31 :: us 32 :: us 33 :: us 34 :: us 35 :: us 36 :: us 37 :: us 38 :: us 39 :: us 40 :: us 41 :: us 42 :: us 43 :: us 44 :: us 45 :: us 46 :: us 47 :: us 48 :: us 49 :: us 50 :: us 51 :: us 52 :: us 53 :: us 54 :: us 55 :: us 56 :: us 57 :: us 58 :: us 59 :: us 60 :: us 61 :: us 62 :: us 63 :: us 64 :: us 65 :: us 66 :: us 67 :: us 68 :: us 69 :: us 70 :: us 71 :: us 72 :: us 73 :: us 74 :: us 75 :: us 76 :: us 77 :: us 78 :: us 79 :: us 80 :: us 81 :: us 82 :: us 83 :: us 84 :: us 85 :: us 86 :: us 87 :: us 88 :: us 89 :: us 90 :: us 91 :: us 92 :: us 93 :: us 94 :: us 95 :: us 96 :: us 97 :: us 98 :: us 99 :: us 100 :: us 101 :: us 102 :: us 103 :: us 104 :: us 105 :: us 106 :: us 107 :: us 108 :: us 109 :: us 110 :: us 111 :: us 112 :: us 113 :: us 114 :: us 115 :: us 116 :: us 117 :: us 118 :: us 119 :: us 120 :: us 121 :: us 122 :: us 123 :: us 124 :: us 125 :: us 126 :: us 127 :: us 128 :: us 129 :: us 130 :: us 131 :: us 132 :: us 133 :: us 134 :: us 135 :: us 136 :: us 137 :: us 138 :: us 139 :: us 140 :: us 141 :: us 142 :: us 143 :: us 144 :: us 145 :: us 146 :: us 147 :: us 148 :: us 149 :: us 150 :: us 151 :: us 152 :: us 153 :: us 154 :: us 155 :: us 156 :: us 157 :: us 158 :: us 159 :: us 160 :: us 161 :: us 162 :: us 163 :: us 164 :: us 165 :: us 166 :: us 167 :: us 168 :: us 169 :: us 170 :: us 171 :: us 172 :: us 173 :: us 174 :: us 175 :: us 176 :: us 177 :: us 178 :: us 179 :: us 180 :: us 181 :: us 182 :: us 183 :: us 184 :: us 185 :: us 186 :: us 187 :: us 188 :: us 189 :: us 190 :: us 191 :: us 192 :: us 193 :: us 194 :: us 195 :: us 196 :: us 197 :: us 198 :: us 199 :: us 200 :: us 201 :: us 202 :: us 203 :: us 204 :: us 205 :: us 206 :: us 207 :: us 208 :: us 209 :: us 210 :: us 211 :: []), defers := [] }

theorem RF.mk {S : ByteArray} {o m iv t9 k10 : Value} {a' : Act} (us : Nat → Value) (_hu : us = fun k => a'.tmps.getD k undef) (h : a' = RF S o m iv t9 k10 us) : ∃ us, a' = RF S o m iv t9 k10 us := ⟨us, h⟩

def Goes (c : Code) (a : Act) (w : World) (N X Rt : Act → World → Prop) : Prop :=
  ∀ Q : Exit → Act → World → Prop, (∀ a w, N a w → Q .normal a w) → (∀ a w, X a w → Q (.exit 1) a w) → (∀ a w, Rt a w → Q .ret a w) → c.wp Tryz.prog Q a w

theorem Goes.seq {x y : Code} {a : Act} {w : World} {M N X Rt : Act → World → Prop} (h1 : Goes x a w M X Rt) (h2 : ∀ a w, M a w → Goes y a w N X Rt) : Goes (.seq x y) a w N X Rt :=
  fun Q hN hX hR => wp_seq (h1 _ (fun a w h => h2 a w h Q hN hX hR) hX hR)

theorem Goes.mono {x : Code} {a : Act} {w : World} {N X Rt N' X' Rt' : Act → World → Prop} (h : Goes x a w N X Rt) (h1 : ∀ a w, N a w → N' a w) (h2 : ∀ a w, X a w → X' a w) (h3 : ∀ a w, Rt a w → Rt' a w) : Goes x a w N' X' Rt' :=
  fun Q hN hX hR => h Q (fun a w k => hN a w (h1 a w k)) (fun a w k => hX a w (h2 a w k)) (fun a w k => hR a w (h3 a w k))

def Nev (_ : Act) (_ : World) : Prop := False

theorem Nev.any {P : Act → World → Prop} : ∀ a w, Nev a w → P a w := fun _ _ h => h.elim

def Rtn (w : World) (R : List Tk × Int × Int) (a : Act) (w' : World) : Prop :=
  ∃ v, a.tmps.getD 2 undef = v ∧ a.tmps.getD 3 undef = .int .i64 R.2.1 ∧ a.tmps.getD 4 undef = .int .i64 R.2.2 ∧ a.defers = [] ∧ To w' w.heap.size v R.1 ∧ Below w.heap.size w w'

set_option maxRecDepth 100000 in
set_option maxHeartbeats 4000000 in
theorem g1 (S : ByteArray) (s : List Int) (o m t9 k10 : Value) (i0 : Nat) (us : Nat → Value) (W : World) (HS : Hid (Src S s)) (hlen : (s.length : Int) ≤ 100000) (hi0 : i0 ≤ s.length) :
    Goes rP1 (RF S o m (.int .i64 (i0 : Int)) t9 k10 us) W (fun a w => w = W ∧ ∃ us, a = RF S o m (.int .i64 ((lrun lblank s s.length (s.length - i0) i0 : Nat) : Int)) t9 k10 us) Nev Nev := by
  intro Q hN hX hR
  have hsz := HS.out.sz
  obtain ⟨K, hK⟩ : ∃ K, K = lrun lblank s s.length (s.length - i0) i0 := ⟨_, rfl⟩
  rw [← hK] at hN
  have HK : Hid (K = lrun lblank s s.length (s.length - i0) i0) := hK
  have HN : Hid _ := hN
  clear hX hR hK hN
  unfold RF
  conv => arg 2; whnf
  go_wp2
  go_loopw [7] (fun v wr => ∃ i : Nat, v = .int .i64 (i : Int) ∧ i0 ≤ i ∧ i ≤ s.length ∧ Hid (K = lrun lblank s s.length (s.length - i) i) ∧ W = wr) (fun v _ => s.length - (intOf v).toNat)
  case atStart => exact ⟨i0, rfl, by omega, hi0, HK, rfl⟩
  case round =>
    obtain ⟨i, rfl, hii, his, HI, rfl⟩ := hrel
    by_cases hil : i < s.length
    · have hat := HS.out.at i hil
      have hcb := HS.out.bd i
      have HI' := HI.out
      obtain ⟨m', hm⟩ : ∃ m, s.length - i = m + 1 := ⟨s.length - i - 1, by omega⟩
      rw [hm, lrun, show m' = s.length - (i + 1) by omega] at HI'
      generalize s.getD i 0 = c at hat hcb HI'
      obtain ⟨c0, c255⟩ := hcb
      clear hm HI
      have q := fun W => rblank_any c W c0 c255
      by_cases hbl : lblank c = true
      · rw [if_pos ⟨hil, hbl⟩] at HI'
        rw [hbl] at q
        have HE : Hid _ := HI'
        have QB : Hid _ := q
        clear HI' q hbl
        go_wp2_with fail
        refine Calls.mono (QB.out _) ?_
        rintro e w1 ⟨rfl, rfl⟩
        go_wp2
        go_roundw
        case rel => first | exact ⟨i + 1, by go_num, by omega, by omega, HE, by first | rfl | trivial⟩ | ((repeat apply Exists.intro); exact ⟨⟨i + 1, by go_num, by omega, by omega, HE, by first | rfl | trivial⟩, rfl⟩)
        case measure => simp [intOf]; omega
      · have hbl' : lblank c = false := by simpa using hbl
        rw [if_neg (fun h => hbl h.2)] at HI'
        rw [hbl'] at q
        have QB : Hid _ := q
        subst HI'
        clear q hbl hbl'
        go_wp2_with fail
        refine Calls.mono (QB.out _) ?_
        rintro e w1 ⟨rfl, rfl⟩
        go_wp2
        exact HN.out _ _ ⟨rfl, RF.mk _ rfl rfl⟩
    · obtain rfl : i = s.length := by omega
      have e := HI.out
      rw [Nat.sub_self, lrun] at e
      subst e
      clear HI
      go_wp2
      exact HN.out _ _ ⟨rfl, RF.mk _ rfl rfl⟩

set_option maxRecDepth 100000 in
set_option maxHeartbeats 4000000 in
theorem g2_on (S : ByteArray) (s : List Int) (o m t9 k10 : Value) (i : Nat) (us : Nat → Value) (W : World) (HS : Hid (Src S s)) (hi : i < s.length) :
    Goes rP2 (RF S o m (.int .i64 (i : Int)) t9 k10 us) W (fun a w => w = W ∧ ∃ us, a = RF S o m (.int .i64 (i : Int)) t9 k10 us) Nev Nev := by
  intro Q hN hX hR
  have hsz := HS.out.sz
  have HN : Hid _ := hN
  have hne : ((i : Int) == (s.length : Int)) = false := by simp; omega
  clear hX hR hN
  unfold RF
  conv => arg 2; whnf
  go_wp2
  exact HN.out _ _ ⟨rfl, RF.mk _ rfl rfl⟩

set_option maxRecDepth 100000 in
set_option maxHeartbeats 4000000 in
theorem g2_end (S : ByteArray) (s : List Int) (o m t9 k10 : Value) (us : Nat → Value) (w W : World) (R : List Tk × Int × Int) (out : List Tk) (ms : List Nat) (HS : Hid (Src S s)) (HL : Hid (s.length ≤ 100000)) (hol : out.length ≤ s.length) (hml : ms.length ≤ s.length)
    (HM : Hid (∀ j, ms.getD j 0 ≤ 1000000)) (HTo : Hid (To W w.heap.size o out)) (HMo : Hid (W.ownsRow w.heap.size 3 1 m ms.length (mcells ms))) (HB : Hid (Below w.heap.size w W)) (E : Hid (R = (out ++ [⟨0, [], 0, s.length, ldoc s s.length ms⟩], 0, 0))) :
    Goes rP2 (RF S o m (.int .i64 (s.length : Int)) t9 k10 us) W Nev Nev (Rtn w R) := by
  intro Q hN hX hR
  have hsz := HS.out.sz
  have HR : Hid _ := hR
  have hnl : ((s.length : Int) == (s.length : Int)) = true := by simp
  obtain ⟨a6, c6, rfl⟩ := own_slice HMo.out
  have hdoc := rdoc_any (w := W) (a := a6) (len := ms.length) (cap := c6) (ms := ms) s s.length (Is.of_owns HMo.out) HS.out.bd (by have := HL.out; omega) (Nat.le_refl _) (by have := HL.out; omega) HM
  rw [← HS.out.eq] at hdoc
  have hdb := ldoc_bd s s.length ms (mem_bd HS.out.bd)
  generalize ldoc s s.length ms = D at hdoc E hdb
  have QD : Hid _ := hdoc
  have hTo' := HTo.out.below ((Below.refl W.heap.size W).alloc (Nat.le_refl _) (.cells #[.int .i64 0, .string { data := #[] }, .int .u64 0, .int .i64 (s.length : Int), .string (strOfNums D)] 81))
  have HTo' : Hid (To _ _ _ _) := hTo'
  have hB1 := HB.out.alloc HB.out.size (.cells #[.int .i64 0, .string { data := #[] }, .int .u64 0, .int .i64 (s.length : Int), .string (strOfNums D)] 81)
  have HB1 : Hid (Below _ _ _) := hB1
  have hn1 : out.length + 1 ≤ 1000000 := by have := HL.out; omega
  have hcl : Hid _ := tok_cells W ⟨0, [], 0, s.length, D⟩ #[.int .i64 0, .string { data := #[] }, .int .u64 0, .int .i64 (s.length : Int), .string (strOfNums D)] rfl
  have hk : Hid (Tk.ok ⟨0, [], 0, s.length, D⟩) := ⟨by simp, hdb⟩
  clear hX hN hR hdoc hTo' hB1 hdb
  unfold RF
  conv => arg 2; whnf
  go_wp2_with fail
  refine Calls.mono QD.out ?_
  rintro e w1 ⟨rfl, rfl⟩
  go_wp2_with (at_builtin; refine wpList_append_tok rfl _ _ rfl w.heap.size _ out ⟨0, [], 0, s.length, D⟩ W.heap.size 1 rfl rfl HTo'.out hk.out hcl.out hn1 HB1.out.size ?_; intro v2 w2 hTo2 hgrow2)
  refine HR.out _ _ ⟨_, rfl, ?_, ?_, rfl, ?_, HB1.out.grown hgrow2 HB1.out.size (fun j hj => (HTo'.out.1.lt j hj).1)⟩
  · rw [E.out]; rfl
  · rw [E.out]; rfl
  · rw [E.out]; exact hTo2

set_option maxRecDepth 100000 in
set_option maxHeartbeats 4000000 in
theorem g3_no (S : ByteArray) (s : List Int) (o m t9 k10 : Value) (i : Nat) (us : Nat → Value) (W : World) (HS : Hid (Src S s)) (hlen : (s.length : Int) ≤ 100000) (hi : i < s.length) (k1 : ¬ (i + 1 < s.length ∧ s.getD i 0 = 47 ∧ s.getD (i + 1) 0 = 47)) :
    Goes rP3 (RF S o m (.int .i64 (i : Int)) t9 k10 us) W (fun a w => w = W ∧ ∃ us, a = RF S o m (.int .i64 (i : Int)) t9 k10 us) Nev Nev := by
  intro Q hN hX hR
  have hsz := HS.out.sz
  have HN : Hid _ := hN
  clear hX hR hN
  by_cases hi1n : i + 1 < s.length
  · have hi1 : (i : Int) + 1 < (s.length : Int) := by omega
    have hs1 := run_cut S i (i + 2) (i : Int) ((i : Int) + 2) rfl (by omega) (by omega) (by omega)
    have htw := HS.out.two i hi1n 47 47 (by omega) (by omega)
    rw [decide_eq_false (fun h => k1 ⟨hi1n, h⟩)] at htw
    change ((S.extract i (i + 2)).toList == [47, 47]) = false at htw
    clear k1
    unfold RF
    conv => arg 2; whnf
    go_wp2
    exact HN.out _ _ ⟨rfl, RF.mk _ rfl rfl⟩
  · have hi1 : ¬ (i : Int) + 1 < (s.length : Int) := by omega
    clear k1
    unfold RF
    conv => arg 2; whnf
    go_wp2
    exact HN.out _ _ ⟨rfl, RF.mk _ rfl rfl⟩

set_option maxRecDepth 100000 in
set_option maxHeartbeats 4000000 in
theorem g3_yes (S : ByteArray) (s : List Int) (o m t9 k10 : Value) (i : Nat) (us : Nat → Value) (W : World) (HS : Hid (Src S s)) (hlen : (s.length : Int) ≤ 100000) (k1 : i + 1 < s.length ∧ s.getD i 0 = 47 ∧ s.getD (i + 1) 0 = 47) :
    Goes rP3 (RF S o m (.int .i64 (i : Int)) t9 k10 us) W Nev (fun a w => w = W ∧ ∃ us, a = RF S o m (.int .i64 ((lrun leol s s.length (s.length - i) i : Nat) : Int)) t9 k10 us) Nev := by
  intro Q hN hX hR
  have hsz := HS.out.sz
  obtain ⟨K, hK⟩ : ∃ K, K = lrun leol s s.length (s.length - i) i := ⟨_, rfl⟩
  rw [← hK] at hX
  have HK : Hid (K = lrun leol s s.length (s.length - i) i) := hK
  have HX : Hid _ := hX
  have hi1 : (i : Int) + 1 < (s.length : Int) := by omega
  have hs1 := run_cut S i (i + 2) (i : Int) ((i : Int) + 2) rfl (by omega) (by omega) (by omega)
  have htw := HS.out.two i k1.1 47 47 (by omega) (by omega)
  rw [decide_eq_true k1.2] at htw
  change ((S.extract i (i + 2)).toList == [47, 47]) = true at htw
  clear hX hR hK hN k1
  unfold RF
  conv => arg 2; whnf
  go_wp2
  go_loopw [7] (fun v wr => ∃ j : Nat, v = .int .i64 (j : Int) ∧ i ≤ j ∧ j ≤ s.length ∧ Hid (K = lrun leol s s.length (s.length - j) j) ∧ W = wr) (fun v _ => s.length - (intOf v).toNat)
  case atStart => exact ⟨i, rfl, by omega, by omega, HK, rfl⟩
  case round =>
    obtain ⟨j, rfl, hij, hjs, HJ, rfl⟩ := hrel
    by_cases hjl : j < s.length
    · have hatj := HS.out.at j hjl
      have HJ' := HJ.out
      obtain ⟨m', hm⟩ : ∃ m, s.length - j = m + 1 := ⟨s.length - j - 1, by omega⟩
      rw [hm, lrun, show m' = s.length - (j + 1) by omega] at HJ'
      by_cases h10 : s.getD j 0 = 10
      · rw [if_neg (fun h => by rw [h10] at h; exact absurd h.2 (by decide))] at HJ'
        rw [h10] at hatj
        subst HJ'
        clear HJ hm
        go_wp2
        exact HX.out _ _ ⟨rfl, RF.mk _ rfl rfl⟩
      · have hp : leol (s.getD j 0) = true := decide_eq_true h10
        rw [if_pos ⟨hjl, hp⟩] at HJ'
        have HJ2 : Hid _ := HJ'
        generalize s.getD j 0 = c2 at hatj h10
        have e10 : (c2 != 10) = true := by simpa using h10
        clear HJ HJ' hm hp
        go_wp2
        go_roundw
        case rel => first | exact ⟨j + 1, by go_num, by omega, by omega, HJ2, by first | rfl | trivial⟩ | ((repeat apply Exists.intro); exact ⟨⟨j + 1, by go_num, by omega, by omega, HJ2, by first | rfl | trivial⟩, rfl⟩)
        case measure => simp [intOf]; omega
    · obtain rfl : j = s.length := by omega
      have e := HJ.out
      rw [Nat.sub_self, lrun] at e
      subst e
      clear HJ
      go_wp2
      exact HX.out _ _ ⟨rfl, RF.mk _ rfl rfl⟩

theorem RF.mk2 {S : ByteArray} {o m iv t9 k10 : Value} {a' : Act} {P : Prop} (us : Nat → Value) (_hu : us = fun k => a'.tmps.getD k undef) (h : a' = RF S o m iv t9 k10 us) (hP : P) : ∃ us, a' = RF S o m iv t9 k10 us ∧ P := ⟨us, h, hP⟩

set_option maxRecDepth 100000 in
set_option maxHeartbeats 4000000 in
theorem g4_no (S : ByteArray) (s : List Int) (o m t9 k10 : Value) (i : Nat) (us : Nat → Value) (W : World) (HS : Hid (Src S s)) (hlen : (s.length : Int) ≤ 100000) (hi : i < s.length) (k1 : ¬ (i + 1 < s.length ∧ s.getD i 0 = 47 ∧ s.getD (i + 1) 0 = 42)) :
    Goes rP4 (RF S o m (.int .i64 (i : Int)) t9 k10 us) W (fun a w => w = W ∧ ∃ us, a = RF S o m (.int .i64 (i : Int)) t9 k10 us) Nev Nev := by
  intro Q hN hX hR
  have hsz := HS.out.sz
  have HN : Hid _ := hN
  clear hX hR hN
  by_cases hi1n : i + 1 < s.length
  · have hi1 : (i : Int) + 1 < (s.length : Int) := by omega
    have hs1 := run_cut S i (i + 2) (i : Int) ((i : Int) + 2) rfl (by omega) (by omega) (by omega)
    have htw := HS.out.two i hi1n 47 42 (by omega) (by omega)
    rw [decide_eq_false (fun h => k1 ⟨hi1n, h⟩)] at htw
    change ((S.extract i (i + 2)).toList == [47, 42]) = false at htw
    clear k1
    unfold RF
    conv => arg 2; whnf
    go_wp2
    exact HN.out _ _ ⟨rfl, RF.mk _ rfl rfl⟩
  · have hi1 : ¬ (i : Int) + 1 < (s.length : Int) := by omega
    clear k1
    unfold RF
    conv => arg 2; whnf
    go_wp2
    exact HN.out _ _ ⟨rfl, RF.mk _ rfl rfl⟩

set_option maxRecDepth 100000 in
set_option maxHeartbeats 4000000 in
theorem g4_yes (S : ByteArray) (s : List Int) (o m t9 k10 : Value) (i : Nat) (us : Nat → Value) (w W : World) (out : List Tk) (ms : List Nat) (HS : Hid (Src S s)) (hlen : (s.length : Int) ≤ 100000) (k2 : i + 1 < s.length ∧ s.getD i 0 = 47 ∧ s.getD (i + 1) 0 = 42)
    (hml : ms.length ≤ s.length) (HTo : Hid (To W w.heap.size o out)) (HMo : Hid (W.ownsRow w.heap.size 3 1 m ms.length (mcells ms))) (HB : Hid (Below w.heap.size w W)) :
    Goes rP4 (RF S o m (.int .i64 (i : Int)) t9 k10 us) W Nev
      (fun a w' => lcl s (s.length - (i + 2)) (i + 2) + 1 < s.length ∧ (∃ m2 us, a = RF S o m2 (.int .i64 ((lcl s (s.length - (i + 2)) (i + 2) + 2 : Nat) : Int)) t9 k10 us ∧ w'.ownsRow w.heap.size 3 1 m2 (ms ++ [i, lcl s (s.length - (i + 2)) (i + 2) + 1]).length (mcells (ms ++ [i, lcl s (s.length - (i + 2)) (i + 2) + 1]))) ∧ To w' w.heap.size o out ∧ Below w.heap.size w w')
      (fun a w' => ¬ (lcl s (s.length - (i + 2)) (i + 2) + 1 < s.length) ∧ Rtn w ([], (i : Int), 51) a w') := by
  intro Q hN hX hR
  have hsz := HS.out.sz
  obtain ⟨K, hK⟩ : ∃ K, K = lcl s (s.length - (i + 2)) (i + 2) := ⟨_, rfl⟩
  rw [← hK] at hX hR
  have HK : Hid (K = lcl s (s.length - (i + 2)) (i + 2)) := hK
  have HX : Hid _ := hX
  have HR : Hid _ := hR
  have hi1 : (i : Int) + 1 < (s.length : Int) := by omega
  have hs1 := run_cut S i (i + 2) (i : Int) ((i : Int) + 2) rfl (by omega) (by omega) (by omega)
  have htw2 := HS.out.two i k2.1 47 42 (by omega) (by omega)
  rw [decide_eq_true k2.2] at htw2
  change ((S.extract i (i + 2)).toList == [47, 42]) = true at htw2
  have hkl := k2.1
  clear hX hR hK hN k2
  unfold RF
  conv => arg 2; whnf
  go_wp2
  go_loopw [8] (fun v wr => ∃ j : Nat, v = .int .i64 (j : Int) ∧ i + 2 ≤ j ∧ j ≤ s.length ∧ Hid (K = lcl s (s.length - j) j) ∧ W = wr) (fun v _ => s.length - (intOf v).toNat)
  case atStart => exact ⟨i + 2, by go_num, by omega, by omega, HK, rfl⟩
  case round =>
    obtain ⟨j, rfl, hij, hjs, HJ, rfl⟩ := hrel
    by_cases hjl : j + 1 < s.length
    · have hs2 := run_cut S j (j + 2) (j : Int) ((j : Int) + 2) rfl (by omega) (by omega) (by omega)
      have htw3 := HS.out.two j hjl 42 47 (by omega) (by omega)
      have hjl' : (j : Int) + 1 < (s.length : Int) := by omega
      have HJ' := HJ.out
      obtain ⟨m', hm⟩ : ∃ m, s.length - j = m + 1 := ⟨s.length - j - 1, by omega⟩
      rw [hm, lcl, show m' = s.length - (j + 1) by omega] at HJ'
      by_cases h10 : s.getD j 0 = 42 ∧ s.getD (j + 1) 0 = 47
      · rw [if_neg (fun h => h.2 h10)] at HJ'
        rw [decide_eq_true h10] at htw3
        change ((S.extract j (j + 2)).toList == [42, 47]) = true at htw3
        subst HJ'
        have hge : ¬ (s.length : Int) ≤ (K : Int) + 1 := by omega
        clear HJ hm
        have HMo' := own_allc HMo.out (.cells #[.int .i64 (i : Int), .int .i64 ((K : Int) + 1)] 3)
        have hB1 := HB.out.alloc HB.out.size (.cells #[.int .i64 (i : Int), .int .i64 ((K : Int) + 1)] 3)
        have hc0 : (W.alloc (.cells #[.int .i64 (i : Int), .int .i64 ((K : Int) + 1)] 3)).cell? ⟨W.heap.size, 0, none⟩ = some (.int .i64 (i : Int)) := by rw [World.cell?_alloc_new]; rfl
        have hc1 : (W.alloc (.cells #[.int .i64 (i : Int), .int .i64 ((K : Int) + 1)] 3)).cell? ⟨W.heap.size, 1, none⟩ = some (.int .i64 ((K + 1 : Nat) : Int)) := by rw [World.cell?_alloc_new]; rfl
        have HC0 : Hid _ := hc0
        have HC1 : Hid _ := hc1
        have HMoA : Hid (World.ownsRow _ _ _ _ _ _ _) := HMo'
        have HB1 : Hid (Below _ _ _) := hB1
        have hn2 : ms.length + 2 ≤ 1000000 := by omega
        have hTo' := HTo.out.below ((Below.refl W.heap.size W).alloc (Nat.le_refl _) (.cells #[.int .i64 (i : Int), .int .i64 ((K : Int) + 1)] 3))
        have HToA : Hid (To _ _ _ _) := hTo'
        clear hc0 hc1 HMo' hB1 hTo'
        go_wp2_with (at_builtin; refine wpList_append_marks rfl _ _ rfl w.heap.size _ ms i (K + 1) W.heap.size 2 rfl rfl HMoA.out HC0.out HC1.out hn2 HB1.out.size ?_; intro v2 w2 hMo2 hgrow2)
        rw [show ((K : Int) + 2) = ((K + 2 : Nat) : Int) by omega]
        exact HX.out _ _ ⟨hjl, ⟨v2, RF.mk2 _ rfl rfl hMo2⟩, ⟨own_other HToA.out.1 HMoA.out (by decide) hgrow2, HTo.out.2⟩, HB1.out.grown hgrow2 HB1.out.size (fun j hj => (HMoA.out.lt j hj).1)⟩
      · rw [if_pos ⟨hjl, h10⟩] at HJ'
        rw [decide_eq_false h10] at htw3
        change ((S.extract j (j + 2)).toList == [42, 47]) = false at htw3
        have HJ2 : Hid _ := HJ'
        clear HJ HJ' hm
        go_wp2
        go_roundw
        case rel => first | exact ⟨j + 1, by go_num, by omega, by omega, HJ2, by first | rfl | trivial⟩ | ((repeat apply Exists.intro); exact ⟨⟨j + 1, by go_num, by omega, by omega, HJ2, by first | rfl | trivial⟩, rfl⟩)
        case measure => simp [intOf]; omega
    · have hjl' : ¬ (j : Int) + 1 < (s.length : Int) := by omega
      have hge : (s.length : Int) ≤ (j : Int) + 1 := by omega
      have e : lcl s (s.length - j) j = j := by
        cases hm : s.length - j with
        | zero => rfl
        | succ m => rw [lcl, if_neg (fun h => hjl h.1)]
      have HJ' := HJ.out
      rw [e] at HJ'
      subst HJ'
      clear HJ e
      go_wp2
      refine HR.out _ _ ⟨hjl, _, rfl, rfl, rfl, rfl, To.nil _ _, HB.out⟩

theorem ltok_ok (s : List Int) (i : Nat) (d : List Int) (t : Tk) (k : Nat) (hi : i < s.length) (hz : ∀ c ∈ s, 0 ≤ c ∧ c ≤ 255) (h : ltok s i d = .inl (t, k)) : t.kind ≠ 0 ∧ t.pos = i ∧ i < k ∧ k ≤ s.length ∧ (∀ p, i ≤ p → p < k → s.getD p 0 ≠ 10) ∧ ∀ c ∈ t.text, 0 ≤ c ∧ c ≤ 255 := by
  unfold ltok at h
  have hpc : ∀ a b, ∀ c ∈ lpc s a b, 0 ≤ c ∧ c ≤ 255 := fun a b c hc => hz c (List.mem_of_mem_take (List.mem_of_mem_drop hc))
  by_cases k1 : lletter (s.getD i 0) = true
  · rw [if_pos k1] at h
    simp only at h
    have hge := lrun_ge lletter s s.length (s.length - (i + 1)) (i + 1)
    have hle := lrun_le lletter s s.length (s.length - (i + 1)) (i + 1) (by omega)
    have hno : ∀ p, i ≤ p → p < lrun lletter s s.length (s.length - (i + 1)) (i + 1) → s.getD p 0 ≠ 10 := by
      intro p h1 h2 h10
      have : lletter (s.getD p 0) = true := by
        by_cases e : p = i
        · rw [e]; exact k1
        · exact (lrun_holds lletter s s.length _ _ p (by omega) h2).1
      rw [h10] at this
      exact absurd this (by decide)
    by_cases k2 : lnumb (s.getD i 0) = true
    · rw [if_pos k2] at h
      split at h
      · simp only [Sum.inl.injEq, Prod.mk.injEq] at h
        obtain ⟨rfl, rfl⟩ := h
        exact ⟨(by decide : (2 : Int) ≠ 0), rfl, by omega, hle, hno, by simp⟩
      · simp at h
    · rw [if_neg k2] at h
      simp only [Sum.inl.injEq, Prod.mk.injEq] at h
      obtain ⟨rfl, rfl⟩ := h
      exact ⟨(by decide : (1 : Int) ≠ 0), rfl, by omega, hle, hno, hpc _ _⟩
  · rw [if_neg k1] at h
    by_cases k2 : s.getD i 0 = 34 ∨ s.getD i 0 = 39
    · rw [if_pos k2] at h
      by_cases k3 : (qtake (s.drop i)).2.2 = 0
      · rw [if_pos k3] at h
        simp only [Sum.inl.injEq, Prod.mk.injEq] at h
        obtain ⟨rfl, rfl⟩ := h
        obtain ⟨n, h1, h2, h3, h4⟩ := qtake_no10 (s.drop i) k3
        rw [List.length_drop] at h2
        rw [h1, Int.toNat_natCast]
        refine ⟨(by decide : (3 : Int) ≠ 0), rfl, by omega, by omega, fun p g1 g2 => ?_, qtake_bd _ (fun c hc => hz c (List.mem_of_mem_drop hc))⟩
        have := h4 (p - i) (by omega)
        rw [getD_drop', show i + (p - i) = p by omega] at this
        exact this
      · rw [if_neg k3] at h; simp at h
    · rw [if_neg k2] at h
      by_cases k3 : lsign (s.getD i 0) = true
      · rw [if_pos k3] at h
        simp only [Sum.inl.injEq, Prod.mk.injEq] at h
        obtain ⟨rfl, rfl⟩ := h
        refine ⟨(by decide : (4 : Int) ≠ 0), rfl, by omega, by omega, fun p g1 g2 h10 => ?_, hpc _ _⟩
        rw [show p = i by omega] at h10
        rw [h10] at k3
        exact absurd k3 (by decide)
      · rw [if_neg k3] at h; simp at h

theorem tok_facts {w : World} {g : Nat} {v0 v1 v2 v3 v4 : Value} {e : TypeId} (h : w.heap[g]? = some (.cells #[v0, v1, v2, v3, v4] e (0, 0))) :
    w.cell? ⟨g, 0, none⟩ = some v0 ∧ w.cell? ⟨g, 1, none⟩ = some v1 ∧ w.cell? ⟨g, 2, none⟩ = some v2 ∧ w.cell? ⟨g, 3, none⟩ = some v3 ∧ w.cell? ⟨g, 4, none⟩ = some v4 ∧ w.frozen? ⟨g, 4, none⟩ = false := by
  refine ⟨?_, ?_, ?_, ?_, ?_, ?_⟩ <;> simp [World.cell?, World.frozen?, h]

theorem set_heap2 {w : World} {g : Nat} {c : Array Value} {e : TypeId} (h : w.heap[g]? = some (.cells c e (0, 0))) (j : Nat) (u : Value) : (w.setCell ⟨g, j, none⟩ u).heap[g]? = some (.cells (c.setIfInBounds j u) e (0, 0)) := by
  simp only [World.setCell, Array.getElem?_modify]
  rw [if_pos trivial, h]
  rfl

end Go.Proofs.YtlekfcehmlepkaaGreatDoor
