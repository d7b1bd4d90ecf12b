/- Tokens in memory: what a slice of tokens holds; one token more; which lists of tokens are alike (the reference's SameTokens). -/
import Derived.Test.YtjkcmcefmciinaaDoorLEq
import Derived.Deep.QuietTactic
import Derived.BigQuiet
namespace Go.Proofs.YtjkcmcefmciinaaDoor
open Go.RowKit
set_option linter.unusedVariables false
set_option linter.unusedSimpArgs false

def Tk.cells (t : Tk) : List Value := [.int .i64 t.kind, .string (strOfNums t.text), .int .u64 t.n, .int .i64 (t.pos : Int), .string (strOfNums t.doc)]

/-- Its texts are bytes. -/
def Tk.ok (t : Tk) : Prop := (∀ c ∈ t.text, 0 ≤ c ∧ c ≤ 255) ∧ (∀ c ∈ t.doc, 0 ≤ c ∧ c ≤ 255)

/-- The slice at a, of len tokens, holds ts in the world w. -/
def Ts (w : World) (a : Option Addr) (len cap : Nat) (ts : List Tk) : Prop :=
  ts.length = len ∧ len ≤ cap ∧ (a = none → cap = 0) ∧ (∀ t ∈ ts, t.ok) ∧
    (0 < len → ∃ b off, a = some ⟨b, off, none⟩ ∧ b < w.heap.size ∧ ∀ i t, ts[i]? = some t →
      w.cell? ⟨b, off + i * 5, none⟩ = some (.int .i64 t.kind) ∧ w.cell? ⟨b, off + i * 5 + 1, none⟩ = some (.string (strOfNums t.text)) ∧ w.cell? ⟨b, off + i * 5 + 2, none⟩ = some (.int .u64 t.n) ∧ w.cell? ⟨b, off + i * 5 + 3, none⟩ = some (.int .i64 (t.pos : Int)) ∧ w.cell? ⟨b, off + i * 5 + 4, none⟩ = some (.string (strOfNums t.doc)))

theorem Ts.below {w w' : World} {a : Option Addr} {len cap : Nat} {ts : List Tk} (h : Ts w a len cap ts) {B : Nat} (hb : Below B w w') (hB : w.heap.size ≤ B) : Ts w' a len cap ts := by
  obtain ⟨h1, h2, h3, h4, h5⟩ := h
  refine ⟨h1, h2, h3, h4, fun hp => ?_⟩
  obtain ⟨b, off, rfl, hlt, hc⟩ := h5 hp
  refine ⟨b, off, rfl, Nat.lt_of_lt_of_le hlt hb.size, fun i t hi => ?_⟩
  obtain ⟨c0, c1, c2, c3, c4⟩ := hc i t hi
  have hbB : b < B := by omega
  exact ⟨(hb.cell (p := ⟨b, off + i * 5, none⟩) hbB).trans c0, (hb.cell (p := ⟨b, off + i * 5 + 1, none⟩) hbB).trans c1, (hb.cell (p := ⟨b, off + i * 5 + 2, none⟩) hbB).trans c2, (hb.cell (p := ⟨b, off + i * 5 + 3, none⟩) hbB).trans c3, (hb.cell (p := ⟨b, off + i * 5 + 4, none⟩) hbB).trans c4⟩

theorem flat5 : ∀ (ts : List Tk) (i : Nat) (t : Tk), ts[i]? = some t → ∀ j, j < 5 → (ts.flatMap Tk.cells)[i * 5 + j]? = t.cells[j]?
  | [], i, t, h, _, _ => by simp at h
  | q :: ts, 0, t, h, j, hj => by
    simp at h
    subst h
    simp only [List.flatMap_cons]
    rw [List.getElem?_append_left (by simp [Tk.cells]; omega)]
    simp
  | q :: ts, i + 1, t, h, j, hj => by
    simp only [List.getElem?_cons_succ] at h
    simp only [List.flatMap_cons]
    rw [List.getElem?_append_right (by simp [Tk.cells]; omega), show (i + 1) * 5 + j - q.cells.length = i * 5 + j by simp [Tk.cells]; omega]
    exact flat5 ts i t h j hj

/-- The call's own list of tokens. -/
def To (w : World) (base : Nat) (v : Value) (ts : List Tk) : Prop := w.ownsRow base 40 5 v ts.length (ts.flatMap Tk.cells) ∧ ∀ t ∈ ts, t.ok

theorem To.nil (w : World) (base : Nat) : To w base (.slice none 0 0) [] := ⟨World.ownsRow_nil _ _ _ _, by simp⟩

theorem To.below {w w' : World} {base : Nat} {v : Value} {ts : List Tk} (h : To w base v ts) (hb : Below w.heap.size w w') : To w' base v ts := ⟨own_below h.1 hb, h.2⟩

theorem To.base {w : World} {base base' : Nat} {v : Value} {ts : List Tk} (h : To w base v ts) (hb : base' ≤ base) : To w base' v ts := ⟨own_base h.1 hb, h.2⟩

theorem To.slice {w : World} {base : Nat} {v : Value} {ts : List Tk} (h : To w base v ts) : ∃ a c, v = .slice a ts.length c := own_slice h.1

theorem Ts.of_own {w : World} {base : Nat} {a : Option Addr} {len cap : Nat} {ts : List Tk} (h : To w base (.slice a len cap) ts) : Ts w a len cap ts := by
  obtain ⟨ho, hr⟩ := h
  rcases ho.2 with ⟨he, hn⟩ | ⟨g, c, cur, he, hg, hh, h1, h2, h3, h4⟩
  · simp at he
    obtain ⟨rfl, rfl, rfl⟩ := he
    exact ⟨hn, Nat.le_refl _, fun _ => rfl, hr, fun h => absurd h (by omega)⟩
  · simp at he
    obtain ⟨rfl, rfl, rfl⟩ := he
    refine ⟨rfl, h1, fun h => by simp at h, hr, fun _ => ⟨g, 0, rfl, (ho.lt g rfl).2, fun i t hi => ?_⟩⟩
    have hil : i < ts.length := (List.getElem?_eq_some_iff.1 hi).1
    have c := fun j (hj : j < 5) => (ho.cellAt (i * 5 + j) (by omega)).trans (flat5 ts i t hi j hj)
    have c0 := c 0 (by omega)
    have c1 := c 1 (by omega)
    have c2 := c 2 (by omega)
    have c3 := c 3 (by omega)
    have c4 := c 4 (by omega)
    simp [Tk.cells] at c0 c1 c2 c3 c4
    simp only [Nat.zero_add]
    exact ⟨c0, c1, c2, c3, c4⟩

theorem Tryd.infoTok : (Tryd.prog.info? 40).map (fun i => (i.zero, i.size, i.bytes)) = some (some (.agg #[.int .i64 0, .string { data := #[] }, .int .u64 0, .int .i64 0, .string { data := #[] }]), 5, 56) := by kernel_rfl

theorem wp_append_tok {w : World} {o : Oper} {f : Act} {K : Act → World → Prop} {Q : Exit → Act → World → Prop} (s x : Operand)
    (ho : o.op = .call { callee := .builtin .append, args := #[s, x], argTypes := #[23, 23] }) (base : Nat) (v : Value) (ts : List Tk) (t : Tk) (b cap : Nat)
    (hs : f.eval s = v) (hx : f.eval x = .slice (some ⟨b, 0, none⟩) 1 cap) (hown : To w base v ts) (hok : t.ok)
    (hc : ∀ j u, t.cells[j]? = some u → w.cell? ⟨b, j, none⟩ = some u) (hn : ts.length + 1 ≤ 1000000) (hbase : base ≤ w.heap.size)
    (h : ∀ v' w', To w' base v' (ts ++ [t]) → w.grownBy w' v.ownBlock → K (f.put o.dst v') w') : o.wp Tryd.prog f w K Q := by
  obtain ⟨i0, hi, hz0, hz1, hz2⟩ := info_parts Tryd.infoTok
  obtain ⟨v', w', hrun, h1, h2, _⟩ := run_append_own (P := Tryd.prog) w base 23 o.type 40 i0 _ 5 56 Tryd.underlying23 hi hz0 hz1 hz2 rfl (by decide) v ts.length _ hown.1 ⟨b, 0, none⟩ 1 cap t.cells rfl
    (fun j u hj => by
      have hp : (⟨b, 0, none⟩ : Addr).add j = ⟨b, j, none⟩ := by unfold Addr.add; split <;> simp_all
      rw [hp]; exact hc j u hj)
    (fun u hu => by simp [Tk.cells] at hu; rcases hu with rfl | rfl | rfl | rfl | rfl <;> rfl) (by unfold maxLen; omega) (by omega) hbase
  unfold Oper.wp
  simp [execOp, ho, resolve, invoke, builtin, hs, hx, hrun, Result.andThen]
  refine h v' w' ⟨by simpa using h1, fun u hu => ?_⟩ h2
  rcases List.mem_append.1 hu with hu | hu
  · exact hown.2 u hu
  · simp at hu; subst hu; exact hok

theorem wpList_append_tok {w : World} {ops : Array Oper} {rest : List Oper} {o : Oper} {f : Act} {Q : Exit → Act → World → Prop} (hgd : o.guard = none) (s x : Operand)
    (ho : o.op = .call { callee := .builtin .append, args := #[s, x], argTypes := #[23, 23] }) (base : Nat) (v : Value) (ts : List Tk) (t : Tk) (b cap : Nat)
    (hs : f.eval s = v) (hx : f.eval x = .slice (some ⟨b, 0, none⟩) 1 cap) (hown : To w base v ts) (hok : t.ok)
    (hc : ∀ j u, t.cells[j]? = some u → w.cell? ⟨b, j, none⟩ = some u) (hn : ts.length + 1 ≤ 1000000) (hbase : base ≤ w.heap.size)
    (h : ∀ v' w', To w' base v' (ts ++ [t]) → w.grownBy w' v.ownBlock → wpList Tryd.prog ops Q rest (f.put o.dst v') w') : wpList Tryd.prog ops Q (o :: rest) f w := by
  refine wpList_plain hgd fun K hK => ?_
  exact wp_append_tok s x ho base v ts t b cap hs hx hown hok hc hn hbase (fun v' w' h1 h2 => hK _ _ (h v' w' h1 h2))

theorem tk_neq (t u : Tk) (ht : t.ok) (hu : u.ok) (W : World) :
    (binOp .neq 40 (.agg #[.int .i64 t.kind, .string (strOfNums t.text), .int .u64 t.n, .int .i64 (t.pos : Int), .string (strOfNums t.doc)]) (.agg #[.int .i64 u.kind, .string (strOfNums u.text), .int .u64 u.n, .int .i64 (u.pos : Int), .string (strOfNums u.doc)])).run Tryd.prog W =
      .ok (.bool (!decide (t = u))) W := by
  rw [tok_neq, str_eq ht.1 hu.1, str_eq ht.2 hu.2]
  congr 3
  rw [Bool.eq_iff_iff]
  simp only [Bool.and_eq_true, beq_iff_eq, decide_eq_true_eq]
  constructor
  · rintro ⟨⟨⟨⟨h1, h2⟩, h3⟩, h4⟩, h5⟩
    cases t; cases u
    simp only at h1 h2 h3 h4 h5
    subst h1 h2 h3 h5
    have : (‹Nat› : Nat) = ‹Nat› := rfl
    simp only [Tk.mk.injEq, true_and, and_true]
    omega
  · rintro rfl
    simp

set_option maxHeartbeats 1000000 in
theorem rsame_any {w : World} {a1 a2 : Option Addr} {l1 c1 l2 c2 : Nat} {ts us : List Tk} (h1 : Hid (Ts w a1 l1 c1 ts)) (h2 : Hid (Ts w a2 l2 c2 us)) (hl1 : l1 ≤ 1000000) (hl2 : l2 ≤ 1000000) :
    Calls Tryd.prog 12 #[.slice a1 l1 c1, .slice a2 l2 c2] w fun e w' => e = .returned (.bool (decide (ts = us))) ∧ Below w.heap.size w w' := by
  have HL1 : Hid (ts.length = l1) := h1.out.1
  have HL2 : Hid (us.length = l2) := h2.out.1
  by_cases hl : l1 = l2
  · subst hl
    have hne : ((l1 : Int) != (l1 : Int)) = false := by simp
    go_enter Tryd.func12, Tryd.ntmps12
    go_wp2
    go_loopw [13] (fun v wr => ∃ k : Nat, v = .int .i64 (k : Int) ∧ k ≤ l1 ∧ Hid (∀ i, i < k → ts[i]? = us[i]?) ∧ Below w.heap.size w wr) (fun v _ => l1 - (intOf v).toNat)
    case atStart => exact ⟨0, rfl, by omega, fun i hi => absurd hi (by omega), Below.refl _ _⟩
    case round =>
      obtain ⟨k, rfl, hk, HE, hb⟩ := hrel
      by_cases hkl : k < l1
      · obtain ⟨b1, o1, rfl, hlt1, hc1⟩ := h1.out.2.2.2.2 (by omega)
        obtain ⟨b2, o2, rfl, hlt2, hc2⟩ := h2.out.2.2.2.2 (by omega)
        obtain ⟨t, ht⟩ : ∃ t, ts[k]? = some t := ⟨ts[k]'(by rw [HL1.out]; exact hkl), List.getElem?_eq_getElem (by rw [HL1.out]; exact hkl)⟩
        obtain ⟨u, hu⟩ : ∃ u, us[k]? = some u := ⟨us[k]'(by rw [HL2.out]; exact hkl), List.getElem?_eq_getElem (by rw [HL2.out]; exact hkl)⟩
        obtain ⟨x0, x1, x2, x3, x4⟩ := hc1 k t ht
        obtain ⟨y0, y1, y2, y3, y4⟩ := hc2 k u hu
        replace x0 := (hb.cell hlt1).trans x0
        replace x1 := (hb.cell hlt1).trans x1
        replace x2 := (hb.cell hlt1).trans x2
        replace x3 := (hb.cell hlt1).trans x3
        replace x4 := (hb.cell hlt1).trans x4
        replace y0 := (hb.cell hlt2).trans y0
        replace y1 := (hb.cell hlt2).trans y1
        replace y2 := (hb.cell hlt2).trans y2
        replace y3 := (hb.cell hlt2).trans y3
        replace y4 := (hb.cell hlt2).trans y4
        clear hc1 hc2
        have hok1 : t.ok := h1.out.2.2.2.1 t (List.mem_of_getElem? ht)
        have hok2 : u.ok := h2.out.2.2.2.1 u (List.mem_of_getElem? hu)
        have hq := fun W => tk_neq t u hok1 hok2 W
        have hg := tok_guard
        by_cases htu : t = u
        · rw [decide_eq_true htu] at hq
          have HE' : Hid (∀ i, i < k + 1 → ts[i]? = us[i]?) := by
            intro i hi
            by_cases hik : i = k
            · rw [hik, ht, hu, htu]
            · exact HE.out i (by omega)
          clear ht hu htu HE
          go_wp2
          go_quiet (fail)
          rename_i K _ hK
          refine hK _ _ ?_
          go_wp2
          go_roundw
          case rel => first | exact ⟨k + 1, by go_num, by omega, HE', hb.trans ((below_drewN (Below.refl _ _) _).mono hb.size)⟩ | ((repeat apply Exists.intro); exact ⟨⟨k + 1, by go_num, by omega, HE', hb.trans ((below_drewN (Below.refl _ _) _).mono hb.size)⟩, rfl⟩)
          case measure => simp [intOf]; omega
        · rw [decide_eq_false htu] at hq
          have E : Hid (decide (ts = us) = false) := decide_eq_false (fun h => htu (by rw [h] at ht; rw [ht] at hu; exact Option.some.inj hu))
          clear ht hu htu HE
          go_wp2
          go_quiet (fail)
          rename_i K _ hK
          refine hK _ _ ?_
          go_wp2
          go_ret
          exact ⟨by rw [E.out]; rfl, hb.trans ((below_drewN (Below.refl _ _) _).mono hb.size)⟩
      · obtain rfl : k = l1 := by omega
        have E : Hid (decide (ts = us) = true) := decide_eq_true (List.ext_getElem? fun i => by
          by_cases hi : i < k
          · exact HE.out i hi
          · rw [List.getElem?_eq_none (by rw [HL1.out]; omega), List.getElem?_eq_none (by rw [HL2.out]; omega)])
        clear HE
        go_wp2
        go_ret
        exact ⟨by rw [E.out]; rfl, hb⟩
  · have hne : ((l1 : Int) != (l2 : Int)) = true := by simp; omega
    have E : Hid (decide (ts = us) = false) := decide_eq_false (fun h => hl (by rw [← HL1.out, ← HL2.out, h]))
    go_enter Tryd.func12, Tryd.ntmps12
    go_wp2
    go_ret
    exact ⟨by rw [E.out]; rfl, Below.refl _ _⟩

end Go.Proofs.YtjkcmcefmciinaaDoor
