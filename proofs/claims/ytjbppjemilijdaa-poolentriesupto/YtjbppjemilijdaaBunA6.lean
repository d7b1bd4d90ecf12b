/- Put together by a program out of these texts of mine: WRd, WEnt, DEnt, VCop. -/
import Derived.Deep.DeepCutAuto
import Derived.Test.YtjbppjemilijdaaBunA1
import Derived.Test.YtjbppjemilijdaaBunA4
import Derived.Test.YtjbppjemilijdaaBunA5

/- The program's own wire.Read. -/
namespace Go.Proofs.Ytjbppjemilijdaa
open Go.RowKit Go.Shelf
set_option linter.unusedVariables false
set_option linter.unusedSimpArgs false

attribute [local go_sem] Oper.semAt_some

theorem pfields_any (a : Option Addr) (len cap : Nat) (w : World) :
    Calls Try.prog 20 #[.slice a len cap] w fun e w' => e = .returned (.func (.func 29) #[] #[.pointer (some ⟨w.heap.size, 0, none⟩)]) ∧ w' = w.alloc (.cells #[.slice a len cap] 28) := by
  go_enter Try.func20, Try.ntmps20
  go_wp2
  go_ret
  exact ⟨rfl, rfl⟩

theorem pfl_stops (Bn n0 : Nat) (a : Option Addr) (len cap : Nat) (zs : List Int) (HL : Hid (len ≤ 2000000)) (w : World) (hn0 : n0 ≤ w.heap.size) (hBl : Bn < w.heap.size) (hBn : w.cell? ⟨Bn, 0, none⟩ = some (.slice a len cap)) (hbs : Bs w a len cap zs) (hbl : ∀ x, 0 < len → a = some x → x.block < n0) :
    SeqStopsK Fence.wide 3 Try.prog 29 #[.pointer (some ⟨Bn, 0, none⟩)] Tx.vals (Kq n0 Bn) (fun ys => ys.map Tx.core = sq len zs 0) (fun pre => pre.map Tx.core <+: sq len zs 0) len w := fun l J Jx W hW hJ _ hY h0 =>
  pfl1_in l Bn n0 a len cap zs J Jx HL W hJ (Nat.le_trans hn0 hW.size) (Nat.lt_of_lt_of_le hBl hW.size) hY ((hW.cell (p := ⟨Bn, 0, none⟩) hBl).trans hBn) (hbs.below hW (Nat.le_refl _)) hbl h0

def Tx.cells (x : Tx) : List Value := [.int .i64 x.num, .int .i64 x.kind, .int .u64 x.n, .slice x.a x.l x.c]

/-- What Read holds between two rounds. -/
def RdI (w : World) (sv : Value) (pre : List Tx) (W : World) : Prop :=
  (∃ v, Boxed W (w.heap.size + 1 + 1 + 1) 47 v ∧ W.ownsRow w.heap.size 52 4 v pre.length (pre.flatMap Tx.cells) ∧ ∀ x ∈ pre, x.err = 0) ∧ Boxed W w.heap.size 47 (.slice none 0 0) ∧ Boxed W (w.heap.size + 1) 3 (.int .i64 0) ∧ Boxed W (w.heap.size + 1 + 1) 40 (.int .i64 0) ∧ Boxed W (w.heap.size + 1 + 1 + 1 + 1) 28 sv

def RdX (w : World) (c : Code) (pre : List Tx) (W : World) : Prop :=
  c = .ret ∧ ∃ q x, pre = q ++ [x] ∧ (∀ y ∈ q, Tx.err y = 0) ∧ ¬ Tx.err x = 0 ∧ Boxed W w.heap.size 47 (.slice none 0 0) ∧ Boxed W (w.heap.size + 1) 3 (.int .i64 x.at') ∧ Boxed W (w.heap.size + 1 + 1) 40 (.int .i64 x.err)

def RdEnd (w : World) (len : Nat) (zs : List Int) (v : Value) (er : Int) (W' : World) : Prop :=
  (er = 0 ∧ ∃ xs : List Tx, (∀ x ∈ xs, x.err = 0) ∧ xs.map Tx.core = sq len zs 0 ∧ W'.ownsRow w.heap.size 52 4 v xs.length (xs.flatMap Tx.cells)) ∨
  (¬ er = 0 ∧ v = .slice none 0 0 ∧ ∃ q x, (q ++ [x]).map Tx.core <+: sq len zs 0 ∧ (∀ y ∈ q, Tx.err y = 0) ∧ Tx.err x = er)

theorem sq_len : ∀ (f : Nat) (zs : List Int) (p : Int), (sq f zs p).length ≤ f
  | 0, _, _ => Nat.le_refl _
  | _ + 1, [], _ => Nat.zero_le _
  | f + 1, c :: r, p => by
    rw [sq]
    split
    · have := sq_len f ((c :: r).drop (wtake (c :: r)).used.toNat) (p + (wtake (c :: r)).used)
      simp only [List.length_cons]
      omega
    · simp

theorem kq_t {n0 B : Nat} {A C D : World} (h : Kq n0 B A C) (k : Kq n0 B C D) : Kq n0 B A D := h.trans k

theorem kq_b {n0 B : Nat} {w : World} (hn : n0 ≤ w.heap.size) (hB : B < w.heap.size) (W : World) (l : Nat) (o o' : Obj) (hl : w.heap.size ≤ l) (ho : W.heap[l]? = some o) (hc : o.isCells = false) (hw : o.isWalk = false) : Kq n0 B W (W.putObj l o') :=
  ⟨belowK_b (w := w) hn W l o o' hl ho hc hw, World.putObj_heap_other (by omega)⟩

theorem rdI_own (w : World) (sv : Value) (B : Nat) : OwnFrom B (RdI w sv) :=
  OwnFrom.and (Own.from (holdsRow_own w.heap.size (w.heap.size + 1 + 1 + 1) 47 52 4 (fun pre : List Tx => pre.length) (fun pre => pre.flatMap Tx.cells) (fun pre _ => ∀ x ∈ pre, Tx.err x = 0)) _)
    (OwnFrom.and (Own.from (boxed_own _ _ _) _) (OwnFrom.and (Own.from (boxed_own _ _ _) _) (OwnFrom.and (Own.from (boxed_own _ _ _) _) (Own.from (boxed_own _ _ _) _))))

theorem rdX_own (w : World) (B : Nat) (c : Code) : OwnFrom B (RdX w c) := by
  rintro s X Y row ⟨h1, q, x, h2, h3, h4, b0, b1, b2⟩ hg hr
  exact ⟨h1, q, x, h2, h3, h4, boxed_own _ _ (fun _ : Unit => Value.slice none 0 0) () X Y row b0 hg (fun r e => (hr r e).2), boxed_own _ _ (fun _ : Unit => Value.int .i64 x.at') () X Y row b1 hg (fun r e => (hr r e).2), boxed_own _ _ (fun _ : Unit => Value.int .i64 x.err) () X Y row b2 hg (fun r e => (hr r e).2)⟩

theorem cells_own {β : Type} (B : Nat) (o : Obj) (ho : o.isCells = true) (C : Nat) : OwnFrom C (fun (_ : β) W => W.heap[B]? = some o) := by
  intro s X Y row hs hg hr
  rw [hg.block B (Array.getElem?_eq_some_iff.1 hs).1 (fun e => ?_)]
  · exact hs
  · obtain ⟨_, o', h1, h2⟩ := hr B e.symm
    rw [hs] at h1
    cases h1
    rw [ho] at h2
    cases h2

theorem box_app {W w1 : World} {n0 B B' : Nat} {t e : TypeId} {size k : Nat} {u v : Value} {xs : List Value} {tmp : Obj} (h : Boxed W B t u) (hte : t ≠ e) (hrow : W.ownsRow n0 e size v k xs) (hgrow : (W.alloc tmp).grownBy w1 v.ownBlock) (hne : B ≠ B') (x : Value) : Boxed (w1.setCell ⟨B', 0, none⟩ x) B t u :=
  ((h.alloc tmp).kept hgrow (h.not_row hte hrow)).other hne _

theorem rdx_end {w W : World} {B : Nat} (hB : Below w.heap.size w W) (pre : List Tx) (x : Tx) (hall : ∀ y ∈ pre, Tx.err y = 0) (her : ¬ x.err = 0) (b0 : Boxed W w.heap.size 47 (.slice none 0 0)) (b1 : Boxed W (w.heap.size + 1) 3 (.int .i64 0)) (b2 : Boxed W (w.heap.size + 1 + 1) 40 (.int .i64 0)) :
    KeepsFrom B W (((W.setCell ⟨w.heap.size, 0, none⟩ (.slice none 0 0)).setCell ⟨w.heap.size + 1, 0, none⟩ (.int .i64 x.at')).setCell ⟨w.heap.size + 1 + 1, 0, none⟩ (.int .i64 x.err)).drew ∧
    RdX w .ret (pre ++ [x]) (((W.setCell ⟨w.heap.size, 0, none⟩ (.slice none 0 0)).setCell ⟨w.heap.size + 1, 0, none⟩ (.int .i64 x.at')).setCell ⟨w.heap.size + 1 + 1, 0, none⟩ (.int .i64 x.err)).drew ∧
    Below w.heap.size w (((W.setCell ⟨w.heap.size, 0, none⟩ (.slice none 0 0)).setCell ⟨w.heap.size + 1, 0, none⟩ (.int .i64 x.at')).setCell ⟨w.heap.size + 1 + 1, 0, none⟩ (.int .i64 x.err)).drew := by
  refine ⟨((((KeepsOthers.setCell W _ _).trans (KeepsOthers.setCell _ _ _)).trans (KeepsOthers.setCell _ _ _)).trans (KeepsOthers.drew _)).from _, ⟨rfl, pre, x, rfl, hall, her, ?_, ?_, ?_⟩, (((hB.setCell (Nat.le_refl _) _).setCell (by simp) _).setCell (by simp; omega) _).drew⟩
  · exact ((b0.set _).other (by omega) _).other (by omega) _
  · exact ((b1.other (by omega) _).set _).other (by omega) _
  · exact ((b2.other (by omega) _).other (by omega) _).set _

theorem new4' (w : World) (x0 x1 x2 x3 : Value) (t : TypeId) : ∀ (j : Nat) (u : Value), [x0, x1, x2, x3][j]? = some u → (w.alloc (.cells #[x0, x1, x2, x3] t)).cell? (({ block := w.heap.size, off := 0 } : Addr).add j) = some u := by
  intro j u hj
  match j, hj with
  | 0, hj => simp at hj; subst hj; simp [Addr.add]
  | 1, hj => simp at hj; subst hj; simp [Addr.add]
  | 2, hj => simp at hj; subst hj; simp [Addr.add]
  | 3, hj => simp at hj; subst hj; simp [Addr.add]

theorem block_cells5 {w : World} {b : Nat} {x0 x1 x2 x3 x4 : Value} {t : TypeId} (h : w.heap[b]? = some (.cells #[x0, x1, x2, x3, x4] t)) :
    w.cell? ⟨b, 0, none⟩ = some x0 ∧ w.cell? ⟨b, 1, none⟩ = some x1 ∧ w.cell? ⟨b, 2, none⟩ = some x2 ∧ w.cell? ⟨b, 3, none⟩ = some x3 ∧ w.cell? ⟨b, 4, none⟩ = some x4 := by
  refine ⟨?_, ?_, ?_, ?_, ?_⟩
  all_goals simp [World.cell?, h]

set_option maxRecDepth 100000 in
set_option maxHeartbeats 2000000 in
theorem prd_in (a : Option Addr) (len cap : Nat) (zs : List Int) (w : World) (hbs : Hid (Bs w a len cap zs)) (HL : Hid (len ≤ 2000000)) :
    Calls Try.prog 13 #[.slice a len cap] w fun e W' => ∃ v p er, e = .returned (.tuple #[v, .int .i64 p, .int .i64 er]) ∧ RdEnd w len zs v er W' ∧ Below w.heap.size w W' := by
  refine (callsIn_wide (n := 4)).1 ?_
  refine callsIn_of_wp_marks Try.func13 rfl trivial ?_ rfl
  simp only [Try.ntmps13, List.size_toArray, List.length_cons, List.length_nil, Nat.reduceAdd, Nat.reduceSub, Array.replicate_succ, Array.replicate_zero, List.push_toArray, List.append_toArray, List.nil_append, List.cons_append]
  gi_wp2_with (refine ⟨trivial, ?_⟩; gi_at_call 20; refine CallsIn.mono (callsIn_wide.2 (pfields_any _ _ _ _)) ?_; rintro e w' ⟨rfl, rfl⟩)
  obtain ⟨W0, hW0⟩ : ∃ W0, ((((w.alloc (.cells #[.slice none 0 0] 47)).alloc (.cells #[.int .i64 0] 3)).alloc (.cells #[.int .i64 0] 40)).alloc (.cells #[.slice none 0 0] 47)).alloc (.cells #[.slice a len cap] 28) = W0 := ⟨_, rfl⟩
  have b0 : Boxed W0 w.heap.size 47 (.slice none 0 0) := by rw [← hW0]; exact ((((Boxed.new w _ _).alloc _).alloc _).alloc _).alloc _
  have b1 : Boxed W0 (w.heap.size + 1) 3 (.int .i64 0) := by rw [← hW0]; have := Boxed.new (w.alloc (.cells #[.slice none 0 0] 47)) 3 (.int .i64 0); rw [World.size_alloc] at this; exact (((this).alloc _).alloc _).alloc _
  have b2 : Boxed W0 (w.heap.size + 1 + 1) 40 (.int .i64 0) := by rw [← hW0]; have := Boxed.new ((w.alloc (.cells #[.slice none 0 0] 47)).alloc (.cells #[.int .i64 0] 3)) 40 (.int .i64 0); simp only [World.size_alloc] at this; exact ((this).alloc _).alloc _
  have b3 : Boxed W0 (w.heap.size + 1 + 1 + 1) 47 (.slice none 0 0) := by rw [← hW0]; have := Boxed.new (((w.alloc (.cells #[.slice none 0 0] 47)).alloc (.cells #[.int .i64 0] 3)).alloc (.cells #[.int .i64 0] 40)) 47 (.slice none 0 0); simp only [World.size_alloc] at this; exact (this).alloc _
  have b4 : Boxed W0 (w.heap.size + 1 + 1 + 1 + 1) 28 (.slice a len cap) := by rw [← hW0]; have := Boxed.new ((((w.alloc (.cells #[.slice none 0 0] 47)).alloc (.cells #[.int .i64 0] 3)).alloc (.cells #[.int .i64 0] 40)).alloc (.cells #[.slice none 0 0] 47)) 28 (.slice a len cap); simp only [World.size_alloc] at this; exact this
  have hsz : W0.heap.size = w.heap.size + 5 := by rw [← hW0]; simp
  have hB0 : Below w.heap.size w W0 := by rw [← hW0]; exact (((((Below.refl _ _).alloc (Nat.le_refl _) _).alloc (by simp) _).alloc (by simp; omega) _).alloc (by simp; omega) _).alloc (by simp; omega) _
  have hbl : ∀ x, 0 < len → a = some x → x.block < w.heap.size := fun x hp hx => Bs.blk hbs.out x hp hx
  have hN : (sq len zs 0).length ≤ len := sq_len _ _ _
  have hLo := HL.out
  have hi : w.heap.size = w.heap.size := rfl
  obtain ⟨i0, hi, hz0, hz1, hz2⟩ := info_parts Try.infoRaw
  rw [hW0]
  refine wpIn_rangeFunc_ownH rfl (by omega) (gf := 29) (lb := #[.pointer (some ⟨w.heap.size + 1 + 1 + 1 + 1, 0, none⟩)]) rfl trivial (enters_of Try.func29 (by kernel_rfl) rfl)
    (pfl_stops (w.heap.size + 1 + 1 + 1 + 1) w.heap.size a len cap zs HL W0 (by omega) (by omega) b4.cell (hbs.out.below hB0 (Nat.le_refl _)) hbl) kq_t (kq_b (by omega) (by omega)) (Below.refl _ _) (fun _ => rfl)
    (fun pre W => RdI w (.slice a len cap) pre W ∧ Below w.heap.size w W)
    (fun c pre W => RdX w c pre W ∧ Below w.heap.size w W)
    (OwnFrom.and (rdI_own w _ _) (ownFrom_below (Nat.le_refl _) (by omega)))
    (fun c => OwnFrom.and (rdX_own w _ c) (ownFrom_below (Nat.le_refl _) (by omega)))
    ⟨⟨⟨_, b3, World.ownsRow_nil _ _ _ _, by simp⟩, b0, b1, b2, b4⟩, hB0⟩
    (fun x a' W => ∃ Bx, w.heap.size + 1 + 1 + 1 < Bx ∧ W.heap[Bx]? = some (.cells #[.int .i64 x.num, .int .i64 x.kind, .int .u64 x.n, .slice x.a x.l x.c, .int .i64 x.err] 72) ∧ a' = { tmps := #[.slice a len cap, undef, .pointer (some ⟨w.heap.size, 0, none⟩), .pointer (some ⟨w.heap.size + 1, 0, none⟩), .pointer (some ⟨w.heap.size + 1 + 1, 0, none⟩), .pointer (some ⟨w.heap.size + 1 + 1 + 1, 0, none⟩), .int .i64 x.at', .pointer (some ⟨Bx, 0, none⟩), .slice a len cap, .func (.func 29) #[] #[.pointer (some ⟨w.heap.size + 1 + 1 + 1 + 1, 0, none⟩)], .int .i64 x.at', .agg #[.int .i64 x.num, .int .i64 x.kind, .int .u64 x.n, .slice x.a x.l x.c, .int .i64 x.err], undef, undef, undef, undef, undef, undef, undef, undef, undef, undef, undef, undef], defers := [] })
    (fun x a' _ X Y row hs hg hr => by obtain ⟨Bx, h1, h2, h3⟩ := hs; exact ⟨Bx, h1, cells_own (β := Unit) Bx _ rfl _ () X Y row h2 hg hr, h3⟩)
    ?assign ?body ?done ?stop
  case assign =>
    rintro l pre ⟨xa, xu, xk, xn, xp, xl, xc, xe⟩ W K ⟨⟨⟨v, b3, hrow, hall⟩, b0, b1, b2, b4⟩, hB1⟩ hK
    have HK : Hid _ := hK
    clear hK
    simp only [Tx.vals]
    gi_wp2
    exact HK.out _ _ ((KeepsOthers.alloc _ _).from _) (Kq.of_below ((Below.refl _ W).alloc (Nat.le_refl _) _) hB1.size b4.lt) ⟨⟨⟨v, b3.alloc _, own_below hrow ((Below.refl _ W).alloc (Nat.le_refl _) _), hall⟩, b0.alloc _, b1.alloc _, b2.alloc _, b4.alloc _⟩, hB1.alloc hB1.size _⟩ ⟨W.heap.size, b3.lt, heap_alloc_new _ _, rfl⟩
  case body =>
    rintro l pre ⟨xa, xu, xk, xn, xp, xl, xc, xe⟩ a' W hl ⟨r, hr⟩ ⟨⟨⟨v, b3, hrow, hall⟩, b0, b1, b2, b4⟩, hB1⟩ ⟨Bx, hBx, bX, rfl⟩ hlt
    obtain ⟨e0, e1, e2, e3, e4⟩ := block_cells5 bX
    have c0 := b0.cell
    have c1 := b1.cell
    have c2 := b2.cell
    have c3 := b3.cell
    have f0 := b0.frozen
    have f1 := b1.frozen
    have f2 := b2.frozen
    have f3 := b3.frozen
    by_cases her : xe = 0
    · subst her
      gi_wp2_with (gi_at_builtin; refine wpListIn_append_own _ rfl _ _ 47 rfl w.heap.size 52 i0 (.agg #[.int .i64 0, .int .i64 0, .int .u64 0, .slice none 0 0]) 4 48 Try.underlying47 hi hz0 hz1 hz2 rfl (by decide) _ _ _ rfl (hrow.alloc _) ⟨W.heap.size, 0, none⟩ 1 1 [.int .i64 xu, .int .i64 xk, .int .u64 xn, .slice xp xl xc] rfl rfl (new4' _ _ _ _ _ _) (one4 _ _ _ _ _ _) (by unfold maxLen; omega) (by omega) (by have := hB1.size; simp; omega) ?_; intro v' w1 hown' hgrow _; obtain ⟨g', cap', rfl⟩ := ownsRow_succ hown'; obtain ⟨hv1, hv2, hr2, hk2, hb2⟩ := b3.appended (by decide) hrow hB1.size (by omega) hown' hgrow; have hc1 := hv1.cell; have hf1 := hv1.frozen)
      have q4 := box_app (B' := w.heap.size + 1 + 1 + 1) b4 (by decide) hrow hgrow (by omega) (.slice (some ⟨g', 0, none⟩) (pre.length + 1) cap')
      refine ⟨hk2.from _, ⟨hb2, ?_⟩, ⟨⟨_, hv2, ?_, ?_⟩, box_app b0 (by decide) hrow hgrow (by omega) _, box_app b1 (by decide) hrow hgrow (by omega) _, box_app b2 (by decide) hrow hgrow (by omega) _, q4⟩, hB1.trans hb2⟩
      · exact (show _ = _ from q4).trans (show _ = _ from b4).symm
      · simpa [Tx.cells] using hr2
      · intro x hx
        rcases List.mem_append.1 hx with hx | hx
        · exact hall x hx
        · simp at hx
          subst hx
          rfl
    · have her' : (xe != 0) = true := by simpa using her
      have hmix : Try.prog.follows .mixedOrders = true := by kernel_rfl
      have n1 : ¬ Bx = w.heap.size := by omega
      have n2 : ¬ Bx = w.heap.size + 1 := by omega
      gi_wp2
      gi_region_with_o (fail)
      all_goals gi_wp2
      all_goals exact rdx_end hB1 pre ⟨xa, xu, xk, xn, xp, xl, xc, xe⟩ hall her b0 b1 b2
  case done =>
    rintro D xs W hD hS ⟨⟨⟨v, b3, hrow, hall⟩, b0, b1, b2, b4⟩, hB⟩ hK
    obtain ⟨a3, k3, rfl⟩ := own_slice hrow
    have c0 := b0.cell
    have c1 := b1.cell
    have c2 := b2.cell
    have c3 := b3.cell
    have f0 := b0.frozen
    have f1 := b1.frozen
    have f2 := b2.frozen
    gi_wp2
    have d0 := ((b0.set (.slice a3 xs.length k3)).other (B' := w.heap.size + 1) (by omega) (.int .i64 0)).other (B' := w.heap.size + 1 + 1) (by omega) (.int .i64 0)
    have d1 := ((b1.other (B' := w.heap.size) (by omega) (.slice a3 xs.length k3)).set (.int .i64 0)).other (B' := w.heap.size + 1 + 1) (by omega) (.int .i64 0)
    have d2 := ((b2.other (B' := w.heap.size) (by omega) (.slice a3 xs.length k3)).other (B' := w.heap.size + 1) (by omega) (.int .i64 0)).set (.int .i64 0)
    have hK' := (((KeepsOthers.setCell W ⟨w.heap.size, 0, none⟩ (.slice a3 xs.length k3)).trans (KeepsOthers.setCell _ ⟨w.heap.size + 1, 0, none⟩ (.int .i64 0))).trans (KeepsOthers.setCell _ ⟨w.heap.size + 1 + 1, 0, none⟩ (.int .i64 0))).same D _ hK rfl
    refine ⟨by simp, .inl ⟨_, _, rfl, run_takeDeferred hK', ?_⟩⟩
    have h0 := cell_kept d0.cell (grownBy_putObj' _ D (.deferred none)) (fun r e => by cases e; exact ⟨_, hK', rfl⟩)
    have h1 := cell_kept d1.cell (grownBy_putObj' _ D (.deferred none)) (fun r e => by cases e; exact ⟨_, hK', rfl⟩)
    have h2 := cell_kept d2.cell (grownBy_putObj' _ D (.deferred none)) (fun r e => by cases e; exact ⟨_, hK', rfl⟩)
    refine ⟨.tuple #[.slice a3 xs.length k3, .int .i64 0, .int .i64 0], ?_, _, 0, 0, rfl, .inl ⟨rfl, xs, hall, hS, ?_⟩, ?_⟩
    · simp [results, Try.f13, go_sem, h0, h1, h2]
    · refine ownsRow_putObj ?_ _ hK' rfl
      have hn0 := b0.not_row (e := 52) (by decide) hrow
      have hn1 := b1.not_row (e := 52) (by decide) hrow
      have hn2 := b2.not_row (e := 52) (by decide) hrow
      exact ((hrow.kept (grownBy_setCell' W _ _) (.inr (fun e => hn0 e.symm))).kept (grownBy_setCell' _ _ _) (.inr (fun e => hn1 e.symm))).kept (grownBy_setCell' _ _ _) (.inr (fun e => hn2 e.symm))
    · exact (((hB.setCell (p := ⟨w.heap.size, 0, none⟩) (Nat.le_refl _) _).setCell (p := ⟨w.heap.size + 1, 0, none⟩) (by simp) _).setCell (p := ⟨w.heap.size + 1 + 1, 0, none⟩) (by simp; omega) _).trans (belowK_b (w := w) (Nat.le_refl _) _ D _ _ (by omega) hK' rfl rfl)
  case stop =>
    rintro D c pre W hD hpre ⟨⟨rfl, q, x, rfl, hq, hx, b0, b1, b2⟩, hB⟩ hK
    gi_wp2
    refine ⟨by simp, .inl ⟨_, _, rfl, run_takeDeferred hK, ?_⟩⟩
    have h0 := cell_kept b0.cell (grownBy_putObj' _ D (.deferred none)) (fun r e => by cases e; exact ⟨_, hK, rfl⟩)
    have h1 := cell_kept b1.cell (grownBy_putObj' _ D (.deferred none)) (fun r e => by cases e; exact ⟨_, hK, rfl⟩)
    have h2 := cell_kept b2.cell (grownBy_putObj' _ D (.deferred none)) (fun r e => by cases e; exact ⟨_, hK, rfl⟩)
    refine ⟨.tuple #[.slice none 0 0, .int .i64 x.at', .int .i64 x.err], ?_, _, _, _, rfl, .inr ⟨hx, rfl, q, x, hpre, hq, rfl⟩, hB.trans (belowK_b (w := w) (Nat.le_refl _) W D _ _ (by omega) hK rfl rfl)⟩
    simp [results, Try.f13, go_sem, h0, h1, h2]

end Go.Proofs.Ytjbppjemilijdaa

/- What Options say of a map's entry: the program's pool.Entry and the reference's. -/
namespace Go.Proofs.Ytjbppjemilijdaa
open Go.RowKit
set_option linter.unusedVariables false
set_option linter.unusedSimpArgs false

/-- The last field 7 that is a varint isn't nought. -/
def entf (b : Bool) (r : Int × Int × Int) : Bool := if r.1 = 7 ∧ r.2.1 = 0 then r.2.2 != 0 else b

def ent (l : List (Int × Int × Int)) : Bool := l.foldl entf false

theorem ent_snoc (l : List (Int × Int × Int)) (r : Int × Int × Int) : ent (l ++ [r]) = entf (ent l) r := by simp [ent]

def c3 (x : Int × Int × Int × List Int) : Int × Int × Int := (x.1, x.2.1, x.2.2.1)

def d3 (x : Int × Int × Int × Int × Int) : Int × Int × Int := (x.2.1, x.2.2.1, x.2.2.2.1)

theorem sq_ok : ∀ (f : Nat) (zs : List Int) (p : Int), (∀ x ∈ sq f zs p, x.2.2.2.2 = 0) → (wread f zs p).2.2 = 0 ∧ (wread f zs p).1.map c3 = (sq f zs p).map d3
  | 0, zs, p, h => by
    cases zs <;> simp [wread, sq]
  | f + 1, [], p, h => by simp [wread, sq]
  | f + 1, c :: r, p, h => by
    have he : (wtake (c :: r)).err = 0 := h (p, _, _, _, _) (by rw [sq]; exact List.mem_cons_self)
    rw [sq_step f (c :: r) p (by simp) he] at h ⊢
    obtain ⟨h1, h2⟩ := sq_ok f _ _ (fun x hx => h x (List.mem_cons_of_mem _ hx))
    unfold wread
    simp [he, h1, h2, c3, d3, Tkn.core]

theorem sq_bad : ∀ (f : Nat) (zs : List Int) (p : Int) (x : Int × Int × Int × Int × Int), x ∈ sq f zs p → ¬ x.2.2.2.2 = 0 → ¬ (wread f zs p).2.2 = 0
  | 0, zs, p, x, h, _ => by cases zs <;> simp [sq] at h
  | f + 1, [], p, x, h, _ => by simp [sq] at h
  | f + 1, c :: r, p, x, h, hx => by
    by_cases he : (wtake (c :: r)).err = 0
    · rw [sq_step f (c :: r) p (by simp) he] at h
      rcases List.mem_cons.1 h with rfl | h
      · exact absurd he hx
      · have := sq_bad f _ _ x h hx
        unfold wread
        simp [he, this]
    · unfold wread
      simp [he]

/-- Raws in a row of the call's own, read: their first three numbers. -/
def R3 (w : World) (a : Option Addr) (len cap : Nat) (rs : List (Int × Int × Int)) : Prop :=
  rs.length = len ∧ (len : Int) ≤ 9223372036854775807 ∧ (0 < len → ∃ b off, a = some ⟨b, off, none⟩ ∧ b < w.heap.size ∧ ∀ i r, rs[i]? = some r →
      w.cell? ⟨b, off + i * 4, none⟩ = some (.int .i64 r.1) ∧ w.cell? ⟨b, off + i * 4 + 1, none⟩ = some (.int .i64 r.2.1) ∧ w.cell? ⟨b, off + i * 4 + 2, none⟩ = some (.int .u64 r.2.2) ∧ ∃ a1 l1 c1, w.cell? ⟨b, off + i * 4 + 3, none⟩ = some (.slice a1 l1 c1))

theorem R3.of_rs {w : World} {a : Option Addr} {len cap : Nat} {rs : List Rw} (h : Rs w a len cap rs) : R3 w a len cap (rs.map (fun r => (r.num, r.kind, r.n))) := by
  obtain ⟨h1, h2, h3, h4, h5, h6⟩ := h
  refine ⟨by simpa using h1, h2, fun hp => ?_⟩
  obtain ⟨b, off, rfl, hlt, hc⟩ := h6 hp
  refine ⟨b, off, rfl, hlt, fun i r hi => ?_⟩
  rw [List.getElem?_map] at hi
  cases hr : rs[i]? with
  | none => rw [hr] at hi; cases hi
  | some q =>
    rw [hr] at hi
    simp at hi
    subst hi
    obtain ⟨c0, c1, c2, c3⟩ := hc i q hr
    exact ⟨c0, c1, c2, _, _, _, c3⟩

theorem flat4x : ∀ (rs : List Tx) (i : Nat) (r : Tx), rs[i]? = some r → ∀ j, j < 4 → (rs.flatMap Tx.cells)[i * 4 + j]? = r.cells[j]?
  | [], i, r, h, _, _ => by simp at h
  | q :: rs, 0, r, h, j, hj => by
    simp at h
    subst h
    simp only [List.flatMap_cons]
    rw [List.getElem?_append_left (by simp [Tx.cells]; omega)]
    simp
  | q :: rs, i + 1, r, h, j, hj => by
    simp only [List.getElem?_cons_succ] at h
    simp only [List.flatMap_cons]
    rw [List.getElem?_append_right (by simp [Tx.cells]; omega), show (i + 1) * 4 + j - q.cells.length = i * 4 + j by simp [Tx.cells]; omega]
    exact flat4x rs i r h j hj

theorem R3.of_tx {w : World} {base : Nat} {a : Option Addr} {len cap : Nat} {xs : List Tx} (ho : w.ownsRow base 52 4 (.slice a len cap) xs.length (xs.flatMap Tx.cells)) : R3 w a len cap (xs.map (fun r => (r.num, r.kind, r.n))) := by
  rcases ho.2 with ⟨he, hn⟩ | ⟨g, c, cur, he, hg, hh, h1, h2, h3, h4⟩
  · simp at he
    obtain ⟨rfl, rfl, rfl⟩ := he
    exact ⟨by simpa using hn, by omega, fun h => absurd h (by omega)⟩
  · simp at he
    obtain ⟨rfl, rfl, rfl⟩ := he
    refine ⟨by simp, by unfold maxLen at h2; omega, fun _ => ⟨g, 0, rfl, (ho.lt g rfl).2, fun i r hi => ?_⟩⟩
    rw [List.getElem?_map] at hi
    cases hr : xs[i]? with
    | none => rw [hr] at hi; cases hi
    | some q =>
      rw [hr] at hi
      simp at hi
      subst hi
      have hil : i < xs.length := (List.getElem?_eq_some_iff.1 hr).1
      have c := fun j (hj : j < 4) => (ho.cellAt (i * 4 + j) (by omega)).trans (flat4x xs i q hr j hj)
      have c0 := c 0 (by omega)
      have c1 := c 1 (by omega)
      have c2 := c 2 (by omega)
      have c3 := c 3 (by omega)
      simp [Tx.cells] at c0 c1 c2 c3
      simp only [Nat.zero_add]
      exact ⟨c0, c1, c2, _, _, _, c3⟩

/-- What both answer. -/
def eof (len : Nat) (zs : List Int) : Bool := decide ((wread len zs 0).2.2 = 0) && ent ((wread len zs 0).1.map c3)

theorem prd3 {w : World} {a : Option Addr} {len cap : Nat} {zs : List Int} {w1 : World} (hbs : Bs w a len cap zs) (hl : len ≤ 1048576) (hb : Below w.heap.size w w1) :
    Calls Try.prog 13 #[.slice a len cap] w1 fun e w' => ∃ ra rl rc p er rs, e = .returned (.tuple #[.slice ra rl rc, .int .i64 p, .int .i64 er]) ∧ Hid (R3 w' ra rl rc rs) ∧ Hid (ent rs = eof len zs) ∧ Below w.heap.size w w' := by
  refine (prd_in a len cap zs w1 (show Hid _ from hbs.below hb (Nat.le_refl _)) (show len ≤ 2000000 by omega)).mono ?_
  rintro e w2 ⟨v, p, er, rfl, h, hb2⟩
  have hB : Below w.heap.size w w2 := hb.trans (hb2.mono hb.size)
  rcases h with ⟨rfl, xs, hx, hs, ho⟩ | ⟨hne, rfl, q, x, hp, hq, hxe⟩
  · obtain ⟨ra, rc, rfl⟩ := own_slice ho
    obtain ⟨h1, h2⟩ := sq_ok len zs 0 (fun y hy => by
      rw [← hs] at hy
      obtain ⟨z, hz, rfl⟩ := List.mem_map.1 hy
      exact hx z hz)
    refine ⟨ra, xs.length, rc, p, 0, xs.map (fun r => (r.num, r.kind, r.n)), rfl, (show R3 _ _ _ _ _ from R3.of_tx ho), (show _ = _ from ?_), hB⟩
    unfold eof
    rw [h1, h2, ← hs, List.map_map]
    simp only [decide_true, Bool.true_and]
    congr 1
  · refine ⟨none, 0, 0, p, er, [], rfl, ⟨rfl, by omega, fun h => absurd h (by omega)⟩, (show _ = _ from ?_), hB⟩
    have hm : x.core ∈ sq len zs 0 := by
      refine hp.subset ?_
      simp
    have := sq_bad len zs 0 x.core hm (by rw [show x.core.2.2.2.2 = x.err from rfl, hxe]; exact hne)
    unfold eof
    simp [this, ent]

theorem rrd3 {w : World} {a : Option Addr} {len cap : Nat} {zs : List Int} {w1 : World} (hbs : Bs w a len cap zs) (hl : len ≤ 1048576) (hb : Below w.heap.size w w1) :
    Calls Try.prog 14 #[.slice a len cap] w1 fun e w' => ∃ ra rl rc p er rs, e = .returned (.tuple #[.slice ra rl rc, .int .i64 p, .int .i64 er]) ∧ Hid (R3 w' ra rl rc rs) ∧ Hid (((decide (er = 0)) && ent rs) = eof len zs) ∧ Below w.heap.size w w' := by
  refine (rrd_some a len cap zs w1 (show Hid _ from hbs.below hb (Nat.le_refl _)) (by omega)).mono ?_
  rintro e w2 ⟨v, rs, rfl, hc, hr, hb2⟩
  obtain ⟨ra, rc, rfl⟩ := own_slice hr.1
  refine ⟨ra, rs.length, rc, _, _, _, rfl, (show R3 _ _ _ _ _ from R3.of_rs (Rs.of_own hr)), (show _ = _ from ?_), hb.trans (hb2.mono hb.size)⟩
  unfold eof
  rw [← hc, List.map_map]
  congr 1

set_option maxRecDepth 100000 in
set_option maxHeartbeats 2000000 in
theorem pentry_any (nm : ByteArray) (a1 : Option Addr) (n1 k1 : Nat) (a2 : Option Addr) (n2 k2 : Nat) (a3 : Option Addr) (n3 k3 : Nat) (a4 : Option Addr) (n4 k4 : Nat) (a5 : Option Addr) (n5 k5 : Nat) (a6 : Option Addr) (n6 k6 : Nat) (a7 : Option Addr) (n7 k7 : Nat) (a8 : Option Addr) (n8 k8 : Nat) (a10 : Option Addr) (n10 k10 : Nat) (a : Option Addr) (len cap : Nat) (zs : List Int) (w : World) (hbs : Hid (Bs w a len cap zs)) (HL : Hid (len ≤ 1048576)) :
    Calls Try.prog 7 #[.agg #[.string nm, .slice a1 n1 k1, .slice a2 n2 k2, .slice a3 n3 k3, .slice a4 n4 k4, .slice a5 n5 k5, .slice a6 n6 k6, .slice a7 n7 k7, .slice a8 n8 k8, .slice a len cap, .slice a10 n10 k10]] w fun e w' => e = .returned (.bool (eof len zs)) ∧ Below w.heap.size w w' := by
  have HB : Hid (Below w.heap.size w (w.alloc (.cells #[.string nm, .slice a1 n1 k1, .slice a2 n2 k2, .slice a3 n3 k3, .slice a4 n4 k4, .slice a5 n5 k5, .slice a6 n6 k6, .slice a7 n7 k7, .slice a8 n8 k8, .slice a len cap, .slice a10 n10 k10] 30))) := (Below.refl _ _).alloc (Nat.le_refl _) _
  have Q : Hid (Calls Try.prog 13 #[.slice a len cap] (w.alloc (.cells #[.string nm, .slice a1 n1 k1, .slice a2 n2 k2, .slice a3 n3 k3, .slice a4 n4 k4, .slice a5 n5 k5, .slice a6 n6 k6, .slice a7 n7 k7, .slice a8 n8 k8, .slice a len cap, .slice a10 n10 k10] 30)) fun e w' => ∃ ra rl rc p er rs, e = .returned (.tuple #[.slice ra rl rc, .int .i64 p, .int .i64 er]) ∧ Hid (R3 w' ra rl rc rs) ∧ Hid (ent rs = eof len zs) ∧ Below w.heap.size w w') := prd3 hbs.out HL.out HB.out
  go_enter Try.func7, Try.ntmps7
  go_wp2_with fail
  refine Calls.mono Q.out ?_
  rintro e w2 ⟨ra, rl, rc, p, er, rs, rfl, HR, HE, hb2⟩
  have HB2 : Hid _ := hb2
  have hrl := HR.out.2.1
  clear hb2 Q HB HL
  go_wp2
  go_loopw [6, 18] (fun b i wr => ∃ k : Nat, k ≤ rl ∧ i = .int .i64 (k : Int) ∧ b = .bool (ent (rs.take k)) ∧ Hid (Below w2.heap.size w2 wr)) (fun _ i _ => rl - (intOf i).toNat)
  case atStart => exact ⟨0, Nat.zero_le _, rfl, rfl, Below.refl _ _⟩
  case round =>
    obtain ⟨k, hk, rfl, rfl, HW⟩ := hrel
    by_cases hlk : k < rl
    · obtain ⟨b, off, rfl, hlt, hc⟩ := HR.out.2.2 (by omega)
      have hkl : k < rs.length := by rw [HR.out.1]; exact hlk
      obtain ⟨c0, c1, c2, sa, sl, sc, c3⟩ := hc k rs[k] (List.getElem?_eq_getElem hkl)
      have d0 := (HW.out.cell (p := ⟨b, off + k * 4, none⟩) hlt).trans c0
      have d1 := (HW.out.cell (p := ⟨b, off + k * 4 + 1, none⟩) hlt).trans c1
      have d2 := (HW.out.cell (p := ⟨b, off + k * 4 + 2, none⟩) hlt).trans c2
      have d3 := (HW.out.cell (p := ⟨b, off + k * 4 + 3, none⟩) hlt).trans c3
      clear c0 c1 c2 c3 hc
      have hsz := HW.out.size
      have E : Hid (ent (rs.take (k + 1)) = entf (ent (rs.take k)) rs[k]) := by
        show _ = _
        rw [List.take_succ_eq_append_getElem hkl, ent_snoc]
      generalize rs[k] = r at d0 d1 d2 E
      obtain ⟨ru, rk, rn⟩ := r
      dsimp only at d0 d1 d2
      generalize ent (rs.take k) = bb at E ⊢
      by_cases h7 : ru = 7
      · subst h7
        by_cases h0 : rk = 0
        · subst h0
          have E2 : Hid (ent (rs.take (k + 1)) = (rn != 0)) := by show _ = _; rw [E.out]; simp [entf]
          clear E hkl
          go_wp2
          go_roundw
          case rel => exact ⟨k + 1, by omega, by go_num, by rw [E2.out], HW.out.alloc HW.out.size _⟩
          case measure => simp [intOf]; omega
        · have h0' : (rk == 0) = false := by simpa using h0
          have E2 : Hid (ent (rs.take (k + 1)) = bb) := by show _ = _; rw [E.out]; simp [entf, h0]
          clear E hkl
          go_wp2
          go_roundw
          case rel => exact ⟨k + 1, by omega, by go_num, by rw [E2.out], HW.out.alloc HW.out.size _⟩
          case measure => simp [intOf]; omega
      · have h7' : (ru == 7) = false := by simpa using h7
        have E2 : Hid (ent (rs.take (k + 1)) = bb) := by show _ = _; rw [E.out]; simp [entf, h7]
        clear E hkl
        go_wp2
        go_roundw
        case rel => exact ⟨k + 1, by omega, by go_num, by rw [E2.out], HW.out.alloc HW.out.size _⟩
        case measure => simp [intOf]; omega
    · have E : Hid (ent (rs.take k) = ent rs) := by
        show _ = _
        rw [List.take_of_length_le (by rw [HR.out.1]; omega)]
      have HF : Hid (Below w.heap.size w wr) := HB2.out.trans (HW.out.mono HB2.out.size)
      rw [E.out, HE.out]
      go_wp2
      go_ret
      exact ⟨rfl, HF.out⟩

set_option maxRecDepth 100000 in
set_option maxHeartbeats 2000000 in
theorem rentry_any (nm : ByteArray) (a1 : Option Addr) (n1 k1 : Nat) (a2 : Option Addr) (n2 k2 : Nat) (a3 : Option Addr) (n3 k3 : Nat) (a4 : Option Addr) (n4 k4 : Nat) (a5 : Option Addr) (n5 k5 : Nat) (a6 : Option Addr) (n6 k6 : Nat) (a7 : Option Addr) (n7 k7 : Nat) (a8 : Option Addr) (n8 k8 : Nat) (a10 : Option Addr) (n10 k10 : Nat) (a : Option Addr) (len cap : Nat) (zs : List Int) (w : World) (hbs : Hid (Bs w a len cap zs)) (HL : Hid (len ≤ 1048576)) :
    Calls Try.prog 8 #[.agg #[.string nm, .slice a1 n1 k1, .slice a2 n2 k2, .slice a3 n3 k3, .slice a4 n4 k4, .slice a5 n5 k5, .slice a6 n6 k6, .slice a7 n7 k7, .slice a8 n8 k8, .slice a len cap, .slice a10 n10 k10]] w fun e w' => e = .returned (.bool (eof len zs)) ∧ Below w.heap.size w w' := by
  have HB : Hid (Below w.heap.size w (w.alloc (.cells #[.string nm, .slice a1 n1 k1, .slice a2 n2 k2, .slice a3 n3 k3, .slice a4 n4 k4, .slice a5 n5 k5, .slice a6 n6 k6, .slice a7 n7 k7, .slice a8 n8 k8, .slice a len cap, .slice a10 n10 k10] 30))) := (Below.refl _ _).alloc (Nat.le_refl _) _
  have Q : Hid (Calls Try.prog 14 #[.slice a len cap] (w.alloc (.cells #[.string nm, .slice a1 n1 k1, .slice a2 n2 k2, .slice a3 n3 k3, .slice a4 n4 k4, .slice a5 n5 k5, .slice a6 n6 k6, .slice a7 n7 k7, .slice a8 n8 k8, .slice a len cap, .slice a10 n10 k10] 30)) fun e w' => ∃ ra rl rc p er rs, e = .returned (.tuple #[.slice ra rl rc, .int .i64 p, .int .i64 er]) ∧ Hid (R3 w' ra rl rc rs) ∧ Hid (((decide (er = 0)) && ent rs) = eof len zs) ∧ Below w.heap.size w w') := rrd3 hbs.out HL.out HB.out
  go_enter Try.func8, Try.ntmps8
  go_wp2_with fail
  refine Calls.mono Q.out ?_
  rintro e w2 ⟨ra, rl, rc, p, er, rs, rfl, HR, HE, hb2⟩
  have HB2 : Hid _ := hb2
  have hrl := HR.out.2.1
  clear hb2 Q HB HL
  go_wp2
  go_loopw [6, 18] (fun b i wr => ∃ k : Nat, k ≤ rl ∧ i = .int .i64 (k : Int) ∧ b = .bool (ent (rs.take k)) ∧ Hid (Below w2.heap.size w2 wr)) (fun _ i _ => rl - (intOf i).toNat)
  case atStart => exact ⟨0, Nat.zero_le _, rfl, rfl, Below.refl _ _⟩
  case round =>
    obtain ⟨k, hk, rfl, rfl, HW⟩ := hrel
    by_cases hlk : k < rl
    · obtain ⟨b, off, rfl, hlt, hc⟩ := HR.out.2.2 (by omega)
      have hkl : k < rs.length := by rw [HR.out.1]; exact hlk
      obtain ⟨c0, c1, c2, sa, sl, sc, c3⟩ := hc k rs[k] (List.getElem?_eq_getElem hkl)
      have d0 := (HW.out.cell (p := ⟨b, off + k * 4, none⟩) hlt).trans c0
      have d1 := (HW.out.cell (p := ⟨b, off + k * 4 + 1, none⟩) hlt).trans c1
      have d2 := (HW.out.cell (p := ⟨b, off + k * 4 + 2, none⟩) hlt).trans c2
      have d3 := (HW.out.cell (p := ⟨b, off + k * 4 + 3, none⟩) hlt).trans c3
      clear c0 c1 c2 c3 hc
      have hsz := HW.out.size
      have E : Hid (ent (rs.take (k + 1)) = entf (ent (rs.take k)) rs[k]) := by
        show _ = _
        rw [List.take_succ_eq_append_getElem hkl, ent_snoc]
      generalize rs[k] = r at d0 d1 d2 E
      obtain ⟨ru, rk, rn⟩ := r
      dsimp only at d0 d1 d2
      generalize ent (rs.take k) = bb at E ⊢
      by_cases h7 : ru = 7
      · subst h7
        by_cases h0 : rk = 0
        · subst h0
          have E2 : Hid (ent (rs.take (k + 1)) = (rn != 0)) := by show _ = _; rw [E.out]; simp [entf]
          clear E hkl
          go_wp2
          go_roundw
          case rel => exact ⟨k + 1, by omega, by go_num, by rw [E2.out], HW.out.alloc HW.out.size _⟩
          case measure => simp [intOf]; omega
        · have h0' : (rk == 0) = false := by simpa using h0
          have E2 : Hid (ent (rs.take (k + 1)) = bb) := by show _ = _; rw [E.out]; simp [entf, h0]
          clear E hkl
          go_wp2
          go_roundw
          case rel => exact ⟨k + 1, by omega, by go_num, by rw [E2.out], HW.out.alloc HW.out.size _⟩
          case measure => simp [intOf]; omega
      · have h7' : (ru == 7) = false := by simpa using h7
        have E2 : Hid (ent (rs.take (k + 1)) = bb) := by show _ = _; rw [E.out]; simp [entf, h7]
        clear E hkl
        go_wp2
        go_roundw
        case rel => exact ⟨k + 1, by omega, by go_num, by rw [E2.out], HW.out.alloc HW.out.size _⟩
        case measure => simp [intOf]; omega
    · have E : Hid (ent (rs.take k) = ent rs) := by
        show _ = _
        rw [List.take_of_length_le (by rw [HR.out.1]; omega)]
      have HF : Hid (Below w.heap.size w wr) := HB2.out.trans (HW.out.mono HB2.out.size)
      rw [E.out]
      have HE2 := HE.out
      generalize ent rs = bb at HE2 ⊢
      have HE3 : Hid _ := HE2
      clear HE HE2 E
      cases bb with
      | false =>
        go_wp2
        go_ret
        exact ⟨by rw [← HE3.out]; simp, HF.out⟩
      | true =>
        by_cases her : er = 0
        · subst her
          go_wp2
          go_ret
          exact ⟨by rw [← HE3.out]; rfl, HF.out⟩
        · have her' : (er == 0) = false := by simpa using her
          have HE4 : Hid (eof len zs = false) := by show _ = _; rw [← HE3.out]; simp [her]
          clear HE3
          go_wp2
          go_ret
          exact ⟨by rw [HE4.out]; rfl, HF.out⟩

end Go.Proofs.Ytjbppjemilijdaa

/- A message that came in; the law's own message; PoolEntries' region. -/
namespace Go.Proofs.Ytjbppjemilijdaa
open Go.RowKit
set_option linter.unusedVariables false
set_option linter.unusedSimpArgs false

/-- The lists of a message, in a world. -/
def MsgOk (w : World) (nm : ByteArray) (a1 : Option Addr) (n1 k1 : Nat) (m1 : List Md) (a2 : Option Addr) (n2 k2 : Nat) (m2 : List Md) (a3 : Option Addr) (n3 k3 : Nat) (m3 : List Md) (a4 : Option Addr) (n4 k4 : Nat) (m4 : List Md) (a5 : Option Addr) (n5 k5 : Nat) (m5 : List Md) (a6 : Option Addr) (n6 k6 : Nat) (m6 : List Md) (a7 : Option Addr) (n7 k7 : Nat) (m7 : List Md) (a8 : Option Addr) (n8 k8 : Nat) (m8 : List Md) (a9 : Option Addr) (n9 k9 : Nat) (m9 : List Md) (a10 : Option Addr) (n10 k10 : Nat) (m10 : List Md) : Prop :=
  nm.size ≤ maxLen ∧ Ok Try.prog w 22 (.ls a1 n1 k1 m1) ∧ Ok Try.prog w 23 (.ls a2 n2 k2 m2) ∧ Ok Try.prog w 24 (.ls a3 n3 k3 m3) ∧ Ok Try.prog w 25 (.ls a4 n4 k4 m4) ∧ Ok Try.prog w 22 (.ls a5 n5 k5 m5) ∧ Ok Try.prog w 26 (.ls a6 n6 k6 m6) ∧ Ok Try.prog w 25 (.ls a7 n7 k7 m7) ∧ Ok Try.prog w 27 (.ls a8 n8 k8 m8) ∧ Ok Try.prog w 28 (.ls a9 n9 k9 m9) ∧ Ok Try.prog w 28 (.ls a10 n10 k10 m10)

theorem MsgOk.under {w w' : World} {nm : ByteArray} {a1 : Option Addr} {n1 k1 : Nat} {m1 : List Md} {a2 : Option Addr} {n2 k2 : Nat} {m2 : List Md} {a3 : Option Addr} {n3 k3 : Nat} {m3 : List Md} {a4 : Option Addr} {n4 k4 : Nat} {m4 : List Md} {a5 : Option Addr} {n5 k5 : Nat} {m5 : List Md} {a6 : Option Addr} {n6 k6 : Nat} {m6 : List Md} {a7 : Option Addr} {n7 k7 : Nat} {m7 : List Md} {a8 : Option Addr} {n8 k8 : Nat} {m8 : List Md} {a9 : Option Addr} {n9 k9 : Nat} {m9 : List Md} {a10 : Option Addr} {n10 k10 : Nat} {m10 : List Md} (h : MsgOk w nm a1 n1 k1 m1 a2 n2 k2 m2 a3 n3 k3 m3 a4 n4 k4 m4 a5 n5 k5 m5 a6 n6 k6 m6 a7 n7 k7 m7 a8 n8 k8 m8 a9 n9 k9 m9 a10 n10 k10 m10) (hb : Below w.heap.size w w') : MsgOk w' nm a1 n1 k1 m1 a2 n2 k2 m2 a3 n3 k3 m3 a4 n4 k4 m4 a5 n5 k5 m5 a6 n6 k6 m6 a7 n7 k7 m7 a8 n8 k8 m8 a9 n9 k9 m9 a10 n10 k10 m10 := by
  obtain ⟨h0, h1, h2, h3, h4, h5, h6, h7, h8, h9, h10⟩ := h
  exact ⟨h0, h1.under hb (Nat.le_refl _), h2.under hb (Nat.le_refl _), h3.under hb (Nat.le_refl _), h4.under hb (Nat.le_refl _), h5.under hb (Nat.le_refl _), h6.under hb (Nat.le_refl _), h7.under hb (Nat.le_refl _), h8.under hb (Nat.le_refl _), h9.under hb (Nat.le_refl _), h10.under hb (Nat.le_refl _)⟩

theorem MsgOk.one {w : World} {nm : ByteArray} {a1 : Option Addr} {n1 k1 : Nat} {m1 : List Md} {a2 : Option Addr} {n2 k2 : Nat} {m2 : List Md} {a3 : Option Addr} {n3 k3 : Nat} {m3 : List Md} {a4 : Option Addr} {n4 k4 : Nat} {m4 : List Md} {a5 : Option Addr} {n5 k5 : Nat} {m5 : List Md} {a6 : Option Addr} {n6 k6 : Nat} {m6 : List Md} {a7 : Option Addr} {n7 k7 : Nat} {m7 : List Md} {a8 : Option Addr} {n8 k8 : Nat} {m8 : List Md} {a9 : Option Addr} {n9 k9 : Nat} {m9 : List Md} {a10 : Option Addr} {n10 k10 : Nat} {m10 : List Md} (h : MsgOk w nm a1 n1 k1 m1 a2 n2 k2 m2 a3 n3 k3 m3 a4 n4 k4 m4 a5 n5 k5 m5 a6 n6 k6 m6 a7 n7 k7 m7 a8 n8 k8 m8 a9 n9 k9 m9 a10 n10 k10 m10) {g : Nat} (ho : Ob w g #[.string nm, .slice a1 n1 k1, .slice a2 n2 k2, .slice a3 n3 k3, .slice a4 n4 k4, .slice a5 n5 k5, .slice a6 n6 k6, .slice a7 n7 k7, .slice a8 n8 k8, .slice a9 n9 k9, .slice a10 n10 k10] 30) : Ok Try.prog w 23 (.ls (some ⟨g, 0, none⟩) 1 1 [.str nm, .ls a1 n1 k1 m1, .ls a2 n2 k2 m2, .ls a3 n3 k3 m3, .ls a4 n4 k4 m4, .ls a5 n5 k5 m5, .ls a6 n6 k6 m6, .ls a7 n7 k7 m7, .ls a8 n8 k8 m8, .ls a9 n9 k9 m9, .ls a10 n10 k10 m10]) := by
  obtain ⟨h0, h1, h2, h3, h4, h5, h6, h7, h8, h9, h10⟩ := h
  refine .ls Try.underlying23 (Nat.le_refl _) (by decide) (fun e => by cases e) (by rw [flds_msg]; rfl) (fun _ => ⟨g, 0, rfl, ho.lt, fun i m hi => ?_⟩) (fun i m F hi hF => ?_)
  · have hl : i < 11 := (List.getElem?_eq_some_iff.1 hi).1
    rw [Nat.zero_add]
    refine ho.cell i ?_
    match i, hl with
    | 0, _ => simp at hi; subst hi; rfl
    | 1, _ => simp at hi; subst hi; rfl
    | 2, _ => simp at hi; subst hi; rfl
    | 3, _ => simp at hi; subst hi; rfl
    | 4, _ => simp at hi; subst hi; rfl
    | 5, _ => simp at hi; subst hi; rfl
    | 6, _ => simp at hi; subst hi; rfl
    | 7, _ => simp at hi; subst hi; rfl
    | 8, _ => simp at hi; subst hi; rfl
    | 9, _ => simp at hi; subst hi; rfl
    | 10, _ => simp at hi; subst hi; rfl
  · have hl : i < 11 := (List.getElem?_eq_some_iff.1 hi).1
    rw [flds_msg] at hF
    match i, hl with
    | 0, _ => simp at hi hF; subst hi; subst hF; exact .str Try.underlying9 h0
    | 1, _ => simp at hi hF; subst hi; subst hF; exact h1
    | 2, _ => simp at hi hF; subst hi; subst hF; exact h2
    | 3, _ => simp at hi hF; subst hi; subst hF; exact h3
    | 4, _ => simp at hi hF; subst hi; subst hF; exact h4
    | 5, _ => simp at hi hF; subst hi; subst hF; exact h5
    | 6, _ => simp at hi hF; subst hi; subst hF; exact h6
    | 7, _ => simp at hi hF; subst hi; subst hF; exact h7
    | 8, _ => simp at hi hF; subst hi; subst hF; exact h8
    | 9, _ => simp at hi hF; subst hi; subst hF; exact h9
    | 10, _ => simp at hi hF; subst hi; subst hF; exact h10

set_option maxRecDepth 100000 in
theorem fmessage_any (nm : ByteArray) (a1 : Option Addr) (n1 k1 : Nat)(m1 : List Md) (a2 : Option Addr) (n2 k2 : Nat) (m2 : List Md) (a3 : Option Addr) (n3 k3 : Nat) (m3 : List Md) (a4 : Option Addr) (n4 k4 : Nat) (m4 : List Md) (a5 : Option Addr) (n5 k5 : Nat) (m5 : List Md) (a6 : Option Addr) (n6 k6 : Nat) (m6 : List Md) (a7 : Option Addr) (n7 k7 : Nat) (m7 : List Md) (a8 : Option Addr) (n8 k8 : Nat) (m8 : List Md) (a9 : Option Addr) (n9 k9 : Nat) (m9 : List Md) (a10 : Option Addr) (n10 k10 : Nat)(m10 : List Md) (w : World) :
    Calls Try.prog 6 #[.agg #[.string nm, .slice a1 n1 k1, .slice a2 n2 k2, .slice a3 n3 k3, .slice a4 n4 k4, .slice a5 n5 k5, .slice a6 n6 k6, .slice a7 n7 k7, .slice a8 n8 k8, .slice a9 n9 k9, .slice a10 n10 k10]] w fun e w' => ∃ g, e = .returned (.agg #[.string ⟨#[]⟩, .string ⟨#[]⟩, .slice none 0 0, .slice none 0 0, .slice (some ⟨g, 0, none⟩) 1 1, .slice none 0 0, .slice none 0 0, .slice none 0 0, .string ⟨#[]⟩, .slice none 0 0, .slice none 0 0]) ∧ Ob w' g #[.string nm, .slice a1 n1 k1, .slice a2 n2 k2, .slice a3 n3 k3, .slice a4 n4 k4, .slice a5 n5 k5, .slice a6 n6 k6, .slice a7 n7 k7, .slice a8 n8 k8, .slice a9 n9 k9, .slice a10 n10 k10] 30 ∧ Below w.heap.size w w' := by
  go_enter Try.func6, Try.ntmps6
  go_wp2
  refine bodyPost_ret (v := .agg #[.string ⟨#[]⟩, .string ⟨#[]⟩, .slice none 0 0, .slice none 0 0, .slice (some ⟨w.heap.size + 1 + 1, 0, none⟩) 1 1, .slice none 0 0, .slice none 0 0, .slice none 0 0, .string ⟨#[]⟩, .slice none 0 0, .slice none 0 0]) (by simp [results, Try.results6, go_sem]) rfl ⟨_, rfl, ?_, ?_⟩
  · have := Ob.new ((w.alloc (.cells #[.string nm, .slice a1 n1 k1, .slice a2 n2 k2, .slice a3 n3 k3, .slice a4 n4 k4, .slice a5 n5 k5, .slice a6 n6 k6, .slice a7 n7 k7, .slice a8 n8 k8, .slice a9 n9 k9, .slice a10 n10 k10] 30)).alloc (.cells #[.string ⟨#[]⟩, .string ⟨#[]⟩, .slice none 0 0, .slice none 0 0, .slice (some ⟨w.heap.size + 1 + 1, 0, none⟩) 1 1, .slice none 0 0, .slice none 0 0, .slice none 0 0, .string ⟨#[]⟩, .slice none 0 0, .slice none 0 0] 36)) #[.string nm, .slice a1 n1 k1, .slice a2 n2 k2, .slice a3 n3 k3, .slice a4 n4 k4, .slice a5 n5 k5, .slice a6 n6 k6, .slice a7 n7 k7, .slice a8 n8 k8, .slice a9 n9 k9, .slice a10 n10 k10] 30
    simpa using this
  · exact (((Below.refl _ _).alloc (Nat.le_refl _) _).alloc (by simp) _).alloc (by simp; omega) _

theorem wpAny_restE {P : Program} {ops : Array Oper} {Q : Exit → Act → World → Prop} {fuel : Nat} {listed : Array Bool} {a : Act} {w : World} (n : Nat) (hf : (ops.toList.drop n).length = fuel) (hs : Region.noSelect ops = true) (hB : Region.lexFrom .any ops (ops.toList.drop n).length n listed = true)
    (h : wpQuiet P ops (fun w' => ∃ x : Ext w, w' = x.val) (fun a' => ∀ w', (∃ x : Ext w, w' = x.val) → Q .normal a' w') (ops.toList.drop n) a) : wpAny P .any ops Q fuel listed a w := by
  subst hf
  refine wpAny_of_quiet (C := fun w' => ∃ x : Ext w, w' = x.val) (Q := fun a' => ∀ w', (∃ x : Ext w, w' = x.val) → Q .normal a' w') (fun _ _ h h' => h' _ h) _ _ _ _ ⟨⟨w, Below.refl _ _⟩, rfl⟩ ?_
  exact wpAnyQ_lex hs _ n _ _ (fun j => by rw [List.getElem?_drop]; simp) hB h

end Go.Proofs.Ytjbppjemilijdaa

/- Copies of lists that are empty, and of bytes that are none. -/
namespace Go.Proofs.Ytjbppjemilijdaa
open Go.RowKit
set_option linter.unusedVariables false
set_option linter.unusedSimpArgs false

set_option maxHeartbeats 1000000 in
theorem peach0_str (a : Option Addr) (c : Nat) (f : Value) (w : World) :
    Calls Try.prog 85 #[.slice a 0 c, f] w fun e w' => e = .returned (.slice none 0 0) ∧ w = w' := by
  go_enter Try.func85, Try.ntmps85
  go_wp2
  go_loopw [5, 10] (fun u v wr => u = .slice none 0 0 ∧ v = .int .i64 0 ∧ w = wr) (fun _ _ _ => 0)
  case atStart => exact ⟨rfl, rfl, rfl⟩
  case round =>
    obtain ⟨rfl, rfl, rfl⟩ := hrel
    go_wp2
    go_ret
    exact ⟨rfl, rfl⟩

set_option maxHeartbeats 1000000 in
theorem peach0_int (a : Option Addr) (c : Nat) (f : Value) (w : World) :
    Calls Try.prog 86 #[.slice a 0 c, f] w fun e w' => e = .returned (.slice none 0 0) ∧ w = w' := by
  go_enter Try.func86, Try.ntmps86
  go_wp2
  go_loopw [5, 10] (fun u v wr => u = .slice none 0 0 ∧ v = .int .i64 0 ∧ w = wr) (fun _ _ _ => 0)
  case atStart => exact ⟨rfl, rfl, rfl⟩
  case round =>
    obtain ⟨rfl, rfl, rfl⟩ := hrel
    go_wp2
    go_ret
    exact ⟨rfl, rfl⟩

set_option maxHeartbeats 1000000 in
theorem peach0_fld (a : Option Addr) (c : Nat) (f : Value) (w : World) :
    Calls Try.prog 60 #[.slice a 0 c, f] w fun e w' => e = .returned (.slice none 0 0) ∧ w = w' := by
  go_enter Try.func60, Try.ntmps60
  go_wp2
  go_loopw [5, 10] (fun u v wr => u = .slice none 0 0 ∧ v = .int .i64 0 ∧ w = wr) (fun _ _ _ => 0)
  case atStart => exact ⟨rfl, rfl, rfl⟩
  case round =>
    obtain ⟨rfl, rfl, rfl⟩ := hrel
    go_wp2
    go_ret
    exact ⟨rfl, rfl⟩

set_option maxHeartbeats 1000000 in
theorem peach0_enm (a : Option Addr) (c : Nat) (f : Value) (w : World) :
    Calls Try.prog 56 #[.slice a 0 c, f] w fun e w' => e = .returned (.slice none 0 0) ∧ w = w' := by
  go_enter Try.func56, Try.ntmps56
  go_wp2
  go_loopw [5, 10] (fun u v wr => u = .slice none 0 0 ∧ v = .int .i64 0 ∧ w = wr) (fun _ _ _ => 0)
  case atStart => exact ⟨rfl, rfl, rfl⟩
  case round =>
    obtain ⟨rfl, rfl, rfl⟩ := hrel
    go_wp2
    go_ret
    exact ⟨rfl, rfl⟩

set_option maxHeartbeats 1000000 in
theorem peach0_rng (a : Option Addr) (c : Nat) (f : Value) (w : World) :
    Calls Try.prog 66 #[.slice a 0 c, f] w fun e w' => e = .returned (.slice none 0 0) ∧ w = w' := by
  go_enter Try.func66, Try.ntmps66
  go_wp2
  go_loopw [5, 10] (fun u v wr => u = .slice none 0 0 ∧ v = .int .i64 0 ∧ w = wr) (fun _ _ _ => 0)
  case atStart => exact ⟨rfl, rfl, rfl⟩
  case round =>
    obtain ⟨rfl, rfl, rfl⟩ := hrel
    go_wp2
    go_ret
    exact ⟨rfl, rfl⟩

set_option maxHeartbeats 1000000 in
theorem peach0_one (a : Option Addr) (c : Nat) (f : Value) (w : World) :
    Calls Try.prog 68 #[.slice a 0 c, f] w fun e w' => e = .returned (.slice none 0 0) ∧ w = w' := by
  go_enter Try.func68, Try.ntmps68
  go_wp2
  go_loopw [5, 10] (fun u v wr => u = .slice none 0 0 ∧ v = .int .i64 0 ∧ w = wr) (fun _ _ _ => 0)
  case atStart => exact ⟨rfl, rfl, rfl⟩
  case round =>
    obtain ⟨rfl, rfl, rfl⟩ := hrel
    go_wp2
    go_ret
    exact ⟨rfl, rfl⟩

set_option maxHeartbeats 1000000 in
theorem peach0_srv (a : Option Addr) (c : Nat) (f : Value) (w : World) :
    Calls Try.prog 58 #[.slice a 0 c, f] w fun e w' => e = .returned (.slice none 0 0) ∧ w = w' := by
  go_enter Try.func58, Try.ntmps58
  go_wp2
  go_loopw [5, 10] (fun u v wr => u = .slice none 0 0 ∧ v = .int .i64 0 ∧ w = wr) (fun _ _ _ => 0)
  case atStart => exact ⟨rfl, rfl, rfl⟩
  case round =>
    obtain ⟨rfl, rfl, rfl⟩ := hrel
    go_wp2
    go_ret
    exact ⟨rfl, rfl⟩

set_option maxHeartbeats 1000000 in
theorem peach0_msg (a : Option Addr) (c : Nat) (f : Value) (w : World) :
    Calls Try.prog 88 #[.slice a 0 c, f] w fun e w' => e = .returned (.slice none 0 0) ∧ w = w' := by
  go_enter Try.func88, Try.ntmps88
  go_wp2
  go_loopw [5, 10] (fun u v wr => u = .slice none 0 0 ∧ v = .int .i64 0 ∧ w = wr) (fun _ _ _ => 0)
  case atStart => exact ⟨rfl, rfl, rfl⟩
  case round =>
    obtain ⟨rfl, rfl, rfl⟩ := hrel
    go_wp2
    go_ret
    exact ⟨rfl, rfl⟩

set_option maxRecDepth 10000 in
theorem ptexts0 (a : Option Addr) (c : Nat) (w : World) :
    Calls Try.prog 53 #[.slice a 0 c] w fun e w' => e = .returned (.slice none 0 0) ∧ w = w' := by
  go_enter Try.func53, Try.ntmps53
  go_wp2_with fail
  refine Calls.mono (peach0_str a c _ w) ?_
  rintro e w1 ⟨rfl, rfl⟩
  go_wp2
  go_ret
  exact ⟨rfl, rfl⟩

set_option maxRecDepth 10000 in
theorem pplaces0 (a : Option Addr) (c : Nat) (w : World) :
    Calls Try.prog 54 #[.slice a 0 c] w fun e w' => e = .returned (.slice none 0 0) ∧ w = w' := by
  go_enter Try.func54, Try.ntmps54
  go_wp2_with fail
  refine Calls.mono (peach0_int a c _ w) ?_
  rintro e w1 ⟨rfl, rfl⟩
  go_wp2
  go_ret
  exact ⟨rfl, rfl⟩

theorem pbclone0 (w : World) :
    Calls Try.prog 62 #[.slice none 0 0] w fun e w' => e = .returned (.slice none 0 0) ∧ w = w' := by
  have hrun : ∀ w, (binOp .eql 28 (.slice none 0 0) (.slice none 0 0)).run Try.prog w = .ok (.bool true) w := fun w => by kernel_rfl
  go_enter Try.func62, Try.ntmps62
  go_wp2
  go_ret
  exact ⟨rfl, rfl⟩

theorem punknown0 (lv : Value) (w : World) :
    Calls Try.prog 63 #[.agg #[lv, .bool false], .slice none 0 0] w fun e w' => e = .returned (.slice none 0 0) ∧ Below w.heap.size w w' := by
  have HB : Hid (Below w.heap.size w (w.alloc (.cells #[lv, .bool false] 93))) := (Below.refl _ _).alloc (Nat.le_refl _) _
  go_enter Try.func63, Try.ntmps63
  go_wp2_with fail
  refine Calls.mono (pbclone0 _) ?_
  rintro e w1 ⟨rfl, rfl⟩
  go_wp2
  go_ret
  exact ⟨rfl, HB.out⟩

theorem pmsgs0 (v : Value) (w : World) :
    Calls Try.prog 55 #[.agg #[.int .i64 0, .bool false], v] w fun e w' => e = .returned (.slice none 0 0) ∧ Below w.heap.size w w' := by
  have HB : Hid (Below w.heap.size w (w.alloc (.cells #[.int .i64 0, .bool false] 93))) := (Below.refl _ _).alloc (Nat.le_refl _) _
  go_enter Try.func55, Try.ntmps55
  go_wp2
  go_ret
  exact ⟨rfl, HB.out⟩

end Go.Proofs.Ytjbppjemilijdaa
