/- Put together by a program out of these texts of mine: VRa, VRb, VRc. -/
import Derived.Great.BuildSlice
import Derived.Test.YtafmoceinamcdaaGreatBunS1
import Derived.Test.YtafmoceinamcdaaGreatBunS8
import Derived.Test.YtafmoceinamcdaaGreatBunS15
import Derived.Test.YtafmoceinamcdaaGreatBunS17
import Derived.Test.YtafmoceinamcdaaGreatBunS27

namespace Go.Proofs.YtafmoceinamcdaaGreat
open Go.RowKit
set_option linter.unusedVariables false
set_option linter.unusedSimpArgs false

theorem tl_eq (a b : ByteArray) : (a.toList == b.toList) = decide (a = b) := by
  have h := str_eq (z1 := numsOf a) (z2 := numsOf b) (numsOf_byts a) (numsOf_byts b)
  rw [numsOf_str, numsOf_str] at h
  rw [h]
  by_cases e : a = b
  · subst e
    simp
  · have : numsOf a ≠ numsOf b := fun h => e (by rw [← numsOf_str a, ← numsOf_str b, h])
    simp [e, this]

def sfind (L : Sl) (F : ByteArray) : Nat := L.findIdx (fun x => decide (x.1 = F))

theorem slook_find (F : ByteArray) : ∀ L : Sl, slook L F = (L[sfind L F]?).map (·.2)
  | [] => by simp [slook, sfind]
  | x :: L => by
    have ih := slook_find F L
    unfold slook sfind at *
    rw [List.find?_cons, List.findIdx_cons]
    by_cases h : x.1 = F
    · simp [h]
    · simp only [h, decide_false, cond_false, List.getElem?_cons_succ]
      exact ih

theorem sfind_eq {F : ByteArray} : ∀ {L : Sl} {k : Nat} {x : ByteArray × Int × ByteArray}, L[k]? = some x → x.1 = F → (∀ j y, j < k → L[j]? = some y → y.1 ≠ F) → sfind L F = k
  | [], k, x, h, _, _ => by simp at h
  | y :: L, 0, x, h, hF, _ => by
    simp at h
    subst h
    simp [sfind, List.findIdx_cons, hF]
  | y :: L, k + 1, x, h, hF, hn => by
    have h0 := hn 0 y (by omega) rfl
    have ih := sfind_eq (L := L) (k := k) (by simpa using h) hF (fun j z hj hz => hn (j + 1) z (by omega) (by simpa using hz))
    unfold sfind at *
    rw [List.findIdx_cons]
    simp [h0, ih]

theorem sfind_none {F : ByteArray} {L : Sl} (h : ∀ j y, j < L.length → L[j]? = some y → y.1 ≠ F) : sfind L F = L.length := by
  unfold sfind
  rw [List.findIdx_eq_length]
  intro x hx
  obtain ⟨j, hj⟩ := List.getElem?_of_mem hx
  have := h j x (List.getElem?_eq_some_iff.1 hj).1 hj
  simpa using this

def fidx (L : Sl) (F : ByteArray) : Int := if sfind L F < L.length then (sfind L F : Int) else -1

def Sr (B0 : Nat) (w : World) (b : Nat) : Prop := B0 ≤ b ∧ ∃ cs, w.heap[b]? = some (.cells cs 50 (0, 0)) ∨ w.heap[b]? = some (.cells cs 47 (0, 0))

def Fr (B0 : Nat) (w w' : World) : Prop := Fx (Sr B0 w) w w'

theorem Fr.refl (B0 : Nat) (w : World) : Fr B0 w w := Fx.refl _ _

theorem Fr.trans {B0 : Nat} {w w1 w2 : World} (h : Fr B0 w w1) (k : Fr B0 w1 w2) : Fr B0 w w2 :=
  ⟨k.os.trans h.os, k.tape.trans h.tape, k.output.trans h.output, Nat.le_trans h.size k.size, fun i hi hn => by
    have h1 := h.block i hi hn
    refine (k.block i (Nat.lt_of_lt_of_le hi h.size) ?_).trans h1
    rintro ⟨h2, cs, h3⟩
    rw [h1] at h3
    exact hn ⟨h2, cs, h3⟩⟩

theorem Fr.of_below {B0 : Nat} {w w' : World} (h : Below w.heap.size w w') : Fr B0 w w' := Fx.of_below h

theorem Fr.ob {B0 : Nat} {w w' : World} (h : Fr B0 w w') {b : Nat} {c : Array Value} {T : TypeId} (ho : Ob w b c T) (h1 : T ≠ 50) (h2 : T ≠ 47) : Ob w' b c T :=
  Fx.ob h ho (by
    rintro ⟨_, cs, h3⟩
    rw [ho.eq] at h3
    rcases h3 with h3 | h3
    · cases h3; exact h1 rfl
    · cases h3; exact h2 rfl)

theorem Fr.to_below {B0 : Nat} {w w' : World} (h : Fr B0 w w') (hB : B0 ≤ w.heap.size) : Below B0 w w' := Fx.to_below h hB (fun _ e => e.1)

structure Rp (w : World) (B0 gp : Nat) (fv : Value) (hm : ByteArray) (st : Sl × Option ByteArray) : Prop where
  ge : B0 ≤ gp
  blk : ∃ sv nm e xs, Ob w gp #[sv, fv, .string nm, .int .i64 e, .string hm] 50 ∧ (st.2 = none → e = 0) ∧ (∀ F, st.2 = some F → e = 140 ∧ nm = F) ∧ w.ownsRow B0 47 31 sv st.1.length xs ∧ (∀ u ∈ xs, u.oneCell' = true) ∧ ∀ i x, st.1[i]? = some x → xs[i * 31]? = some (.string x.1) ∧ xs[i * 31 + 1]? = some (.int .i64 x.2.1) ∧ xs[i * 31 + 2]? = some (.string x.2.2)

theorem Rp.below {w w' : World} {B0 gp : Nat} {fv : Value} {hm : ByteArray} {st : Sl × Option ByteArray} (h : Rp w B0 gp fv hm st) (hb : Below w.heap.size w w') : Rp w' B0 gp fv hm st := by
  obtain ⟨sv, nm, e, xs, h1, h2, h3, h4, h6, h5⟩ := h.blk
  exact ⟨h.ge, sv, nm, e, xs, h1.below hb h1.lt, h2, h3, own_below h4 hb, h6, h5⟩

set_option maxRecDepth 100000 in
set_option maxHeartbeats 4000000 in
theorem rfind_any (w : World) (B0 gp : Nat) (sv fv : Value) (nm : ByteArray) (e : Int) (hm : ByteArray) (hb : Hid (Ob w gp #[sv, fv, .string nm, .int .i64 e, .string hm] 50)) (L : Sl) (xs : List Value) (ho : Hid (w.ownsRow B0 47 31 sv L.length xs)) (hx : Hid (∀ i x, L[i]? = some x → xs[i * 31]? = some (.string x.1))) (F : ByteArray) (hL : L.length ≤ 1000000000) :
    Calls Tryz.prog 15 #[.pointer (some ⟨gp, 0, none⟩), .string F] w fun e w' => e = .returned (.int .i64 (fidx L F)) ∧ w = w' := by
  have b0 : w.cell? ⟨gp, 0, none⟩ = some sv := hb.out.cell 0 rfl
  have bl := hb.out.lt
  have HL : Hid (L.length ≤ 1000000000) := hL
  clear hb hL
  rcases ho.out.2 with ⟨rfl, h0⟩ | ⟨g, cap, cur, rfl, hg0, hg, hnc, hcm, hcs, hct⟩
  · have hL0 : L = [] := List.eq_nil_of_length_eq_zero h0
    subst hL0
    have E : Hid (fidx [] F = -1) := by simp [fidx, Hid]
    go_enter Tryz.func15, Tryz.ntmps15
    go_wp2
    go_loopw [11] (fun v wr => v = .int .i64 0 ∧ w = wr) (fun _ _ => 0)
    case atStart => exact ⟨rfl, rfl⟩
    case round =>
      obtain ⟨rfl, rfl⟩ := hrel
      go_wp2
      go_ret
      exact ⟨by rw [E.out]; rfl, rfl⟩
  · have hcell : ∀ k, k < L.length → ∃ x, L[k]? = some x ∧ w.cell? ⟨g, k * 31, none⟩ = some (.string x.1) := fun k hk => by
      refine ⟨L[k], List.getElem?_eq_getElem hk, ?_⟩
      have h1 := hx.out k L[k] (List.getElem?_eq_getElem hk)
      rw [← hct, List.getElem?_take_of_lt (by omega)] at h1
      exact (Ob.mk hg).cell (k * 31) (by simpa using h1)
    have HC : Hid _ := hcell
    have hgl : g < w.heap.size := (Array.getElem?_eq_some_iff.1 hg).1
    have hlm := HL.out
    clear ho hx hg hnc hcm hcs hct hcell
    go_enter Tryz.func15, Tryz.ntmps15
    go_wp2
    go_loopw [11] (fun v wr => ∃ k : Nat, v = .int .i64 (k : Int) ∧ k ≤ L.length ∧ Hid (∀ j y, j < k → L[j]? = some y → y.1 ≠ F) ∧ w = wr) (fun v _ => L.length - (intOf v).toNat)
    case atStart => exact ⟨0, rfl, Nat.zero_le _, fun j y hj => absurd hj (by omega), rfl⟩
    case round =>
      obtain ⟨k, rfl, hk, HJ, rfl⟩ := hrel
      by_cases hlk : k < L.length
      · obtain ⟨x, hxk, hc⟩ := HC.out k hlk
        have HX : Hid _ := hxk
        by_cases hF : x.1 = F
        · have E : Hid (fidx L F = (k : Int)) := by
            have h1 := sfind_eq HX.out hF HJ.out
            show _ = _
            unfold fidx
            rw [h1, if_pos hlk]
          have heq : (x.1.toList == F.toList) = true := by rw [tl_eq]; exact decide_eq_true hF
          generalize x.1 = X at hc heq
          clear hF hxk HJ
          go_wp2
          go_ret
          exact ⟨by rw [E.out]; rfl, rfl⟩
        · have heq : (x.1.toList == F.toList) = false := by rw [tl_eq]; exact decide_eq_false hF
          have HJ' : Hid (∀ j y, j < k + 1 → L[j]? = some y → y.1 ≠ F) := fun j y hj hy => by
            by_cases hjk : j = k
            · subst hjk
              rw [HX.out] at hy
              cases hy
              exact hF
            · exact HJ.out j y (by omega) hy
          generalize x.1 = X at hc heq
          clear hxk HJ
          go_wp2
          go_roundw
          case rel => exact ⟨k + 1, by go_num, by omega, HJ', by first | rfl | trivial⟩
          case measure => simp [intOf]; omega
      · obtain rfl : k = L.length := by omega
        have E : Hid (fidx L F = -1) := by
          have h1 := sfind_none HJ.out
          show _ = _
          unfold fidx
          rw [h1, if_neg (by omega)]
        go_wp2
        go_ret
        exact ⟨by rw [E.out]; rfl, rfl⟩

theorem obR5 {w : World} {b : Nat} {T : TypeId} {x0 x1 x2 x3 x4 : Value} (h : Ob w b #[x0, x1, x2, x3, x4] T) : (w.cell? ⟨b, 0, none⟩ = some x0 ∧ w.cell? ⟨b, 1, none⟩ = some x1 ∧ w.cell? ⟨b, 2, none⟩ = some x2 ∧ w.cell? ⟨b, 3, none⟩ = some x3 ∧ w.cell? ⟨b, 4, none⟩ = some x4) ∧ (w.frozen? ⟨b, 0, none⟩ = false ∧ w.frozen? ⟨b, 1, none⟩ = false ∧ w.frozen? ⟨b, 2, none⟩ = false ∧ w.frozen? ⟨b, 3, none⟩ = false ∧ w.frozen? ⟨b, 4, none⟩ = false) ∧ b < w.heap.size :=
  ⟨⟨h.cell 0 rfl, h.cell 1 rfl, h.cell 2 rfl, h.cell 3 rfl, h.cell 4 rfl⟩, ⟨h.frozen 0, h.frozen 1, h.frozen 2, h.frozen 3, h.frozen 4⟩, h.lt⟩
theorem ob31 {w : World} {b : Nat} {T : TypeId} {x0 x1 x2 x3 x4 x5 x6 x7 x8 x9 x10 x11 x12 x13 x14 x15 x16 x17 x18 x19 x20 x21 x22 x23 x24 x25 x26 x27 x28 x29 x30 : Value} (h : Ob w b #[x0, x1, x2, x3, x4, x5, x6, x7, x8, x9, x10, x11, x12, x13, x14, x15, x16, x17, x18, x19, x20, x21, x22, x23, x24, x25, x26, x27, x28, x29, x30] T) : (w.cell? ⟨b, 0, none⟩ = some x0 ∧ w.cell? ⟨b, 1, none⟩ = some x1 ∧ w.cell? ⟨b, 2, none⟩ = some x2 ∧ w.cell? ⟨b, 3, none⟩ = some x3 ∧ w.cell? ⟨b, 4, none⟩ = some x4 ∧ w.cell? ⟨b, 5, none⟩ = some x5 ∧ w.cell? ⟨b, 6, none⟩ = some x6 ∧ w.cell? ⟨b, 7, none⟩ = some x7 ∧ w.cell? ⟨b, 8, none⟩ = some x8 ∧ w.cell? ⟨b, 9, none⟩ = some x9 ∧ w.cell? ⟨b, 10, none⟩ = some x10 ∧ w.cell? ⟨b, 11, none⟩ = some x11 ∧ w.cell? ⟨b, 12, none⟩ = some x12 ∧ w.cell? ⟨b, 13, none⟩ = some x13 ∧ w.cell? ⟨b, 14, none⟩ = some x14 ∧ w.cell? ⟨b, 15, none⟩ = some x15 ∧ w.cell? ⟨b, 16, none⟩ = some x16 ∧ w.cell? ⟨b, 17, none⟩ = some x17 ∧ w.cell? ⟨b, 18, none⟩ = some x18 ∧ w.cell? ⟨b, 19, none⟩ = some x19 ∧ w.cell? ⟨b, 20, none⟩ = some x20 ∧ w.cell? ⟨b, 21, none⟩ = some x21 ∧ w.cell? ⟨b, 22, none⟩ = some x22 ∧ w.cell? ⟨b, 23, none⟩ = some x23 ∧ w.cell? ⟨b, 24, none⟩ = some x24 ∧ w.cell? ⟨b, 25, none⟩ = some x25 ∧ w.cell? ⟨b, 26, none⟩ = some x26 ∧ w.cell? ⟨b, 27, none⟩ = some x27 ∧ w.cell? ⟨b, 28, none⟩ = some x28 ∧ w.cell? ⟨b, 29, none⟩ = some x29 ∧ w.cell? ⟨b, 30, none⟩ = some x30) ∧ (w.frozen? ⟨b, 0, none⟩ = false ∧ w.frozen? ⟨b, 1, none⟩ = false ∧ w.frozen? ⟨b, 2, none⟩ = false ∧ w.frozen? ⟨b, 3, none⟩ = false ∧ w.frozen? ⟨b, 4, none⟩ = false ∧ w.frozen? ⟨b, 5, none⟩ = false ∧ w.frozen? ⟨b, 6, none⟩ = false ∧ w.frozen? ⟨b, 7, none⟩ = false ∧ w.frozen? ⟨b, 8, none⟩ = false ∧ w.frozen? ⟨b, 9, none⟩ = false ∧ w.frozen? ⟨b, 10, none⟩ = false ∧ w.frozen? ⟨b, 11, none⟩ = false ∧ w.frozen? ⟨b, 12, none⟩ = false ∧ w.frozen? ⟨b, 13, none⟩ = false ∧ w.frozen? ⟨b, 14, none⟩ = false ∧ w.frozen? ⟨b, 15, none⟩ = false ∧ w.frozen? ⟨b, 16, none⟩ = false ∧ w.frozen? ⟨b, 17, none⟩ = false ∧ w.frozen? ⟨b, 18, none⟩ = false ∧ w.frozen? ⟨b, 19, none⟩ = false ∧ w.frozen? ⟨b, 20, none⟩ = false ∧ w.frozen? ⟨b, 21, none⟩ = false ∧ w.frozen? ⟨b, 22, none⟩ = false ∧ w.frozen? ⟨b, 23, none⟩ = false ∧ w.frozen? ⟨b, 24, none⟩ = false ∧ w.frozen? ⟨b, 25, none⟩ = false ∧ w.frozen? ⟨b, 26, none⟩ = false ∧ w.frozen? ⟨b, 27, none⟩ = false ∧ w.frozen? ⟨b, 28, none⟩ = false ∧ w.frozen? ⟨b, 29, none⟩ = false ∧ w.frozen? ⟨b, 30, none⟩ = false) ∧ b < w.heap.size :=
  ⟨⟨h.cell 0 rfl, h.cell 1 rfl, h.cell 2 rfl, h.cell 3 rfl, h.cell 4 rfl, h.cell 5 rfl, h.cell 6 rfl, h.cell 7 rfl, h.cell 8 rfl, h.cell 9 rfl, h.cell 10 rfl, h.cell 11 rfl, h.cell 12 rfl, h.cell 13 rfl, h.cell 14 rfl, h.cell 15 rfl, h.cell 16 rfl, h.cell 17 rfl, h.cell 18 rfl, h.cell 19 rfl, h.cell 20 rfl, h.cell 21 rfl, h.cell 22 rfl, h.cell 23 rfl, h.cell 24 rfl, h.cell 25 rfl, h.cell 26 rfl, h.cell 27 rfl, h.cell 28 rfl, h.cell 29 rfl, h.cell 30 rfl⟩, ⟨h.frozen 0, h.frozen 1, h.frozen 2, h.frozen 3, h.frozen 4, h.frozen 5, h.frozen 6, h.frozen 7, h.frozen 8, h.frozen 9, h.frozen 10, h.frozen 11, h.frozen 12, h.frozen 13, h.frozen 14, h.frozen 15, h.frozen 16, h.frozen 17, h.frozen 18, h.frozen 19, h.frozen 20, h.frozen 21, h.frozen 22, h.frozen 23, h.frozen 24, h.frozen 25, h.frozen 26, h.frozen 27, h.frozen 28, h.frozen 29, h.frozen 30⟩, h.lt⟩

theorem infoSym : (Tryz.prog.info? 47).map (fun i => (i.zero, i.size, decide (i.bytes ≤ 1000))) = some (some (.agg #[.string ⟨#[]⟩, .int .i64 0, .string ⟨#[]⟩, .string ⟨#[]⟩, .slice none 0 0, .slice none 0 0, .slice none 0 0, .slice none 0 0, .slice none 0 0, .slice none 0 0, .slice none 0 0, .slice none 0 0, .slice none 0 0, .slice none 0 0, .string ⟨#[]⟩, .slice none 0 0, .slice none 0 0, .slice none 0 0, .string ⟨#[]⟩, .int .i64 0, .int .i64 0, .int .i64 0, .string ⟨#[]⟩, .string ⟨#[]⟩, .string ⟨#[]⟩, .bool false, .int .i64 0, .string ⟨#[]⟩, .bool false, .slice none 0 0, .slice none 0 0]), 31, true) := by kernel_rfl

theorem run_append_sym (W : World) (B0 : Nat) (hB : B0 ≤ W.heap.size) (v : Value) (m : Nat) (xs : List Value) (hown : W.ownsRow B0 47 31 v m xs) (hm : m ≤ 1000000000) (a : Nat) (cs : Array Value) (hc : cs.size = 31) (h : Ob W a cs 47) (h1 : ∀ u ∈ cs.toList, u.oneCell' = true) (ty : TypeId) :
    ∃ v' w', (Builtin.append_ #[48, 48] ty #[v, .slice (some ⟨a, 0, none⟩) 1 1]).run Tryz.prog W = .ok v' w' ∧ w'.ownsRow B0 47 31 v' (m + 1) (xs ++ cs.toList) ∧ W.grownBy w' v.ownBlock ∧ (v'.ownBlock = v.ownBlock ∨ v'.ownBlock = some W.heap.size) ∧ ∃ ad n c, v' = .slice ad n c := by
  obtain ⟨i0, hi, z1, z2, z3⟩ : ∃ i, Tryz.prog.info? 47 = some i ∧ i.zero = some (.agg #[.string ⟨#[]⟩, .int .i64 0, .string ⟨#[]⟩, .string ⟨#[]⟩, .slice none 0 0, .slice none 0 0, .slice none 0 0, .slice none 0 0, .slice none 0 0, .slice none 0 0, .slice none 0 0, .slice none 0 0, .slice none 0 0, .slice none 0 0, .string ⟨#[]⟩, .slice none 0 0, .slice none 0 0, .slice none 0 0, .string ⟨#[]⟩, .int .i64 0, .int .i64 0, .int .i64 0, .string ⟨#[]⟩, .string ⟨#[]⟩, .string ⟨#[]⟩, .bool false, .int .i64 0, .string ⟨#[]⟩, .bool false, .slice none 0 0, .slice none 0 0]) ∧ i.size = 31 ∧ i.bytes ≤ 1000 := by
    have := infoSym
    cases hq : Tryz.prog.info? 47 with
    | none => rw [hq] at this; cases this
    | some i =>
      rw [hq] at this
      have h := Option.some.inj this
      simp only [Prod.mk.injEq] at h
      exact ⟨i, rfl, h.1, h.2.1, of_decide_eq_true h.2.2⟩
  have hby : (m + 1) * i0.bytes ≤ 140737488355328 := by
    have := Nat.mul_le_mul (show m + 1 ≤ 1000000001 by omega) z3
    omega
  obtain ⟨v', w', hr, ho, hg, _, hl⟩ := run_append_own_at (P := Tryz.prog) W B0 48 ty 47 i0 _ 31 i0.bytes Tryz.underlying48 hi z1 z2 rfl rfl (by omega) v m xs hown ⟨a, 0, none⟩ 1 1 cs.toList (by simpa using hc) (fun j u hj => by
    have := h.cell j (v := u) (by simpa using hj)
    simp only [Addr.add]
    split
    · rename_i h0; rw [h0] at this; exact this
    · simpa using this) h1 (by unfold maxLen; omega) hby hB
  refine ⟨v', w', hr, ho, hg, hl, ?_⟩
  rcases ho.2 with ⟨h0, _⟩ | ⟨g, cap, cur, h0, _⟩
  · exact ⟨_, _, _, h0⟩
  · exact ⟨_, _, _, h0⟩

theorem radd_stay {hm : ByteArray} {L : Sl} {F G : ByteArray} {kd : Int} : radd hm (L, some G) (F, kd) = (L, some G) := rfl

theorem radd_new {hm : ByteArray} {L : Sl} {F : ByteArray} {kd : Int} (h : slook L F = none) : radd hm (L, none) (F, kd) = (L ++ [(F, kd, hm)], none) := by
  simp [radd, h]

theorem radd_old {hm : ByteArray} {L : Sl} {F : ByteArray} {kd k : Int} {H : ByteArray} (h : slook L F = some (k, H)) : radd hm (L, none) (F, kd) = if kd = 1 ∧ k = 1 then (L, none) else (L, some F) := by
  simp [radd, h]

theorem structSym : (match Tryz.prog.underlying 47 with | some (.struct _) => true | _ => false) = true := by kernel_rfl

theorem load_sym {V : World} {b : Nat} {A : Array Value} (hA : A.size = 31) (h : V.heap[b]? = some (.cells A 47 (0, 0))) : (loadVar 47 ⟨b, 0, none⟩).run Tryz.prog V = .ok (.agg A) V := by
  cases hq : Tryz.prog.underlying 47 with
  | none => have := structSym; rw [hq] at this; cases this
  | some d =>
    have h0 := structSym
    rw [hq] at h0
    refine run_loadVar_row V b 47 47 A (0, 0) d h hq (by cases d <;> first | rfl | cases h0) ?_
    rw [hA]
    kernel_rfl

theorem exec_load_sym {a : Act} {o : Oper} {x : Operand} {V : World} {b : Nat} {A : Array Value} (ho : o.op = .load 47 x) (hx : a.eval x = .pointer (some ⟨b, 0, none⟩)) (hA : A.size = 31) (h : V.heap[b]? = some (.cells A 47 (0, 0))) : (execOp a.eval o).run Tryz.prog V = .ok (.value (.agg A)) V := by
  unfold execOp
  simp only [ho, hx, Instr.loadAt, Instr.sureAddr, Sem.run_bind, Sem.run_pure, Result.andThen_ok, load_sym hA h]

theorem build_sym (a0 a1 a2 a3 a4 a5 a6 a7 a8 a9 a10 a11 a12 a13 a14 a15 a16 a17 a18 a19 a20 a21 a22 a23 a24 a25 a26 a27 a28 a29 a30 : Value) (w : World) : (Instr.buildSlice 48 1 #[(0, .agg #[a0, a1, a2, a3, a4, a5, a6, a7, a8, a9, a10, a11, a12, a13, a14, a15, a16, a17, a18, a19, a20, a21, a22, a23, a24, a25, a26, a27, a28, a29, a30])]).run Tryz.prog w = .ok (.slice (some ⟨w.heap.size, 0, none⟩) 1 1) (w.alloc (.cells #[a0, a1, a2, a3, a4, a5, a6, a7, a8, a9, a10, a11, a12, a13, a14, a15, a16, a17, a18, a19, a20, a21, a22, a23, a24, a25, a26, a27, a28, a29, a30] 47)) := by
  obtain ⟨i0, hi, z1, z2, z3⟩ : ∃ i, Tryz.prog.info? 47 = some i ∧ i.zero = some (.agg #[.string ⟨#[]⟩, .int .i64 0, .string ⟨#[]⟩, .string ⟨#[]⟩, .slice none 0 0, .slice none 0 0, .slice none 0 0, .slice none 0 0, .slice none 0 0, .slice none 0 0, .slice none 0 0, .slice none 0 0, .slice none 0 0, .slice none 0 0, .string ⟨#[]⟩, .slice none 0 0, .slice none 0 0, .slice none 0 0, .string ⟨#[]⟩, .int .i64 0, .int .i64 0, .int .i64 0, .string ⟨#[]⟩, .string ⟨#[]⟩, .string ⟨#[]⟩, .bool false, .int .i64 0, .string ⟨#[]⟩, .bool false, .slice none 0 0, .slice none 0 0]) ∧ i.size = 31 ∧ i.bytes ≤ 1000 := by
    have := infoSym
    cases hq : Tryz.prog.info? 47 with
    | none => rw [hq] at this; cases this
    | some i =>
      rw [hq] at this
      have h := Option.some.inj this
      simp only [Prod.mk.injEq] at h
      exact ⟨i, rfl, h.1, h.2.1, of_decide_eq_true h.2.2⟩
  refine run_buildSlice w 48 47 1 _ _ i0 _ Tryz.underlying48 hi z1 (by rw [z2]; decide) (by rw [z2]; decide) ?_
  rw [z2]
  kernel_rfl

theorem wpList_buildSl {P : Program} {ops : Array Oper} {rest : List Oper} {o : Oper} {a : Act} {w w' : World} {Q : Exit → Act → World → Prop} {t : TypeId} {len : Nat} {i : Nat} {x : Operand} {u v : Value} (hg : o.guard = none) (ho : o.op = .buildSlice t len #[(i, x)]) (hu : a.eval x = u) (hr : (Instr.buildSlice t len #[(i, u)]).run P w = .ok v w') (h : wpList P ops Q rest (a.put o.dst v) w') : wpList P ops Q (o :: rest) a w :=
  wpList_plain hg fun _ hK => by
    have hp : (#[(i, x)] : Array (Nat × Operand)).map (fun (i, x) => (i, a.eval x)) = #[(i, u)] := by simp [hu]
    unfold Oper.wp execOp
    simp only [ho, hp, Sem.run_bind, hr, Result.andThen_ok]
    exact hK _ _ h

def Aend (W : World) (B0 gp : Nat) (fv : Value) (hm : ByteArray) (st' : Sl × Option ByteArray) (e : Ending) (W' : World) : Prop := e = .returned (.tuple #[]) ∧ Fr B0 W W' ∧ Rp W' B0 gp fv hm st'

set_option maxRecDepth 100000 in
set_option maxHeartbeats 16000000 in
theorem radd_walk (W : World) (B0 gp : Nat) (hBW : B0 ≤ W.heap.size) (fv : Value) (hm : ByteArray) (L : Sl) (er : Option ByteArray) (hp : Hid (Rp W B0 gp fv hm (L, er))) (hL : L.length ≤ 900000000) (F : ByteArray) (kd : Int) (c3 c4 c5 c6 c7 c8 c9 c10 c11 c12 c13 c14 c15 c16 c17 c18 c19 c20 c21 c22 c23 c24 c25 c26 c27 c28 c29 c30 : Value) (hoc : ∀ u ∈ [c3, c4, c5, c6, c7, c8, c9, c10, c11, c12, c13, c14, c15, c16, c17, c18, c19, c20, c21, c22, c23, c24, c25, c26, c27, c28, c29, c30], u.oneCell' = true) :
    Calls Tryz.prog 124 #[.pointer (some ⟨gp, 0, none⟩), .agg #[.string F, .int .i64 kd, .string ⟨#[]⟩, c3, c4, c5, c6, c7, c8, c9, c10, c11, c12, c13, c14, c15, c16, c17, c18, c19, c20, c21, c22, c23, c24, c25, c26, c27, c28, c29, c30]] W fun e W' => Aend W B0 gp fv hm (radd hm (L, er) (F, kd)) e W' := by
  obtain ⟨w1, hw1⟩ : ∃ w1, w1 = W.alloc (.cells #[.string F, .int .i64 kd, .string ⟨#[]⟩, c3, c4, c5, c6, c7, c8, c9, c10, c11, c12, c13, c14, c15, c16, c17, c18, c19, c20, c21, c22, c23, c24, c25, c26, c27, c28, c29, c30] 47) := ⟨_, rfl⟩
  have hb1 : Below W.heap.size W w1 := by rw [hw1]; exact (Below.refl _ _).alloc (Nat.le_refl _) _
  have o1 : Ob w1 W.heap.size #[.string F, .int .i64 kd, .string ⟨#[]⟩, c3, c4, c5, c6, c7, c8, c9, c10, c11, c12, c13, c14, c15, c16, c17, c18, c19, c20, c21, c22, c23, c24, c25, c26, c27, c28, c29, c30] 47 := by rw [hw1]; exact Ob.new _ _ _
  have hp1 := hp.out.below hb1
  have HP1 : Hid (Rp w1 B0 gp fv hm (L, er)) := hp1
  obtain ⟨sv, nm, e, xs, q1, h2, h3, q4, h6, h5⟩ := hp.out.blk
  have H6 : Hid (∀ u ∈ xs, u.oneCell' = true) := h6
  have h1 := q1.below hb1 q1.lt
  have h4 := own_below q4 hb1
  have HSV : Hid (∀ b, sv.ownBlock = some b → b < W.heap.size ∧ B0 ≤ b) := fun b e => ⟨(q4.lt b e).2, (q4.lt b e).1⟩
  have HGW : Hid (gp < W.heap.size) := q1.lt
  obtain ⟨b0, b1, b2, b3, b4⟩ := (obR5 h1).1
  obtain ⟨f0, f1, f2, f3, f4⟩ := (obR5 h1).2.1
  have bl := h1.lt
  obtain ⟨⟨z0, z1, z2, z3, z4, z5, z6, z7, z8, z9, z10, z11, z12, z13, z14, z15, z16, z17, z18, z19, z20, z21, z22, z23, z24, z25, z26, z27, z28, z29, z30⟩, ⟨y0, y1, y2, y3, y4, y5, y6, y7, y8, y9, y10, y11, y12, y13, y14, y15, y16, y17, y18, y19, y20, y21, y22, y23, y24, y25, y26, y27, y28, y29, y30⟩, zl⟩ := ob31 o1
  have O1 : Hid _ := o1
  have H1 : Hid (Ob w1 gp #[sv, fv, .string nm, .int .i64 e, .string hm] 50) := h1
  have H4 : Hid (w1.ownsRow B0 47 31 sv L.length xs) := h4
  have H5 : Hid (∀ i x, L[i]? = some x → xs[i * 31]? = some (.string x.1) ∧ xs[i * 31 + 1]? = some (.int .i64 x.2.1) ∧ xs[i * 31 + 2]? = some (.string x.2.2)) := h5
  have HB1 : Hid _ := hb1
  have HW1 : Hid _ := hw1
  have HL : Hid (L.length ≤ 900000000) := hL
  have HBW : Hid (B0 ≤ W.heap.size) := hBW
  have HOC : Hid (∀ u ∈ [c3, c4, c5, c6, c7, c8, c9, c10, c11, c12, c13, c14, c15, c16, c17, c18, c19, c20, c21, c22, c23, c24, c25, c26, c27, c28, c29, c30], u.oneCell' = true) := hoc
  have HGE : Hid (B0 ≤ gp) := hp1.ge
  clear q1 q4 h1 h4 h5 h6 o1 hb1 hw1 hp1 hp hL hBW hoc
  have HFR1 : Hid (Fr B0 W w1) := Fr.of_below HB1.out
  cases er with
  | some G =>
    obtain ⟨rfl, rfl⟩ := h3 G rfl
    have HE : Hid (Aend W B0 gp fv hm (radd hm (L, some nm) (F, kd)) (.returned (.tuple #[])) w1) := ⟨rfl, HFR1.out, HP1.out⟩
    clear h2 h3 z0 z1 z2 z3 z4 z5 z6 z7 z8 z9 z10 z11 z12 z13 z14 z15 z16 z17 z18 z19 z20 z21 z22 z23 z24 z25 z26 z27 z28 z29 z30 y0 y1 y2 y3 y4 y5 y6 y7 y8 y9 y10 y11 y12 y13 y14 y15 y16 y17 y18 y19 y20 y21 y22 y23 y24 y25 y26 y27 y28 y29 y30
    go_enter Tryz.func124, Tryz.ntmps124
    go_upto_region 1 with fail
    rw [← HW1.out]
    clear HW1
    go_wp2
    first
      | exact HE.out
      | (go_end0; exact HE.out)
  | none =>
    obtain rfl : e = 0 := h2 rfl
    have QF : Hid _ := rfind_any w1 B0 gp sv fv nm 0 hm H1 L xs H4 (show Hid _ from fun i x hx => (H5.out i x hx).1) F (by have := HL.out; omega)
    clear h2 h3
    go_enter Tryz.func124, Tryz.ntmps124
    go_upto_region 1 with fail
    rw [← HW1.out]
    clear HW1
    go_wp2_with fail
    refine Calls.mono QF.out ?_
    rintro e w2 ⟨rfl, rfl⟩
    clear QF
    by_cases hfl : sfind L F < L.length
    · have hfi : fidx L F = (sfind L F : Int) := by unfold fidx; rw [if_pos hfl]
      rw [hfi]
      obtain ⟨i, hi⟩ : ∃ i, i = sfind L F := ⟨_, rfl⟩
      rw [← hi] at hfl ⊢
      obtain ⟨x, hx⟩ : ∃ x, L[i]? = some x := ⟨L[i], List.getElem?_eq_getElem hfl⟩
      have hlk : slook L F = some x.2 := by rw [slook_find, ← hi, hx]; rfl
      obtain ⟨G, k, H⟩ := x
      obtain ⟨_, hx1, _⟩ := H5.out i _ hx
      obtain ⟨g, cap, cur, rfl, hg⟩ : ∃ g cap cur, sv = .slice (some ⟨g, 0, none⟩) L.length cap ∧ w1.heap[g]? = some (.cells cur 47 (0, 0)) ∧ cur.toList.take (L.length * 31) = xs := by
        rcases H4.out.2 with ⟨_, h0⟩ | ⟨g, cap, cur, h0, _, h2, _, _, _, h6⟩
        · omega
        · exact ⟨g, cap, cur, h0, h2, h6⟩
      have hc1 : w1.cell? ⟨g, i * 31 + 1, none⟩ = some (.int .i64 k) := by
        rw [← hg.2, List.getElem?_take_of_lt (by omega)] at hx1
        exact (Ob.mk hg.1).cell (i * 31 + 1) (by simpa using hx1)
      have hgl : g < w1.heap.size := (Array.getElem?_eq_some_iff.1 hg.1).1
      have hiz : (0 : Int) ≤ (i : Int) := by omega
      have hid : decide ((0 : Int) ≤ (i : Int)) = true := decide_eq_true hiz
      have HLK : Hid (slook L F = some (k, H)) := hlk
      have hill := HL.out
      clear hx hlk hx1 hg hfi hi
      by_cases hkd : kd = 1
      · subst hkd
        by_cases hk : k = 1
        · subst hk
          have HE : Hid (Aend W B0 gp fv hm (radd hm (L, none) (F, 1)) (.returned (.tuple #[])) w1) := ⟨rfl, HFR1.out, by rw [radd_old HLK.out, if_pos ⟨rfl, rfl⟩]; exact HP1.out⟩
          go_wp2
          first
            | exact HE.out
            | (go_end0; exact HE.out)
        · have hkb : (k == 1) = false := by simpa using hk
          have HE : Hid (∀ V, V = (w1.setCell ⟨gp, 2, none⟩ (.string F)).setCell ⟨gp, 3, none⟩ (.int .i64 140) → Aend W B0 gp fv hm (radd hm (L, none) (F, 1)) (.returned (.tuple #[])) V) := by
            intro V hV
            have hf : Fx (fun b => b = gp) w1 V := by rw [hV]; exact (fx1 _ _ _ _).also (fx1 _ _ _ _)
            have o : Ob V gp #[.slice (some ⟨g, 0, none⟩) L.length cap, fv, .string F, .int .i64 140, .string hm] 50 := by
              rw [hV]
              have := (H1.out.set 2 (.string F)).set 3 (.int .i64 140)
              simpa using this
            have hsr : Fr B0 w1 V := hf.mono (fun b e => by
              have e' : b = gp := e
              subst e'
              exact ⟨HGE.out, _, .inl H1.out.eq⟩)
            refine ⟨rfl, HFR1.out.trans hsr, HGE.out, .slice (some ⟨g, 0, none⟩) L.length cap, F, 140, xs, ?_⟩
            rw [radd_old HLK.out, if_neg (by exact fun h => hk h.2)]
            exact ⟨o, fun h => (by cases h), fun F' h => (by cases h; exact ⟨rfl, rfl⟩), owns_fx hf H4.out (fun b e e2 => by
              rcases H4.out.2 with ⟨h0, _⟩ | ⟨g1, cap1, cur, h0, _, h2, _⟩
              · cases h0
              · cases h0
                cases e
                have e3 : g = gp := e2
                rw [e3, H1.out.eq] at h2
                cases h2), H6.out, H5.out⟩
          go_wp2
          first
            | exact HE.out _ rfl
            | (go_end0; exact HE.out _ rfl)
      · have hkdb : (kd == 1) = false := by simpa using hkd
        have hk : ¬ (kd = 1 ∧ k = 1) := fun h => hkd h.1
        have HE : Hid (∀ V, V = (w1.setCell ⟨gp, 2, none⟩ (.string F)).setCell ⟨gp, 3, none⟩ (.int .i64 140) → Aend W B0 gp fv hm (radd hm (L, none) (F, kd)) (.returned (.tuple #[])) V) := by
          intro V hV
          have hf : Fx (fun b => b = gp) w1 V := by rw [hV]; exact (fx1 _ _ _ _).also (fx1 _ _ _ _)
          have o : Ob V gp #[.slice (some ⟨g, 0, none⟩) L.length cap, fv, .string F, .int .i64 140, .string hm] 50 := by
            rw [hV]
            have := (H1.out.set 2 (.string F)).set 3 (.int .i64 140)
            simpa using this
          have hsr : Fr B0 w1 V := hf.mono (fun b e => by
            have e' : b = gp := e
            subst e'
            exact ⟨HGE.out, _, .inl H1.out.eq⟩)
          refine ⟨rfl, HFR1.out.trans hsr, HGE.out, .slice (some ⟨g, 0, none⟩) L.length cap, F, 140, xs, ?_⟩
          rw [radd_old HLK.out, if_neg (by exact hk)]
          exact ⟨o, fun h => (by cases h), fun F' h => (by cases h; exact ⟨rfl, rfl⟩), owns_fx hf H4.out (fun b e e2 => by
            rcases H4.out.2 with ⟨h0, _⟩ | ⟨g1, cap1, cur, h0, _, h2, _⟩
            · cases h0
            · cases h0
              cases e
              have e3 : g = gp := e2
              rw [e3, H1.out.eq] at h2
              cases h2), H6.out, H5.out⟩
        go_wp2
        first
          | exact HE.out _ rfl
          | (go_end0; exact HE.out _ rfl)
    · have hfi : fidx L F = -1 := by unfold fidx; rw [if_neg hfl]
      rw [hfi]
      have HLK : Hid (slook L F = none) := by
        show _ = _
        rw [slook_find, List.getElem?_eq_none (by omega)]
        rfl
      clear hfl hfi
      obtain ⟨w3, hw3⟩ : ∃ w3, w3 = w1.setCell ⟨W.heap.size, 2, none⟩ (.string hm) := ⟨_, rfl⟩
      have hf3 : Fx (fun b => b = W.heap.size) w1 w3 := by rw [hw3]; exact fx1 _ _ _ _
      have o3 : Ob w3 W.heap.size #[.string F, .int .i64 kd, .string hm, c3, c4, c5, c6, c7, c8, c9, c10, c11, c12, c13, c14, c15, c16, c17, c18, c19, c20, c21, c22, c23, c24, c25, c26, c27, c28, c29, c30] 47 := by rw [hw3]; have := O1.out.set 2 (.string hm); simpa using this
      have p3 : Ob w3 gp #[sv, fv, .string nm, .int .i64 0, .string hm] 50 := hf3.ob H1.out (by have := HGW.out; omega)
      have r3 : w3.ownsRow B0 47 31 sv L.length xs := owns_fx hf3 H4.out (fun b e e2 => by
        have := (HSV.out b e).1
        have e3 : b = W.heap.size := e2
        omega)
      have fr3 : Fr B0 W w3 := HFR1.out.trans (hf3.mono (fun b e => by
        have e' : b = W.heap.size := e
        subst e'
        exact ⟨HBW.out, _, .inr O1.out.eq⟩))
      have HW3 : Hid _ := hw3
      obtain ⟨A, hA⟩ : ∃ A : Array Value, A = #[.string F, .int .i64 kd, .string hm, c3, c4, c5, c6, c7, c8, c9, c10, c11, c12, c13, c14, c15, c16, c17, c18, c19, c20, c21, c22, c23, c24, c25, c26, c27, c28, c29, c30] := ⟨_, rfl⟩
      have HA : Hid (A = #[.string F, .int .i64 kd, .string hm, c3, c4, c5, c6, c7, c8, c9, c10, c11, c12, c13, c14, c15, c16, c17, c18, c19, c20, c21, c22, c23, c24, c25, c26, c27, c28, c29, c30]) := hA
      rw [← hA] at o3
      have HAS : Hid (A.size = 31) := by rw [hA]; rfl
      clear hA
      go_upto_region 7 with fail
      rw [← HW3.out]
      clear HW3 hw3 hf3 b0 b1 b2 b3 b4 f0 f1 f2 f3 f4 bl zl z0 z1 z2 z3 z4 z5 z6 z7 z8 z9 z10 z11 z12 z13 z14 z15 z16 z17 z18 z19 z20 z21 z22 z23 z24 z25 z26 z27 z28 z29 z30 y0 y1 y2 y3 y4 y5 y6 y7 y8 y9 y10 y11 y12 y13 y14 y15 y16 y17 y18 y19 y20 y21 y22 y23 y24 y25 y26 y27 y28 y29 y30
      refine wp_region_heldG 10 (S := fun V => Hid (Ob V gp #[sv, fv, .string nm, .int .i64 0, .string hm] 50 ∧ Ob V W.heap.size A 47)) (by kernel_rfl) ?_
      obtain ⟨w4, hw4⟩ : ∃ w4, w4 = w3.drew := ⟨_, rfl⟩
      have hb4 : Below w3.heap.size w3 w4 := by rw [hw4]; exact (Below.refl _ _).drew
      rw [← hw4]
      have P4 : Hid _ := p3.below hb4 p3.lt
      have O4 : Hid _ := o3.below hb4 o3.lt
      have R4 : Hid _ := own_below r3 hb4
      have FR4 : Hid (Fr B0 W w4) := fr3.trans (Fr.of_below hb4)
      have HS0 : Hid (Ob w4 gp #[sv, fv, .string nm, .int .i64 0, .string hm] 50 ∧ Ob w4 W.heap.size A 47) := ⟨P4.out, O4.out⟩
      clear hw4 hb4 p3 o3 r3 fr3
      refine wpAnyG_take (i := 0) (v := ?_) rfl (by kernel_rfl) (by kernel_rfl) (by kernel_rfl) (by kernel_rfl) (fun _ _ _ h => h) (Or.inl ⟨by rfl, ?_⟩) HS0.out ?_
      rotate_left
      · rintro V HV
        go_simp
        try with_reducible rfl
      (try simp only [List.getElem_toArray, List.getElem_cons_succ, List.getElem_cons_zero, Act.put, List.setIfInBounds_toArray, List.set_cons_zero, List.set_cons_succ])
      refine wpAnyG_take (i := 1) (v := ?_) rfl (by kernel_rfl) (by kernel_rfl) (by kernel_rfl) (by kernel_rfl) (fun _ _ _ h => h) (Or.inl ⟨by rfl, ?_⟩) HS0.out ?_
      rotate_left
      · rintro V HV
        go_simp
        try with_reducible rfl
      (try simp only [List.getElem_toArray, List.getElem_cons_succ, List.getElem_cons_zero, Act.put, List.setIfInBounds_toArray, List.set_cons_zero, List.set_cons_succ])
      refine wpAnyG_take (i := 2) (v := ?_) rfl (by kernel_rfl) (by kernel_rfl) (by kernel_rfl) (by kernel_rfl) (fun _ _ _ h => h) (Or.inl ⟨by rfl, ?_⟩) HS0.out ?_
      rotate_left
      · rintro V HV
        go_simp
        try with_reducible rfl
      (try simp only [List.getElem_toArray, List.getElem_cons_succ, List.getElem_cons_zero, Act.put, List.setIfInBounds_toArray, List.set_cons_zero, List.set_cons_succ])
      refine wpAnyG_take (i := 3) (v := ?_) rfl (by kernel_rfl) (by kernel_rfl) (by kernel_rfl) (by kernel_rfl) (fun _ _ _ h => h) (Or.inl ⟨by rfl, ?_⟩) HS0.out ?_
      rotate_left
      · rintro V HV
        go_simp
        try with_reducible rfl
      (try simp only [List.getElem_toArray, List.getElem_cons_succ, List.getElem_cons_zero, Act.put, List.setIfInBounds_toArray, List.set_cons_zero, List.set_cons_succ])
      refine wpAnyG_take (i := 4) (v := ?_) rfl (by kernel_rfl) (by kernel_rfl) (by kernel_rfl) (by kernel_rfl) (fun _ _ _ h => h) (Or.inl ⟨by rfl, ?_⟩) HS0.out ?_
      rotate_left
      · rintro V HV
        have z1 := HV.out.1.cell 0 rfl
        have zl := HV.out.1.lt
        go_simp
        try with_reducible rfl
      (try simp only [List.getElem_toArray, List.getElem_cons_succ, List.getElem_cons_zero, Act.put, List.setIfInBounds_toArray, List.set_cons_zero, List.set_cons_succ])
      refine wpAnyG_take (i := 5) (v := ?_) rfl (by kernel_rfl) (by kernel_rfl) (by kernel_rfl) (by kernel_rfl) (fun _ _ _ h => h) (Or.inl ⟨by rfl, ?_⟩) HS0.out ?_
      rotate_left
      · rintro V HV
        refine exec_load_sym (x := .tmp 3) ?_ ?_ HAS.out HV.out.2.eq
        · rfl
        · rfl
      (try simp only [List.getElem_toArray, List.getElem_cons_succ, List.getElem_cons_zero, Act.put, List.setIfInBounds_toArray, List.set_cons_zero, List.set_cons_succ])
      refine wpAnyG_all (rs := [6]) (by kernel_rfl) (by simp) ?_
      intro i hi
      obtain rfl : i = 6 := by simpa using hi
      clear hi
      refine wpOp_listV rfl ?_
      intro Q' hQ'
      have HQ : Hid _ := hQ'
      clear hQ'
      obtain ⟨w5, hw5⟩ : ∃ w5, w5 = w4.alloc (.cells A 47) := ⟨_, rfl⟩
      have hb5 : Below w4.heap.size w4 w5 := by rw [hw5]; exact (Below.refl _ _).alloc (Nat.le_refl _) _
      have n5 : Ob w5 w4.heap.size A 47 := by rw [hw5]; exact Ob.new _ _ _
      have P5 := P4.out.below hb5 P4.out.lt
      have O5 := O4.out.below hb5 O4.out.lt
      have R5 := own_below R4.out hb5
      have FR5 : Fr B0 W w5 := FR4.out.trans (Fr.of_below hb5)
      obtain ⟨v6, w6, hr6, row6, hg6, hl6, ad6, nn6, cp6, rfl⟩ := run_append_sym w5 B0 (Nat.le_trans HBW.out FR5.size) sv L.length xs R5 (by have := HL.out; omega) w4.heap.size A (by rw [HA.out]; rfl) n5 (by
        intro u hu
        rw [HA.out] at hu
        have h := HOC.out u
        simp only [List.mem_cons, List.not_mem_nil, or_false] at hu h
        rcases hu with rfl | rfl | rfl | hu
        · rfl
        · rfl
        · rfl
        · exact h hu) 48
      have hgl : ¬ sv.ownBlock = some gp := fun e => by
        rcases R5.2 with ⟨h0, _⟩ | ⟨g, cap, cur, h0, _, h2, _⟩
        · rw [h0] at e; cases e
        · rw [h0] at e; cases e
          rw [P5.eq] at h2
          cases h2
      have P6 : Ob w6 gp #[sv, fv, .string nm, .int .i64 0, .string hm] 50 := P5.grown hg6 (fun e => hgl e.symm)
      have O6 : Ob w6 W.heap.size A 47 := O5.grown hg6 (fun e => by have := (HSV.out _ e.symm).1; omega)
      have FR6 : Fr B0 W w6 := FR5.trans ⟨hg6.os, hg6.tape, hg6.output, hg6.size, fun b hb hn => hg6.block b hb (fun e => by
        refine hn ?_
        have e' := e.symm
        refine ⟨(HSV.out b e').2, ?_⟩
        rcases R5.2 with ⟨h0, _⟩ | ⟨g, cap, cur, h0, _, h2, _⟩
        · rw [h0] at e'; cases e'
        · rw [h0] at e'; cases e'
          exact ⟨_, .inr h2⟩)⟩
      have b7 := P6.set 0 (.slice ad6 nn6 cp6)
      have fx7 := fx1 w6 gp 0 (.slice ad6 nn6 cp6)
      have HE : Hid (Aend W B0 gp fv hm (radd hm (L, none) (F, kd)) (.returned (.tuple #[])) (w6.setCell ⟨gp, 0, none⟩ (.slice ad6 nn6 cp6))) := by
        refine ⟨rfl, FR6.trans (fx7.mono (fun b e => by
          have e' : b = gp := e
          subst e'
          exact ⟨HGE.out, _, .inl P6.eq⟩)), HGE.out, .slice ad6 nn6 cp6, nm, 0, xs ++ A.toList, ?_⟩
        rw [radd_new HLK.out]
        refine ⟨by simpa using b7, fun _ => rfl, fun F' h => (by cases h), ?_, fun u hu => ?_, fun i x hx => ?_⟩
        · simp only [List.length_append, List.length_cons, List.length_nil]
          refine owns_fx fx7 row6 (fun b e e2 => ?_)
          have e3 : b = gp := e2
          subst e3
          rcases row6.2 with ⟨h0, _⟩ | ⟨g, cap, cur, h0, _, h2, _⟩
          · rw [h0] at e; cases e
          · rw [h0] at e; cases e
            rw [P6.eq] at h2
            cases h2
        · rcases List.mem_append.1 hu with hu | hu
          · exact H6.out u hu
          · rw [HA.out] at hu
            have h := HOC.out u
            simp only [List.mem_cons, List.not_mem_nil, or_false] at hu h
            rcases hu with rfl | rfl | rfl | hu
            · rfl
            · rfl
            · rfl
            · exact h hu
        · have hxl : xs.length = L.length * 31 := R4.out.1
          rcases Nat.lt_or_ge i L.length with hil | hil
          · rw [List.getElem?_append_left hil] at hx
            obtain ⟨t1, t2, t3⟩ := H5.out i x hx
            exact ⟨by rw [List.getElem?_append_left (by omega)]; exact t1, by rw [List.getElem?_append_left (by omega)]; exact t2, by rw [List.getElem?_append_left (by omega)]; exact t3⟩
          · rw [List.getElem?_append_right hil] at hx
            have hi0 : i = L.length := by
              have := (List.getElem?_eq_some_iff.1 hx).1
              simp at this
              omega
            subst hi0
            simp only [Nat.sub_self, List.getElem?_cons_zero, Option.some.injEq] at hx
            subst hx
            refine ⟨?_, ?_, ?_⟩
            · rw [List.getElem?_append_right (by omega), show L.length * 31 - xs.length = 0 by omega, HA.out]; rfl
            · rw [List.getElem?_append_right (by omega), show L.length * 31 + 1 - xs.length = 1 by omega, HA.out]; rfl
            · rw [List.getElem?_append_right (by omega), show L.length * 31 + 2 - xs.length = 2 by omega, HA.out]; rfl
      have HS5 : Hid (Ob w5 gp #[sv, fv, .string nm, .int .i64 0, .string hm] 50 ∧ Ob w5 W.heap.size A 47) := ⟨P5, O5⟩
      have HS6 : Hid (Ob w6 gp #[sv, fv, .string nm, .int .i64 0, .string hm] 50 ∧ Ob w6 W.heap.size A 47) := ⟨P6, O6⟩
      obtain ⟨⟨q0, q1, q2, q3, q4⟩, ⟨q5, q6, q7, q8, q9⟩, ql⟩ := obR5 P6
      have hbs : (Instr.buildSlice 48 1 #[(0, .agg A)]).run Tryz.prog w4 = .ok (.slice (some ⟨w4.heap.size, 0, none⟩) 1 1) w5 := by
        rw [hw5, HA.out]
        exact build_sym _ _ _ _ _ _ _ _ _ _ _ _ _ _ _ _ _ _ _ _ _ _ _ _ _ _ _ _ _ _ _ w4
      have HR6 : Hid _ := hr6
      clear hw5 hr6 HA hb5 n5 P5 O5 R5 FR5 row6 hg6 hl6 hgl P6 O6 FR6 b7 fx7 P4 O4 R4 FR4
      (try simp only [List.getElem_toArray, List.getElem_cons_succ, List.getElem_cons_zero, Act.put, List.setIfInBounds_toArray, List.set_cons_zero, List.set_cons_succ])
      refine wpList_buildSl (t := 48) (len := 1) (x := .tmp 52) rfl rfl rfl hbs ?_
      refine HQ.out _ _ ⟨.inr HS5, ?_⟩
      clear HQ hbs
      refine wpAnyG_all (rs := [7]) (by kernel_rfl) (by simp) ?_
      intro i hi
      obtain rfl : i = 7 := by simpa using hi
      clear hi
      refine wpOp_listV rfl ?_
      intro Q' hQ'
      have HQ : Hid _ := hQ'
      clear hQ'
      (try simp only [List.getElem_toArray, List.getElem_cons_succ, List.getElem_cons_zero, Act.put, List.setIfInBounds_toArray, List.set_cons_zero, List.set_cons_succ])
      refine wpList_append_eqX rfl _ _ 48 rfl rfl rfl HR6.out ?_
      refine HQ.out _ _ ⟨.inr HS6, ?_⟩
      clear HQ HR6
      refine wpAnyG_all (rs := [8]) (by kernel_rfl) (by simp) ?_
      intro i hi
      obtain rfl : i = 8 := by simpa using hi
      clear hi
      refine wpOp_listV rfl ?_
      intro Q' hQ'
      have HQ : Hid _ := hQ'
      clear hQ'
      go_wp2
      refine HQ.out _ _ ⟨.inr HS6, ?_⟩
      clear HQ
      refine wpAnyG_all (rs := [9]) (by kernel_rfl) (by simp) ?_
      intro i hi
      obtain rfl : i = 9 := by simpa using hi
      clear hi
      refine wpOp_listV rfl ?_
      intro Q' hQ'
      have HQ : Hid _ := hQ'
      clear hQ'
      go_wp2
      refine HQ.out _ _ ⟨.inr HS6, ?_⟩
      clear HQ
      refine wpAnyG_all (rs := [10]) (by kernel_rfl) (by simp) ?_
      intro i hi
      obtain rfl : i = 10 := by simpa using hi
      clear hi
      refine wpOp_listV rfl ?_
      intro Q' hQ'
      have HQ : Hid _ := hQ'
      clear hQ'
      go_wp2
      refine HQ.out _ _ ⟨.inl (by first | trivial | rfl), ?_⟩
      clear HQ
      refine wpAnyG_done (by kernel_rfl) ?_ _
      clear HS0 HS5 HS6 q0 q1 q2 q3 q4 q5 q6 q7 q8 q9 ql
      go_wp2
      first
        | exact HE.out
        | (go_end0; exact HE.out)

theorem val_src {w : World} {a : Option Addr} {n c : Nat} {ms : List Md} (h : Src w 41 (.ls a n c ms)) (hn : Nm (.ls a n c ms)) {i : Nat} (hi : i < n) :
    ∃ b off s0 x1 a2 n2 k2 a3 n3 k3, a = some ⟨b, off, none⟩ ∧ b < w.heap.size ∧ w.cell? ⟨b, off + i * 4, none⟩ = some (.string s0) ∧ w.cell? ⟨b, off + i * 4 + 1, none⟩ = some (.int .i64 x1) ∧ w.cell? ⟨b, off + i * 4 + 2, none⟩ = some (.slice a2 n2 k2) ∧ w.cell? ⟨b, off + i * 4 + 3, none⟩ = some (.slice a3 n3 k3) ∧ s0.size ≤ 2000000 ∧ strAt ms (i * 4) = s0 := by
  have hfl := flds_val
  obtain ⟨b, off, ha, hb, hat⟩ := src_at Tryz.underlying41 h hn hi (by rw [hfl]; decide)
  rw [hfl] at hat
  have hat : ∀ (j : Nat) (F : TypeId), ([9, 2, 38, 38] : List TypeId)[j]? = some F → ∃ m, ms[i * 4 + j]? = some m ∧ w.cell? ⟨b, off + i * 4 + j, none⟩ = some m.val ∧ Src w F m ∧ Nm m := hat
  obtain ⟨q0, e0, c0, r0, t0⟩ := hat 0 9 rfl
  obtain ⟨s0, rfl, z0⟩ := src_str r0 t0
  obtain ⟨q1, e1, c1, r1, t1⟩ := hat 1 2 rfl
  obtain ⟨x1, rfl⟩ := ok_num2 Tryz.underlying2 r1.1
  obtain ⟨q2, e2, c2, r2, t2⟩ := hat 2 38 rfl
  obtain ⟨a2, n2, k2, m2, rfl⟩ := src_ls Tryz.underlying38 r2
  obtain ⟨q3, e3, c3, r3, t3⟩ := hat 3 38 rfl
  obtain ⟨a3, n3, k3, m3, rfl⟩ := src_ls Tryz.underlying38 r3
  exact ⟨b, off, s0, x1, a2, n2, k2, a3, n3, k3, ha, hb, c0, c1, c2, c3, z0, by have h := e0; simp only [Nat.add_zero] at h; simp [strAt, h]⟩

theorem enu_src {w : World} {a : Option Addr} {n c : Nat} {ms : List Md} (h : Src w 35 (.ls a n c ms)) (hn : Nm (.ls a n c ms)) {i : Nat} (hi : i < n) :
    ∃ b off s0 a1 n1 k1 m1 a2 n2 k2 a3 n3 k3, a = some ⟨b, off, none⟩ ∧ b < w.heap.size ∧ w.cell? ⟨b, off + i * 4, none⟩ = some (.string s0) ∧ w.cell? ⟨b, off + i * 4 + 1, none⟩ = some (.slice a1 n1 k1) ∧ w.cell? ⟨b, off + i * 4 + 2, none⟩ = some (.slice a2 n2 k2) ∧ w.cell? ⟨b, off + i * 4 + 3, none⟩ = some (.slice a3 n3 k3) ∧ Src w 41 (.ls a1 n1 k1 m1) ∧ Nm (.ls a1 n1 k1 m1) ∧ lsN ms (i * 4 + 1) = n1 ∧ lsM ms (i * 4 + 1) = m1 ∧ s0.size ≤ 2000000 ∧ strAt ms (i * 4) = s0 := by
  have hfl := flds_enu
  obtain ⟨b, off, ha, hb, hat⟩ := src_at Tryz.underlying35 h hn hi (by rw [hfl]; decide)
  rw [hfl] at hat
  have hat : ∀ (j : Nat) (F : TypeId), ([9, 41, 38, 38] : List TypeId)[j]? = some F → ∃ m, ms[i * 4 + j]? = some m ∧ w.cell? ⟨b, off + i * 4 + j, none⟩ = some m.val ∧ Src w F m ∧ Nm m := hat
  obtain ⟨q0, e0, c0, r0, t0⟩ := hat 0 9 rfl
  obtain ⟨s0, rfl, z0⟩ := src_str r0 t0
  obtain ⟨q1, e1, c1, r1, t1⟩ := hat 1 41 rfl
  obtain ⟨a1, n1, k1, m1, rfl⟩ := src_ls Tryz.underlying41 r1
  obtain ⟨q2, e2, c2, r2, t2⟩ := hat 2 38 rfl
  obtain ⟨a2, n2, k2, m2, rfl⟩ := src_ls Tryz.underlying38 r2
  obtain ⟨q3, e3, c3, r3, t3⟩ := hat 3 38 rfl
  obtain ⟨a3, n3, k3, m3, rfl⟩ := src_ls Tryz.underlying38 r3
  exact ⟨b, off, s0, a1, n1, k1, m1, a2, n2, k2, a3, n3, k3, ha, hb, c0, c1, c2, c3, r1, t1, by simp [lsN, e1], by simp [lsM, e1], z0, by have h := e0; simp only [Nat.add_zero] at h; simp [strAt, h]⟩

theorem ser_src {w : World} {a : Option Addr} {n c : Nat} {ms : List Md} (h : Src w 60 (.ls a n c ms)) (hn : Nm (.ls a n c ms)) {i : Nat} (hi : i < n) :
    ∃ b off s0 a1 n1 k1 m1 a2 n2 k2 a3 n3 k3, a = some ⟨b, off, none⟩ ∧ b < w.heap.size ∧ w.cell? ⟨b, off + i * 4, none⟩ = some (.string s0) ∧ w.cell? ⟨b, off + i * 4 + 1, none⟩ = some (.slice a1 n1 k1) ∧ w.cell? ⟨b, off + i * 4 + 2, none⟩ = some (.slice a2 n2 k2) ∧ w.cell? ⟨b, off + i * 4 + 3, none⟩ = some (.slice a3 n3 k3) ∧ Src w 157 (.ls a1 n1 k1 m1) ∧ Nm (.ls a1 n1 k1 m1) ∧ lsN ms (i * 4 + 1) = n1 ∧ lsM ms (i * 4 + 1) = m1 ∧ s0.size ≤ 2000000 ∧ strAt ms (i * 4) = s0 := by
  have hfl := flds_ser
  obtain ⟨b, off, ha, hb, hat⟩ := src_at Tryz.underlying60 h hn hi (by rw [hfl]; decide)
  rw [hfl] at hat
  have hat : ∀ (j : Nat) (F : TypeId), ([9, 157, 38, 38] : List TypeId)[j]? = some F → ∃ m, ms[i * 4 + j]? = some m ∧ w.cell? ⟨b, off + i * 4 + j, none⟩ = some m.val ∧ Src w F m ∧ Nm m := hat
  obtain ⟨q0, e0, c0, r0, t0⟩ := hat 0 9 rfl
  obtain ⟨s0, rfl, z0⟩ := src_str r0 t0
  obtain ⟨q1, e1, c1, r1, t1⟩ := hat 1 157 rfl
  obtain ⟨a1, n1, k1, m1, rfl⟩ := src_ls Tryz.underlying157 r1
  obtain ⟨q2, e2, c2, r2, t2⟩ := hat 2 38 rfl
  obtain ⟨a2, n2, k2, m2, rfl⟩ := src_ls Tryz.underlying38 r2
  obtain ⟨q3, e3, c3, r3, t3⟩ := hat 3 38 rfl
  obtain ⟨a3, n3, k3, m3, rfl⟩ := src_ls Tryz.underlying38 r3
  exact ⟨b, off, s0, a1, n1, k1, m1, a2, n2, k2, a3, n3, k3, ha, hb, c0, c1, c2, c3, r1, t1, by simp [lsN, e1], by simp [lsM, e1], z0, by have h := e0; simp only [Nat.add_zero] at h; simp [strAt, h]⟩

theorem met_src {w : World} {a : Option Addr} {n c : Nat} {ms : List Md} (h : Src w 157 (.ls a n c ms)) (hn : Nm (.ls a n c ms)) {i : Nat} (hi : i < n) :
    ∃ b off s0 s1 s2 y3 y4 a5 n5 k5 a6 n6 k6, a = some ⟨b, off, none⟩ ∧ b < w.heap.size ∧ w.cell? ⟨b, off + i * 7, none⟩ = some (.string s0) ∧ w.cell? ⟨b, off + i * 7 + 1, none⟩ = some (.string s1) ∧ w.cell? ⟨b, off + i * 7 + 2, none⟩ = some (.string s2) ∧ w.cell? ⟨b, off + i * 7 + 3, none⟩ = some (.bool y3) ∧ w.cell? ⟨b, off + i * 7 + 4, none⟩ = some (.bool y4) ∧ w.cell? ⟨b, off + i * 7 + 5, none⟩ = some (.slice a5 n5 k5) ∧ w.cell? ⟨b, off + i * 7 + 6, none⟩ = some (.slice a6 n6 k6) ∧ s0.size ≤ 2000000 ∧ strAt ms (i * 7) = s0 := by
  have hfl := flds_met
  obtain ⟨b, off, ha, hb, hat⟩ := src_at Tryz.underlying157 h hn hi (by rw [hfl]; decide)
  rw [hfl] at hat
  have hat : ∀ (j : Nat) (F : TypeId), ([9, 9, 9, 4, 4, 38, 38] : List TypeId)[j]? = some F → ∃ m, ms[i * 7 + j]? = some m ∧ w.cell? ⟨b, off + i * 7 + j, none⟩ = some m.val ∧ Src w F m ∧ Nm m := hat
  obtain ⟨q0, e0, c0, r0, t0⟩ := hat 0 9 rfl
  obtain ⟨s0, rfl, z0⟩ := src_str r0 t0
  obtain ⟨q1, e1, c1, r1, t1⟩ := hat 1 9 rfl
  obtain ⟨s1, rfl, _⟩ := src_str r1 t1
  obtain ⟨q2, e2, c2, r2, t2⟩ := hat 2 9 rfl
  obtain ⟨s2, rfl, _⟩ := src_str r2 t2
  obtain ⟨q3, e3, c3, r3, t3⟩ := hat 3 4 rfl
  obtain ⟨y3, rfl⟩ := ok_tru2 Tryz.underlying4 r3.1
  obtain ⟨q4, e4, c4, r4, t4⟩ := hat 4 4 rfl
  obtain ⟨y4, rfl⟩ := ok_tru2 Tryz.underlying4 r4.1
  obtain ⟨q5, e5, c5, r5, t5⟩ := hat 5 38 rfl
  obtain ⟨a5, n5, k5, m5, rfl⟩ := src_ls Tryz.underlying38 r5
  obtain ⟨q6, e6, c6, r6, t6⟩ := hat 6 38 rfl
  obtain ⟨a6, n6, k6, m6, rfl⟩ := src_ls Tryz.underlying38 r6
  exact ⟨b, off, s0, s1, s2, y3, y4, a5, n5, k5, a6, n6, k6, ha, hb, c0, c1, c2, c3, c4, c5, c6, z0, by have h := e0; simp only [Nat.add_zero] at h; simp [strAt, h]⟩

set_option maxHeartbeats 1000000 in
theorem rjoinW (a b : List Int) (w : World) (hl : a.length + b.length ≤ 900000000) :
    Calls Tryz.prog 106 #[.string (strOfNums a), .string (strOfNums b)] w fun e w' => e = .returned (.string (strOfNums (njoin a b))) ∧ w = w' := by
  unfold njoin
  by_cases h : a = []
  · rw [if_pos h]
    have hne : ((strOfNums a).toList == []) = true := by rw [h, str_list]; rfl
    generalize strOfNums a = A at hne
    generalize strOfNums b = B
    go_enter Tryz.func106, Tryz.ntmps106
    go_wp2
    go_ret
    exact ⟨rfl, rfl⟩
  · rw [if_neg h]
    have hne : ((strOfNums a).toList == []) = false := by
      cases a with
      | nil => exact absurd rfl h
      | cons c r => exact str_ne c r
    have h1 : ∀ W, (Op.stringOp .add (strOfNums a) { data := #[46] }).run Tryz.prog W = .ok (.string (strOfNums (a ++ [46]))) W := fun W => run_add W a [46] (by simp; omega)
    have h2 : ∀ W, (Op.stringOp .add (strOfNums (a ++ [46])) (strOfNums b)).run Tryz.prog W = .ok (.string (strOfNums (a ++ [46] ++ b))) W := fun W => run_add W (a ++ [46]) b (by simp; omega)
    clear h
    generalize strOfNums (a ++ [46] ++ b) = R at h2
    generalize strOfNums (a ++ [46]) = AP at h1 h2
    generalize strOfNums a = A at hne h1
    generalize strOfNums b = B at h2
    go_enter Tryz.func106, Tryz.ntmps106
    go_wp2
    go_ret
    exact ⟨rfl, rfl⟩

set_option maxHeartbeats 1000000 in
theorem rparentW (s : List Int) (w : World) (hz : Hid (∀ i, 0 ≤ s.getD i 0 ∧ s.getD i 0 ≤ 255)) (hlen : (s.length : Int) ≤ 900000000) :
    Calls Tryz.prog 107 #[.string (strOfNums s)] w fun e w' => e = .returned (.tuple #[.string (strOfNums (nparent s).1), .string (strOfNums (nparent s).2)]) ∧ Below w.heap.size w w' := by
  obtain ⟨X, hX⟩ : ∃ X, X = strOfNums s := ⟨_, rfl⟩
  have hsz : X.size = s.length := by rw [hX]; exact strOfNums_size s
  have HA : Hid (∀ k, (h : k < s.length) → ((X[k]'(hsz ▸ h)).toNat : Int) = s.getD k 0) := fun k h => by subst hX; exact str_at s hz.out k _
  have HH : Hid (∀ k, k ≤ s.length → ∀ W, (Instr.slice 9 (.string X) none (some (.int .i64 (k : Int))) none).run Tryz.prog W = .ok (.string (strOfNums (s.take k))) W) := fun k hk => by subst hX; exact run_head s k hk (by omega)
  have HT : Hid (∀ k, k + 1 ≤ s.length → ∀ W, (Instr.slice 9 (.string X) (some (.int .i64 ((k : Int) + 1))) none none).run Tryz.prog W = .ok (.string (strOfNums (s.drop (k + 1)))) W) := fun k hk => by subst hX; exact run_tail s (k + 1) hk _ (by omega)
  have HX : Hid (X = strOfNums s) := hX
  rw [← hX]
  clear hX
  go_enter Tryz.func107, Tryz.ntmps107
  go_wp2
  go_loopw [4] (fun v wr => ∃ k : Nat, v = .int .i64 ((k : Int) - 1) ∧ k ≤ s.length ∧ Hid (nlast s s.length = nlast s k) ∧ w = wr) (fun v _ => (intOf v + 1).toNat)
  case atStart => exact ⟨s.length, rfl, by omega, rfl, rfl⟩
  case round =>
    obtain ⟨k, rfl, hk, HJ, rfl⟩ := hrel
    cases k with
    | zero =>
      have E : Hid (nparent s = ([], s)) := by
        show _ = _
        unfold nparent
        rw [HJ.out]
        rfl
      clear HJ
      go_wp2
      go_ret2
      refine ⟨?_, Below.refl _ _⟩
      rw [E.out, ← HX.out]
      rfl
    | succ k =>
      rw [show (((k + 1 : Nat) : Int) - 1) = (k : Int) by omega]
      have hat := HA.out k (by omega)
      have HJ' := HJ.out
      rw [nlast] at HJ'
      by_cases h46 : s.getD k 0 = 46
      · rw [if_pos h46] at HJ'
        rw [h46] at hat
        have E : Hid (nparent s = (s.take k, s.drop (k + 1))) := by
          show _ = _
          unfold nparent
          rw [HJ', if_neg (by omega), Nat.add_sub_cancel]
        have h1 := HH.out k (by omega)
        have h2 := HT.out k (by omega)
        obtain ⟨A, hA1⟩ : ∃ A, A = strOfNums (s.take k) := ⟨_, rfl⟩
        obtain ⟨B, hB1⟩ : ∃ B, B = strOfNums (s.drop (k + 1)) := ⟨_, rfl⟩
        rw [← hA1] at h1
        rw [← hB1] at h2
        have HA1 : Hid (A = strOfNums (s.take k)) := hA1
        have HB1 : Hid (B = strOfNums (s.drop (k + 1))) := hB1
        clear hA1 hB1
        clear HJ HJ' h46
        go_wp2
        go_quiet (fail)
        rename_i K _ hK
        refine hK _ _ ?_
        go_wp2
        go_ret2
        refine ⟨?_, below_drewN (Below.refl _ _) _⟩
        rw [E.out]
        simp only
        rw [← HA1.out, ← HB1.out]
        rfl
      · rw [if_neg h46] at HJ'
        have HJ2 : Hid _ := HJ'
        generalize s.getD k 0 = c at hat h46
        have e46 : (c == 46) = false := by simpa using h46
        clear HJ HJ'
        go_wp2
        go_roundw
        case rel => first | exact ⟨k, rfl, by omega, HJ2, by first | rfl | trivial⟩ | ((repeat apply Exists.intro); exact ⟨⟨k, rfl, by omega, HJ2, by first | rfl | trivial⟩, rfl⟩)
        case measure => first | (simp [intOf]; done) | (simp [intOf]; omega)

theorem bld0 (F : ByteArray) (kd : Int) (w : World) : (Instr.build 47 #[(0, .string F), (1, .int .i64 kd)]).run Tryz.prog w = .ok (.agg #[.string F, .int .i64 kd, .string ⟨#[]⟩, .string ⟨#[]⟩, .slice none 0 0, .slice none 0 0, .slice none 0 0, .slice none 0 0, .slice none 0 0, .slice none 0 0, .slice none 0 0, .slice none 0 0, .slice none 0 0, .slice none 0 0, .string ⟨#[]⟩, .slice none 0 0, .slice none 0 0, .slice none 0 0, .string ⟨#[]⟩, .int .i64 0, .int .i64 0, .int .i64 0, .string ⟨#[]⟩, .string ⟨#[]⟩, .string ⟨#[]⟩, .bool false, .int .i64 0, .string ⟨#[]⟩, .bool false, .slice none 0 0, .slice none 0 0]) w := by kernel_rfl

theorem bldM (F : ByteArray) (kd : Int) (y0 y1 y2 y3 y4 y5 y6 y7 y8 y9 y10 : Value) (w : World) : (Instr.build 47 #[(0, .string F), (1, .int .i64 kd), (3, .agg #[y0, y1, y2, y3, y4, y5, y6, y7, y8, y9, y10])]).run Tryz.prog w = .ok (.agg #[.string F, .int .i64 kd, .string ⟨#[]⟩, y0, y1, y2, y3, y4, y5, y6, y7, y8, y9, y10, .string ⟨#[]⟩, .slice none 0 0, .slice none 0 0, .slice none 0 0, .string ⟨#[]⟩, .int .i64 0, .int .i64 0, .int .i64 0, .string ⟨#[]⟩, .string ⟨#[]⟩, .string ⟨#[]⟩, .bool false, .int .i64 0, .string ⟨#[]⟩, .bool false, .slice none 0 0, .slice none 0 0]) w := by kernel_rfl

theorem bldE (F : ByteArray) (kd : Int) (y0 y1 y2 y3 : Value) (w : World) : (Instr.build 47 #[(0, .string F), (1, .int .i64 kd), (4, .agg #[y0, y1, y2, y3])]).run Tryz.prog w = .ok (.agg #[.string F, .int .i64 kd, .string ⟨#[]⟩, .string ⟨#[]⟩, .slice none 0 0, .slice none 0 0, .slice none 0 0, .slice none 0 0, .slice none 0 0, .slice none 0 0, .slice none 0 0, .slice none 0 0, .slice none 0 0, .slice none 0 0, y0, y1, y2, y3, .string ⟨#[]⟩, .int .i64 0, .int .i64 0, .int .i64 0, .string ⟨#[]⟩, .string ⟨#[]⟩, .string ⟨#[]⟩, .bool false, .int .i64 0, .string ⟨#[]⟩, .bool false, .slice none 0 0, .slice none 0 0]) w := by kernel_rfl

theorem bldF (F : ByteArray) (kd : Int) (y0 y1 y2 y3 y4 y5 y6 y7 y8 y9 y10 y11 y12 : Value) (w : World) : (Instr.build 47 #[(0, .string F), (1, .int .i64 kd), (5, .agg #[y0, y1, y2, y3, y4, y5, y6, y7, y8, y9, y10, y11, y12])]).run Tryz.prog w = .ok (.agg #[.string F, .int .i64 kd, .string ⟨#[]⟩, .string ⟨#[]⟩, .slice none 0 0, .slice none 0 0, .slice none 0 0, .slice none 0 0, .slice none 0 0, .slice none 0 0, .slice none 0 0, .slice none 0 0, .slice none 0 0, .slice none 0 0, .string ⟨#[]⟩, .slice none 0 0, .slice none 0 0, .slice none 0 0, y0, y1, y2, y3, y4, y5, y6, y7, y8, y9, y10, y11, y12]) w := by kernel_rfl

theorem radd_len (hm : ByteArray) (st : Sl × Option ByteArray) (x : ByteArray × Int) : (radd hm st x).1.length ≤ st.1.length + 1 := by
  obtain ⟨L, er⟩ := st
  obtain ⟨F, kd⟩ := x
  cases er with
  | some G => rw [radd_stay]; simp
  | none =>
    cases h : slook L F with
    | none => rw [radd_new h]; simp
    | some y =>
      obtain ⟨k, H⟩ := y
      rw [radd_old h]
      split <;> simp

theorem radds_len (hm : ByteArray) : ∀ (l : List (ByteArray × Int)) (st : Sl × Option ByteArray), (l.foldl (radd hm) st).1.length ≤ st.1.length + l.length
  | [], st => by simp
  | x :: l, st => by
    have h1 := radd_len hm st x
    have h2 := radds_len hm l (radd hm st x)
    simp only [List.foldl_cons, List.length_cons]
    omega

theorem rjn (sc : List Int) (s : ByteArray) (w : World) (h1 : sc.length ≤ 400000000) (h2 : s.size ≤ 2000000) :
    Calls Tryz.prog 106 #[.string (strOfNums sc), .string s] w fun e w' => e = .returned (.string (jn sc s)) ∧ w = w' := by
  have h := rjoinW sc (numsOf s) w (by rw [numsOf_len]; omega)
  rw [numsOf_str] at h
  exact h

theorem radd_any (W : World) (B0 gp : Nat) (hBW : B0 ≤ W.heap.size) (fv : Value) (hm : ByteArray) (st : Sl × Option ByteArray) (hp : Hid (Rp W B0 gp fv hm st)) (hL : st.1.length ≤ 900000000) (F : ByteArray) (kd : Int) (c3 c4 c5 c6 c7 c8 c9 c10 c11 c12 c13 c14 c15 c16 c17 c18 c19 c20 c21 c22 c23 c24 c25 c26 c27 c28 c29 c30 : Value) (hoc : ∀ u ∈ [c3, c4, c5, c6, c7, c8, c9, c10, c11, c12, c13, c14, c15, c16, c17, c18, c19, c20, c21, c22, c23, c24, c25, c26, c27, c28, c29, c30], u.oneCell' = true) :
    Calls Tryz.prog 124 #[.pointer (some ⟨gp, 0, none⟩), .agg #[.string F, .int .i64 kd, .string ⟨#[]⟩, c3, c4, c5, c6, c7, c8, c9, c10, c11, c12, c13, c14, c15, c16, c17, c18, c19, c20, c21, c22, c23, c24, c25, c26, c27, c28, c29, c30]] W fun e W' => Aend W B0 gp fv hm (radd hm st (F, kd)) e W' := by
  obtain ⟨L, er⟩ := st
  exact radd_walk W B0 gp hBW fv hm L er hp hL F kd c3 c4 c5 c6 c7 c8 c9 c10 c11 c12 c13 c14 c15 c16 c17 c18 c19 c20 c21 c22 c23 c24 c25 c26 c27 c28 c29 c30 hoc

end Go.Proofs.YtafmoceinamcdaaGreat
