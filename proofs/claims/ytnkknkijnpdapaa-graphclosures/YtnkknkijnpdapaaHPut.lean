/- The reference's Put. -/
import Derived.Test.YtnkknkijnpdapaaHQue
import Derived.Deep.RegionLaw
namespace Go.Proofs.Ytnkknkijnpdapaa
open Go.RowKit
set_option linter.unusedVariables false
set_option linter.unusedSimpArgs false

theorem Sb.nil (w : World) : Sb w none 0 0 [] := ⟨rfl, by omega, Nat.le_refl _, fun _ => rfl, fun h => absurd h (by omega)⟩

theorem Sb.void (w : World) (x : Addr) (c : Nat) : Sb w (some x) 0 c [] := ⟨rfl, by omega, Nat.zero_le _, (fun e => by cases e), fun h => absurd h (by omega)⟩

theorem Sb.exact {w : World} {a : Option Addr} {len cap : Nat} {zs : List ByteArray} (h : Sb w a len cap zs) : Sb w a len len zs :=
  ⟨h.hlen, h.h63, Nat.le_refl _, fun e => by have := h.hnil e; have := h.hcap; omega, h.hmem⟩

theorem Sb.drop {w : World} {b off : Nat} {len cap : Nat} {zs : List ByteArray} (h : Sb w (some ⟨b, off, none⟩) len cap zs) (k : Nat) (hk : k < len) : Sb w (some ⟨b, off + k, none⟩) (len - k) (cap - k) (zs.drop k) := by
  refine ⟨by rw [List.length_drop, h.hlen], by have := h.h63; omega, by have := h.hcap; omega, (fun e => by cases e), fun hp => ?_⟩
  obtain ⟨b', off', e, hlt, hc⟩ := h.hmem (by omega)
  simp only [Option.some.injEq, Addr.mk.injEq, and_true] at e
  obtain ⟨rfl, rfl⟩ := e
  refine ⟨b, off + k, rfl, hlt, fun i z hi => ?_⟩
  rw [List.getElem?_drop] at hi
  rw [Nat.add_assoc]
  exact hc (k + i) z hi

theorem hput_at (s : ByteArray) : ∀ (zs : List ByteArray) (i : Nat), i ≤ zs.length → (∀ (j : Nat) (z : ByteArray), j < i → zs[j]? = some z → slt z s = true) → (∀ z, zs[i]? = some z → slt z s = false) →
    hput zs s = if zs[i]? = some s then zs else zs.take i ++ s :: zs.drop i
  | [], i, hi, _, _ => by
    have : i = 0 := by simpa using hi
    subst this
    simp [hput]
  | x :: r, 0, _, _, h => by
    have hx := h x rfl
    rw [hput, if_neg (by simp [hx])]
    simp
  | x :: r, i + 1, hi, hj, h => by
    have hx := hj 0 x (by omega) rfl
    rw [hput, if_pos hx, hput_at s r i (by simpa using hi) (fun j z hjj hz => hj (j + 1) z (by omega) (by simpa using hz)) (fun z hz => h z (by simpa using hz))]
    simp only [List.getElem?_cons_succ, List.take_succ_cons, List.drop_succ_cons]
    split <;> simp

theorem step_append_run {w : World} {ops : Array Oper} {o : Oper} {f : Act} {K : Act → World → Prop} {Q : Exit → Act → World → Prop} {E : Prop} (s x : Operand) (hgd : o.guard = none)
    (ho : o.op = .call { callee := .builtin .append, args := #[s, x], argTypes := #[23, 23] }) {vs vx v' : Value} {w' : World} (hs : f.eval s = vs) (hx : f.eval x = vx) (hrun : (Builtin.append_ #[23, 23] o.type #[vs, vx]).run Try.prog w = .ok v' w') (h : K (f.put o.dst v') w') :
    if Region.wanted o (yielded ops f.tmps) = true then Oper.wp Try.prog o f w K Q else E := by
  have hw : Region.wanted o (yielded ops f.tmps) = true := by simp [Region.wanted, hgd]
  rw [if_pos hw]
  unfold Oper.wp
  simp [execOp, ho, resolve, invoke, builtin, hs, hx, hrun, Result.andThen]
  exact h

/-- A text put in between. -/
theorem put_between {w : World} {a a2 : Option Addr} {i m c : Nat} {l r : List ByteArray} {s : ByteArray} (h1 : Sb w a i i l) (h2 : Sb w a2 m c r) (hn : i + m ≤ 200000) (ty ty2 : TypeId) :
    ∃ va n vc w1 v2 w2, (Builtin.append_ #[23, 23] ty #[.slice (some ⟨w.heap.size, 0, none⟩) 1 1, .slice a2 m c]).run Try.prog (w.drew.alloc (.cells #[.string s] 9)) = .ok (.slice va n vc) w1 ∧ (Builtin.append_ #[23, 23] ty2 #[.slice a i i, .slice va n vc]).run Try.prog w1 = .ok v2 w2 ∧ Sw w2 w.heap.size v2 (l ++ s :: r) ∧ Below w.heap.size w w2 := by
  have hA : Below w.heap.size w (w.drew.alloc (.cells #[.string s] 9)) := ((Below.refl _ _).drew).alloc (Nat.le_refl _) _
  have hown : Sw (w.drew.alloc (.cells #[.string s] 9)) w.heap.size (.slice (some ⟨w.heap.size, 0, none⟩) 1 1) [s] := ⟨rfl, .inr ⟨w.heap.size, 1, #[.string s], rfl, Nat.le_refl _, heap_alloc_new w.drew _, Nat.le_refl _, by unfold maxLen; omega, rfl, rfl⟩⟩
  obtain ⟨v1, w1, hr1, hq1, hg1, hat1⟩ := run_append_sqs (Sq.of_own hown) ty (h2.below hA) (by simp; omega) (by simp)
  have hb1 : Below w.heap.size w w1 := hA.grown hg1 (by simp) (fun k hk => by simp only [Value.ownBlock, Option.some.injEq] at hk; omega)
  rcases hq1 with ⟨_, h⟩ | ⟨g, o, cap, cur, rfl, hb, hg, hc, hoc, hcm, htk⟩
  · cases h
  · have hlen : ([s] ++ r).length = m + 1 := by simp [h2.hlen]
    obtain ⟨v2, w2, hr2, hs2, hb2⟩ := run_append_full (h1.below hb1) ty2 ⟨g, o, none⟩ (m + 1) cap ([s] ++ r) hlen (by omega) (fun j z hj => by
      have hp : (⟨g, o, none⟩ : Addr).add j = ⟨g, o + j, none⟩ := by unfold Addr.add; split <;> simp_all
      rw [hp]
      have hj2 : (([s] ++ r).map Value.string)[j]? = some (.string z) := by rw [List.getElem?_map, hj]; rfl
      rw [← htk, List.getElem?_take] at hj2
      split at hj2
      · rw [List.getElem?_drop] at hj2
        simp only [World.cell?, hg]
        simpa using hj2
      · cases hj2) (by omega)
    rw [hlen] at hr1
    exact ⟨_, _, _, w1, v2, w2, hr1, hr2, by have := Sw.base hs2 hb1.size; simpa using this, hb1.trans (hb2.mono hb1.size)⟩

set_option maxRecDepth 10000 in
set_option maxHeartbeats 4000000 in
theorem rhput_any {w : World} {a : Option Addr} {len cap : Nat} {zs : List ByteArray} (s : ByteArray) (hS : Hid (Sb w a len cap zs)) (hn : len ≤ 100000) (ha : ∀ ad, a = some ad → ∃ b off, ad = ⟨b, off, none⟩) :
    Calls Try.prog 18 #[.slice a len cap, .string s] w fun e w' => ∃ v', e = .returned v' ∧ ((v' = .slice a len cap ∧ hput zs s = zs) ∨ Sw w' w.heap.size v' (hput zs s)) ∧ Below w.heap.size w w' := by
  obtain ⟨h1, h2, h3, h4, h6⟩ := hS.out
  have H1 : Hid (zs.length = len) := h1
  have H6 : Hid _ := h6
  clear h1 h6
  go_enter Try.func18, Try.ntmps18
  go_wp2
  go_loopw [5] (fun v wr => ∃ i : Nat, v = .int .i64 (i : Int) ∧ i ≤ len ∧ Hid (∀ (j : Nat) (z : ByteArray), j < i → zs[j]? = some z → slt z s = true) ∧ w = wr) (fun v _ => len - (intOf v).toNat)
  case atStart => exact ⟨0, rfl, by omega, fun j z hj => absurd hj (by omega), rfl⟩
  case round =>
    obtain ⟨i, rfl, hi, HJ, rfl⟩ := hrel
    by_cases hil : i < len
    · obtain ⟨b, off, rfl, hlt, hc⟩ := H6.out (by omega)
      obtain ⟨z, hz⟩ : ∃ z, zs[i]? = some z := ⟨zs[i]'(by rw [H1.out]; exact hil), List.getElem?_eq_getElem (by rw [H1.out]; exact hil)⟩
      have hcell := hc i z hz
      have hil2 : ((i : Int) < (len : Int)) := by omega
      by_cases hlt3 : slt z s = true
      · have hlt4 : Op.bytesLess z.toList s.toList = true := hlt3
        have HJ2 : Hid (∀ (j : Nat) (z : ByteArray), j < i + 1 → zs[j]? = some z → slt z s = true) := fun j z' hj hz' => by
          by_cases q : j = i
          · subst q
            rw [hz] at hz'
            cases hz'
            exact hlt3
          · exact HJ.out j z' (by omega) hz'
        clear HJ hz hc hlt3
        go_wp2
        go_roundw
        case rel => first | exact ⟨i + 1, by go_num, by omega, HJ2, by first | rfl | trivial⟩ | ((repeat apply Exists.intro); exact ⟨⟨i + 1, by go_num, by omega, HJ2, by first | rfl | trivial⟩, rfl⟩)
        case measure => simp [intOf]; omega
      · have hlt4 : Op.bytesLess z.toList s.toList = false := by simpa [slt] using hlt3
        have heq := text_eq z s
        have hput := hput_at s zs i (by rw [H1.out]; exact hi) HJ.out (fun z' hz' => by rw [hz] at hz'; cases hz'; exact hlt4)
        by_cases e : z = s
        · rw [decide_eq_true e] at heq
          rw [if_pos (by rw [hz, e])] at hput
          have HP : Hid _ := hput
          clear HJ hz hc hlt3 e hput
          go_wp2
          go_ret
          exact ⟨_, rfl, .inl ⟨rfl, HP.out⟩, Below.refl _ _⟩
        · rw [decide_eq_false e] at heq
          rw [if_neg (by rw [hz]; simpa using e)] at hput
          have HP : Hid _ := hput
          have hnc : ¬ cap = i := by omega
          have hic : i ≤ cap := by omega
          obtain ⟨va, n', vc, w1, v2, w2, hr1, hr2, hs2, hb2⟩ := put_between (s := s) ((hS.out.take i hi).exact) (hS.out.drop i hil) (by omega) 23 23
          have HR1 : Hid _ := hr1
          have HR2 : Hid _ := hr2
          have HS : Hid _ := hs2
          have HB2 : Hid _ := hb2
          clear hr1 hr2 hs2 hb2
          clear HJ hz hc hlt3 e hput
          go_wp2
          go_region_law (first
            | (refine step_append_run (.tmp 38) (.tmp 41) (by rfl) (by rfl) (by rfl) (by rfl) HR1.out ?_)
            | (refine step_append_run (.tmp 36) (.tmp 42) (by rfl) (by rfl) (by rfl) (by rfl) HR2.out ?_))
          all_goals
            go_wp2
            go_ret
            exact ⟨_, rfl, .inr (by rw [HP.out]; exact HS.out), HB2.out⟩
    · obtain rfl : i = len := by omega
      have hput := hput_at s zs i (by rw [H1.out]; exact Nat.le_refl _) HJ.out (fun z' hz' => by rw [List.getElem?_eq_none (by rw [H1.out]; exact Nat.le_refl _)] at hz'; cases hz')
      rw [if_neg (by rw [List.getElem?_eq_none (by rw [H1.out]; exact Nat.le_refl _)]; simp)] at hput
      rw [List.take_of_length_le (by rw [H1.out]; exact Nat.le_refl _), List.drop_eq_nil_of_le (by rw [H1.out]; exact Nat.le_refl _)] at hput
      have HP : Hid _ := hput
      have hni : ¬ ((i : Int) < (i : Int)) := by omega
      have hic : i ≤ cap := by omega
      clear HJ hput hil
      cases a with
      | none =>
        have hc0 := h4 rfl
        subst hc0
        have hi0 : i = 0 := by omega
        subst hi0
        obtain ⟨va, n', vc, w1, v2, w2, hr1, hr2, hs2, hb2⟩ := put_between (s := s) (hS.out.exact) (Sb.nil w) (by omega) 23 23
        have HR1 : Hid _ := hr1
        have HR2 : Hid _ := hr2
        have HS : Hid _ := hs2
        have HB2 : Hid _ := hb2
        clear hr1 hr2 hs2 hb2
        go_wp2
        go_region_law (first
          | (refine step_append_run (.tmp 38) (.tmp 41) (by rfl) (by rfl) (by rfl) (by rfl) HR1.out ?_)
          | (refine step_append_run (.tmp 36) (.tmp 42) (by rfl) (by rfl) (by rfl) (by rfl) HR2.out ?_))
        all_goals
          go_wp2
          go_ret
          exact ⟨_, rfl, .inr (by rw [HP.out]; exact HS.out), HB2.out⟩
      | some ad =>
        obtain ⟨ab, ao, rfl⟩ := ha ad rfl
        by_cases hcl : cap = i
        · subst hcl
          obtain ⟨va, n', vc, w1, v2, w2, hr1, hr2, hs2, hb2⟩ := put_between (s := s) (hS.out.exact) (Sb.void w ⟨ab, ao, none⟩ 0) (by omega) 23 23
          have HR1 : Hid _ := hr1
          have HR2 : Hid _ := hr2
          have HS : Hid _ := hs2
          have HB2 : Hid _ := hb2
          clear hr1 hr2 hs2 hb2
          go_wp2
          go_region_law (first
            | (refine step_append_run (.tmp 38) (.tmp 41) (by rfl) (by rfl) (by rfl) (by rfl) HR1.out ?_)
            | (refine step_append_run (.tmp 36) (.tmp 42) (by rfl) (by rfl) (by rfl) (by rfl) HR2.out ?_))
          all_goals
            go_wp2
            go_ret
            exact ⟨_, rfl, .inr (by rw [HP.out]; exact HS.out), HB2.out⟩
        · 
          obtain ⟨va, n', vc, w1, v2, w2, hr1, hr2, hs2, hb2⟩ := put_between (s := s) (hS.out.exact) (Sb.void w ⟨ab, ao + i, none⟩ (cap - i)) (by omega) 23 23
          have HR1 : Hid _ := hr1
          have HR2 : Hid _ := hr2
          have HS : Hid _ := hs2
          have HB2 : Hid _ := hb2
          clear hr1 hr2 hs2 hb2
          go_wp2
          go_region_law (first
            | (refine step_append_run (.tmp 38) (.tmp 41) (by rfl) (by rfl) (by rfl) (by rfl) HR1.out ?_)
            | (refine step_append_run (.tmp 36) (.tmp 42) (by rfl) (by rfl) (by rfl) (by rfl) HR2.out ?_))
          all_goals
            go_wp2
            go_ret
            exact ⟨_, rfl, .inr (by rw [HP.out]; exact HS.out), HB2.out⟩

end Go.Proofs.Ytnkknkijnpdapaa
