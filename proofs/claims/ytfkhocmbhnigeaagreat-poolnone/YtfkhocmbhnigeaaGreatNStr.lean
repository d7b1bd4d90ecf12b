/- Lists of texts in memory: what a slice of texts holds; one text more; whether a text is among them (the reference's In), which lists are alike (the reference's Same), a name that is not taken (the reference's Synthetic). -/
import Derived.Test.YtfkhocmbhnigeaaGreatNRef2
import Derived.SliceStrings
namespace Go.Proofs.YtfkhocmbhnigeaaGreat
open Go.RowKit
set_option linter.unusedVariables false
set_option linter.unusedSimpArgs false

def scell (z : List Int) : Value := .string (strOfNums z)

def byts (z : List Int) : Prop := ∀ c ∈ z, 0 ≤ c ∧ c ≤ 255

/-- The slice at a, of len texts, holds zs in the world w. -/
def Ss (w : World) (a : Option Addr) (len cap : Nat) (zs : List (List Int)) : Prop :=
  zs.length = len ∧ (len : Int) ≤ 9223372036854775807 ∧ len ≤ cap ∧ (a = none → cap = 0) ∧ (∀ z ∈ zs, byts z) ∧
    (0 < len → ∃ b off, a = some ⟨b, off, none⟩ ∧ b < w.heap.size ∧ ∀ i z, zs[i]? = some z → w.cell? ⟨b, off + i, none⟩ = some (scell z))

theorem Ss.below {w w' : World} {a : Option Addr} {len cap : Nat} {zs : List (List Int)} (h : Ss w a len cap zs) {B : Nat} (hb : Below B w w') (hB : w.heap.size ≤ B) : Ss w' a len cap zs := by
  obtain ⟨h1, h2, h3, h4, h5, h6⟩ := h
  refine ⟨h1, h2, h3, h4, h5, fun hp => ?_⟩
  obtain ⟨b, off, rfl, hlt, hc⟩ := h6 hp
  exact ⟨b, off, rfl, Nat.lt_of_lt_of_le hlt hb.size, fun i z hi => (hb.cell (show b < B by omega)).trans (hc i z hi)⟩

/-- The call's own list of texts. -/
def So (w : World) (base : Nat) (v : Value) (zs : List (List Int)) : Prop := w.ownsRow base 9 1 v zs.length (zs.map scell) ∧ ∀ z ∈ zs, byts z

theorem So.nil (w : World) (base : Nat) : So w base (.slice none 0 0) [] := ⟨World.ownsRow_nil _ _ _ _, by simp⟩

theorem So.below {w w' : World} {base : Nat} {v : Value} {zs : List (List Int)} (h : So w base v zs) (hb : Below w.heap.size w w') : So w' base v zs := ⟨own_below h.1 hb, h.2⟩

theorem So.base {w : World} {base base' : Nat} {v : Value} {zs : List (List Int)} (h : So w base v zs) (hb : base' ≤ base) : So w base' v zs := ⟨own_base h.1 hb, h.2⟩

theorem So.slice {w : World} {base : Nat} {v : Value} {zs : List (List Int)} (h : So w base v zs) : ∃ a c, v = .slice a zs.length c := own_slice h.1

theorem Ss.of_own {w : World} {base : Nat} {a : Option Addr} {len cap : Nat} {zs : List (List Int)} (h : So w base (.slice a len cap) zs) : Ss w a len cap zs := by
  obtain ⟨ho, hr⟩ := h
  rcases ho.2 with ⟨he, hn⟩ | ⟨g, c, cur, he, hg, hh, h1, h2, h3, h4⟩
  · simp at he
    obtain ⟨rfl, rfl, rfl⟩ := he
    exact ⟨hn, by omega, Nat.le_refl _, fun _ => rfl, hr, fun h => absurd h (by omega)⟩
  · simp at he
    obtain ⟨rfl, rfl, rfl⟩ := he
    refine ⟨rfl, by unfold maxLen at h2; omega, h1, fun h => by simp at h, hr, fun _ => ⟨g, 0, rfl, (ho.lt g rfl).2, fun i z hi => ?_⟩⟩
    have hil : i < zs.length := (List.getElem?_eq_some_iff.1 hi).1
    have := ho.cellAt i (by omega)
    rw [Nat.zero_add, this]
    simp [hi]

theorem Tryz.infoStr : (Tryz.prog.info? 9).map (fun i => (i.zero, i.size, i.bytes)) = some (some (.string { data := #[] }), 1, 16) := by kernel_rfl

theorem wpList_append_s {w : World} {ops : Array Oper} {rest : List Oper} {o : Oper} {f : Act} {Q : Exit → Act → World → Prop} (hgd : o.guard = none) (s x : Operand)
    (ho : o.op = .call { callee := .builtin .append, args := #[s, x], argTypes := #[30, 30] }) (base : Nat) (v : Value) (zs : List (List Int)) (z : List Int) (b cap : Nat)
    (hs : f.eval s = v) (hx : f.eval x = .slice (some ⟨b, 0, none⟩) 1 cap) (hown : So w base v zs) (hz : byts z) (hc : w.cell? ⟨b, 0, none⟩ = some (scell z)) (hn : zs.length + 1 ≤ 1000000) (hbase : base ≤ w.heap.size)
    (h : ∀ v' w', So w' base v' (zs ++ [z]) → w.grownBy w' v.ownBlock → wpList Tryz.prog ops Q rest (f.put o.dst v') w') : wpList Tryz.prog ops Q (o :: rest) f w := by
  refine wpList_plain hgd fun K hK => ?_
  obtain ⟨i0, hi, hz0, hz1, hz2⟩ := info_parts Tryz.infoStr
  obtain ⟨v', w', hrun, h1, h2, _⟩ := run_append_own (P := Tryz.prog) w base 30 o.type 9 i0 _ 1 16 Tryz.underlying30 hi hz0 hz1 hz2 rfl (by decide) v zs.length _ hown.1 ⟨b, 0, none⟩ 1 cap [scell z] rfl
    (fun j u hj => by
      match j, hj with
      | 0, hj => simp at hj; subst hj; simpa [Addr.add] using hc)
    (fun u hu => by simp at hu; subst hu; rfl) (by unfold maxLen; omega) (by omega) hbase
  unfold Oper.wp
  simp [execOp, ho, resolve, invoke, builtin, hs, hx, hrun, Result.andThen]
  refine hK _ _ (h v' w' ⟨by simpa using h1, fun u hu => ?_⟩ h2)
  rcases List.mem_append.1 hu with hu | hu
  · exact hown.2 u hu
  · simp at hu; subst hu; exact hz

theorem So.grown {w w0 w' : World} {base : Nat} {v : Value} {zs : List (List Int)} (h : So w base v zs) (hB : Below base w0 w) (hb : base ≤ w.heap.size) (hg : w.grownBy w' v.ownBlock) : Below base w0 w' :=
  hB.grown hg hb (fun k hk => (h.1.lt k hk).1)

theorem str_cell (W : World) (s : ByteArray) : (W.alloc (.cells #[.string s] 9)).cell? ⟨W.heap.size, 0, none⟩ = some (.string s) := by
  rw [World.cell?_alloc_new]; rfl

set_option maxHeartbeats 1000000 in
theorem rin_any {w : World} {a : Option Addr} {len cap : Nat} {zs : List (List Int)} (s : List Int) (hS : Hid (Ss w a len cap zs)) (hs : Hid (byts s)) :
    Calls Tryz.prog 55 #[.slice a len cap, .string (strOfNums s)] w fun e w' => e = .returned (.bool (decide (s ∈ zs))) ∧ w = w' := by
  obtain ⟨h1, h2, h3, h4, h5, h6⟩ := hS.out
  have H1 : Hid (zs.length = len) := h1
  have H5 : Hid (∀ z ∈ zs, byts z) := h5
  have H6 : Hid _ := h6
  clear h1 h5 h6
  go_enter Tryz.func55, Tryz.ntmps55
  go_wp2
  go_loopw [9] (fun v wr => ∃ k : Nat, v = .int .i64 (k : Int) ∧ k ≤ len ∧ Hid (∀ j, j < k → zs[j]? ≠ some s) ∧ w = wr) (fun v _ => len - (intOf v).toNat)
  case atStart => exact ⟨0, rfl, by omega, fun j hj => absurd hj (by omega), rfl⟩
  case round =>
    obtain ⟨k, rfl, hk, HJ, rfl⟩ := hrel
    by_cases hkl : k < len
    · obtain ⟨b, off, rfl, hlt, hc⟩ := H6.out (by omega)
      obtain ⟨z, hz⟩ : ∃ z, zs[k]? = some z := ⟨zs[k]'(by rw [H1.out]; exact hkl), List.getElem?_eq_getElem (by rw [H1.out]; exact hkl)⟩
      have hcell := hc k z hz
      unfold scell at hcell
      have hzb : byts z := H5.out z (List.mem_of_getElem? hz)
      have heq := str_eq hzb hs.out
      by_cases e : z = s
      · have e' : (z == s) = true := by simpa using e
        rw [e'] at heq
        have E : Hid (decide (s ∈ zs) = true) := decide_eq_true (by rw [← e]; exact List.mem_of_getElem? hz)
        generalize strOfNums z = Z at hcell heq
        generalize strOfNums s = X at heq ⊢
        clear HJ hz e e' hc hzb
        go_wp2
        go_ret
        exact ⟨by rw [E.out]; rfl, rfl⟩
      · have e' : (z == s) = false := by simpa using e
        rw [e'] at heq
        have HJ2 : Hid (∀ j, j < k + 1 → zs[j]? ≠ some s) := fun j hj => by
          by_cases q : j = k
          · rw [q, hz]; simpa using e
          · exact HJ.out j (by omega)
        generalize strOfNums z = Z at hcell heq
        generalize strOfNums s = X at heq ⊢
        clear HJ hz e e' hc hzb
        go_wp2
        go_roundw
        case rel => first | exact ⟨k + 1, by go_num, by omega, HJ2, by first | rfl | trivial⟩ | ((repeat apply Exists.intro); exact ⟨⟨k + 1, by go_num, by omega, HJ2, by first | rfl | trivial⟩, rfl⟩)
        case measure => simp [intOf]; omega
    · obtain rfl : k = len := by omega
      have E : Hid (decide (s ∈ zs) = false) := decide_eq_false fun hm => by
        obtain ⟨j, hj⟩ := List.getElem?_of_mem hm
        exact HJ.out j (by rw [← H1.out]; exact (List.getElem?_eq_some_iff.1 hj).1) hj
      clear HJ
      go_wp2
      go_ret
      exact ⟨by rw [E.out]; rfl, rfl⟩

open Go.ChangeShapes Go.WideShapes Go.ChangeAt
theorem ss_open {H : Type} {enc : TypeId × Value → H} {W : World} {a : Option Addr} {len cap : Nat} {d : DataW H} {ps : List MemPlace}
    (h : DataW.Trod enc Tryz.prog W 0 (fun _ => true) true 30 (.slice a len cap) d ps) : ∃ zs, Ss W a len cap zs := by
  obtain ⟨fuel, hf⟩ := h
  have hf' : DataW.trod enc Tryz.prog W 0 (fun _ => true) true fuel 30 [.slice a len cap] = some (d, ps) := by simpa [Value.cells] using hf
  rcases open_strings Tryz.underlying30 Tryz.underlying9 (by kernel_rfl) hf' with ⟨hcs, _⟩ | ⟨x, l, c, ss, hcs, _, hl, hm, hz, _, hcell, hws⟩
  · simp at hcs
    obtain ⟨rfl, rfl, rfl⟩ := hcs
    exact ⟨[], rfl, by omega, Nat.le_refl _, fun _ => rfl, by simp, fun h => absurd h (by omega)⟩
  · simp at hcs
    obtain ⟨rfl, rfl, rfl⟩ := hcs
    simp only [if_true] at hz
    have hex : ∀ s : ByteArray, ∃ z : List Int, s = strOfNums z ∧ byts z := fun s => by
      obtain ⟨z, h1, h2⟩ := str_nums s
      exact ⟨z, h1, mem_bd h2⟩
    refine ⟨(ss.take len).map (fun s => (hex s).choose), by simp; omega, by unfold maxLen at hm; omega, hl, fun h => by simp at h, ?_, ?_⟩
    · intro z hz
      obtain ⟨s, _, rfl⟩ := List.mem_map.1 hz
      exact (hex s).choose_spec.2
    · intro hp
      obtain ⟨b, off, spot⟩ := x
      have hc0 := hcell 0 (by omega)
      have hspot : spot = none := by simpa [Addr.add] using World.cell?_spot hc0
      subst hspot
      refine ⟨b, off, rfl, ?_, ?_⟩
      · rcases Nat.lt_or_ge b W.heap.size with h | h
        · exact h
        · simp [World.cell?, Addr.add, Array.getElem?_eq_none h] at hc0
      · intro i z hi
        rw [List.getElem?_map] at hi
        cases hs : (ss.take len)[i]? with
        | none => rw [hs] at hi; simp at hi
        | some s =>
          rw [hs] at hi
          simp at hi
          subst hi
          have hil : i < len := by
            have := (List.getElem?_eq_some_iff.1 hs).1
            simp at this
            omega
          have := hcell i (by omega)
          have hp : (⟨b, off, none⟩ : Addr).add i = ⟨b, off + i, none⟩ := by unfold Addr.add; split <;> simp_all
          rw [hp] at this
          rw [this]
          rw [List.getElem?_take, if_pos hil] at hs
          simp only [List.getD, hs, Option.getD_some, scell]
          rw [← (hex s).choose_spec.1]

end Go.Proofs.YtfkhocmbhnigeaaGreat
