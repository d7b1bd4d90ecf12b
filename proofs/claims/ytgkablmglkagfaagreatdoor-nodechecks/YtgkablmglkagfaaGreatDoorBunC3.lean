/- Put together by a program out of these texts of mine: NRef, NRef2, NStr, NRef4. -/
import Derived.Deep.QuietTactic
import Derived.BigQuiet
import Derived.SliceStrings
import Derived.Test.YtgkablmglkagfaaGreatDoorBunC1
import Derived.Test.YtgkablmglkagfaaGreatDoorBunC2

/- The contracts of the reference's own Ident, Join, Parent, camel, Json, Entry. -/
namespace Go.Proofs.YtgkablmglkagfaaGreatDoor
open Go.RowKit
set_option linter.unusedVariables false
set_option linter.unusedSimpArgs false

theorem nident_big (s : List Int) (h : 200 < s.length ∨ s.length = 0) : nident s = false := by
  unfold nident
  rw [decide_eq_false (by omega)]
  simp

theorem nident_bad (s : List Int) (k : Nat) (hk : k < s.length) (h : lletter (s.getD k 0) = false) : nident s = false := by
  unfold nident
  have : s.all lletter = false := by
    rw [List.all_eq_false]
    refine ⟨s[k], List.getElem_mem hk, ?_⟩
    rw [show s.getD k 0 = s[k] by simp [List.getD, hk]] at h
    rw [h]; decide
  rw [this]; rfl

theorem nident_good (s : List Int) (h : ∀ k, k < s.length → lletter (s.getD k 0) = true) (h1 : 1 ≤ s.length) (h2 : s.length ≤ 200) : nident s = !lnumb (s.getD 0 0) := by
  unfold nident
  have : s.all lletter = true := by
    rw [List.all_eq_true]
    intro c hc
    obtain ⟨k, hk, rfl⟩ := List.getElem_of_mem hc
    have := h k hk
    rwa [show s.getD k 0 = s[k] by simp [List.getD, hk]] at this
  rw [this, decide_eq_true ⟨h1, h2⟩]; rfl

set_option maxHeartbeats 1000000 in
theorem rident_any (s : List Int) (w : World) (hz : Hid (∀ i, 0 ≤ s.getD i 0 ∧ s.getD i 0 ≤ 255)) (hlen : (s.length : Int) ≤ 9223372036854775807) :
    Calls Tryz.prog 87 #[.string (strOfNums s)] w fun e w' => e = .returned (.bool (nident s)) ∧ w = w' := by
  have hsz := strOfNums_size s
  have HA : Hid (∀ k, (h : k < s.length) → (((strOfNums s)[k]'(by rw [hsz]; exact h)).toNat : Int) = s.getD k 0) := fun k h => str_at s hz.out k _
  generalize strOfNums s = S at hsz HA
  go_enter Tryz.func87, Tryz.ntmps87
  go_wp2
  go_loopw [3] (fun v wr => ∃ k : Nat, v = .int .i64 (k : Int) ∧ k ≤ s.length ∧ Hid (∀ j, j < k → lletter (s.getD j 0) = true) ∧ w = wr) (fun v _ => s.length - (intOf v).toNat)
  case atStart => exact ⟨0, rfl, by omega, fun j hj => absurd hj (by omega), rfl⟩
  case round =>
    obtain ⟨k, rfl, hk, HJ, rfl⟩ := hrel
    by_cases hkl : k < s.length
    · have hat := HA.out k hkl
      have hcb := hz.out k
      obtain ⟨c, hc⟩ : ∃ c, c = s.getD k 0 := ⟨_, rfl⟩
      have HC : Hid (c = s.getD k 0) := hc
      rw [← hc] at hat hcb
      obtain ⟨c0, c255⟩ := hcb
      have q := fun W => rletter_any c W c0 c255
      clear hc
      by_cases hl : lletter c = true
      · rw [hl] at q
        have Q : Hid _ := q
        have HJ2 : Hid (∀ j, j < k + 1 → lletter (s.getD j 0) = true) := fun j hj => by
          by_cases e : j = k
          · rw [e, ← HC.out]; exact hl
          · exact HJ.out j (by omega)
        clear q hl HJ
        go_wp2_with fail
        refine Calls.mono (Q.out _) ?_
        rintro e w1 ⟨rfl, rfl⟩
        go_wp2
        go_roundw
        case rel => first | exact ⟨k + 1, by go_num, by omega, HJ2, by first | rfl | trivial⟩ | ((repeat apply Exists.intro); exact ⟨⟨k + 1, by go_num, by omega, HJ2, by first | rfl | trivial⟩, rfl⟩)
        case measure => simp [intOf]; omega
      · have hl' : lletter c = false := by simpa using hl
        rw [hl'] at q
        have Q : Hid _ := q
        have E : Hid (nident s = false) := nident_bad s k hkl (by rw [← HC.out]; exact hl')
        clear q hl hl' HJ
        go_wp2_with fail
        refine Calls.mono (Q.out _) ?_
        rintro e w1 ⟨rfl, rfl⟩
        go_wp2
        go_ret
        exact ⟨by rw [E.out]; rfl, rfl⟩
    · obtain rfl : k = s.length := by omega
      by_cases h0 : s.length = 0
      · have E : Hid (nident s = false) := nident_big s (.inr h0)
        have h1 : ¬ (1 : Int) ≤ (s.length : Int) := by omega
        clear HJ h0
        go_wp2
        go_ret
        exact ⟨by rw [E.out]; rfl, rfl⟩
      · have h1 : (1 : Int) ≤ (s.length : Int) := by omega
        by_cases h2 : s.length ≤ 200
        · have h2' : (s.length : Int) ≤ 200 := by omega
          have hat := HA.out 0 (by omega)
          have hcb := hz.out 0
          have E : Hid (nident s = !lnumb (s.getD 0 0)) := nident_good s HJ.out (by omega) h2
          generalize s.getD 0 0 = c at hat hcb E
          obtain ⟨c0, c255⟩ := hcb
          have Q : Hid _ := fun W => rnumber_any c W c0 c255
          clear HJ
          go_wp2_with fail
          refine Calls.mono (Q.out _) ?_
          rintro e w1 ⟨rfl, rfl⟩
          go_wp2
          go_ret
          exact ⟨by rw [E.out]; rfl, rfl⟩
        · have h2' : ¬ (s.length : Int) ≤ 200 := by omega
          have E : Hid (nident s = false) := nident_big s (.inl (by omega))
          clear HJ
          go_wp2
          go_ret
          exact ⟨by rw [E.out]; rfl, rfl⟩

end Go.Proofs.YtgkablmglkagfaaGreatDoor

/- The contract of the reference's own Parent. -/
namespace Go.Proofs.YtgkablmglkagfaaGreatDoor
open Go.RowKit
set_option linter.unusedVariables false
set_option linter.unusedSimpArgs false

/-- 's[:k]' of a text. -/
theorem run_head (s : List Int) (k : Nat) (hk : k ≤ s.length) (hl : (s.length : Int) ≤ 9223372036854775807) : ∀ W, (Instr.slice 9 (.string (strOfNums s)) none (some (.int .i64 (k : Int))) none).run Tryz.prog W = .ok (.string (strOfNums (s.take k))) W := fun W => by
  have hsz := strOfNums_size s
  rw [run_slice_string_h (P := Tryz.prog) W 9 (strOfNums s) Tryz.underlying9 .i64 (k : Int) (by omega) (by omega)]
  rw [Int.toNat_natCast, str_cut]
  simp

/-- 's[k:]' of a text. -/
theorem run_tail (s : List Int) (k : Nat) (hk : k ≤ s.length) (ii : Int) (hi : ii = (k : Int)) : ∀ W, (Instr.slice 9 (.string (strOfNums s)) (some (.int .i64 ii)) none none).run Tryz.prog W = .ok (.string (strOfNums (s.drop k))) W := fun W => by
  rw [run_cut_to (strOfNums s) k ii hi (by rw [strOfNums_size]; exact hk) W, str_cut, strOfNums_size, List.take_of_length_le (by simp)]

end Go.Proofs.YtgkablmglkagfaaGreatDoor

/- Lists of texts in memory: what a slice of texts holds; one text more; whether a text is among them (the reference's In), which lists are alike (the reference's Same), a name that is not taken (the reference's Synthetic). -/
namespace Go.Proofs.YtgkablmglkagfaaGreatDoor
open Go.RowKit
set_option linter.unusedVariables false
set_option linter.unusedSimpArgs false

def scell (z : List Int) : Value := .string (strOfNums z)

def byts (z : List Int) : Prop := ∀ c ∈ z, 0 ≤ c ∧ c ≤ 255

/-- The slice at a, of len texts, holds zs in the world w. -/
def Ss (w : World) (a : Option Addr) (len cap : Nat) (zs : List (List Int)) : Prop :=
  zs.length = len ∧ (len : Int) ≤ 9223372036854775807 ∧ len ≤ cap ∧ (a = none → cap = 0) ∧ (∀ z ∈ zs, byts z) ∧
    (0 < len → ∃ b off, a = some ⟨b, off, none⟩ ∧ b < w.heap.size ∧ ∀ i z, zs[i]? = some z → w.cell? ⟨b, off + i, none⟩ = some (scell z))

theorem Ss.below {w w' : World} {a : Option Addr} {len cap : Nat} {zs : List (List Int)} (h : Ss w a len cap zs) {B : Nat} (hb : Below B w w') (hB : w.heap.size ≤ B) : Ss w' a len cap zs := by
  obtain ⟨h1, h2, h3, h4, h5, h6⟩ := h
  refine ⟨h1, h2, h3, h4, h5, fun hp => ?_⟩
  obtain ⟨b, off, rfl, hlt, hc⟩ := h6 hp
  exact ⟨b, off, rfl, Nat.lt_of_lt_of_le hlt hb.size, fun i z hi => (hb.cell (show b < B by omega)).trans (hc i z hi)⟩

/-- The call's own list of texts. -/
def So (w : World) (base : Nat) (v : Value) (zs : List (List Int)) : Prop := w.ownsRow base 9 1 v zs.length (zs.map scell) ∧ ∀ z ∈ zs, byts z

theorem So.nil (w : World) (base : Nat) : So w base (.slice none 0 0) [] := ⟨World.ownsRow_nil _ _ _ _, by simp⟩

theorem So.below {w w' : World} {base : Nat} {v : Value} {zs : List (List Int)} (h : So w base v zs) (hb : Below w.heap.size w w') : So w' base v zs := ⟨own_below h.1 hb, h.2⟩

theorem So.base {w : World} {base base' : Nat} {v : Value} {zs : List (List Int)} (h : So w base v zs) (hb : base' ≤ base) : So w base' v zs := ⟨own_base h.1 hb, h.2⟩

theorem So.slice {w : World} {base : Nat} {v : Value} {zs : List (List Int)} (h : So w base v zs) : ∃ a c, v = .slice a zs.length c := own_slice h.1

theorem Ss.of_own {w : World} {base : Nat} {a : Option Addr} {len cap : Nat} {zs : List (List Int)} (h : So w base (.slice a len cap) zs) : Ss w a len cap zs := by
  obtain ⟨ho, hr⟩ := h
  rcases ho.2 with ⟨he, hn⟩ | ⟨g, c, cur, he, hg, hh, h1, h2, h3, h4⟩
  · simp at he
    obtain ⟨rfl, rfl, rfl⟩ := he
    exact ⟨hn, by omega, Nat.le_refl _, fun _ => rfl, hr, fun h => absurd h (by omega)⟩
  · simp at he
    obtain ⟨rfl, rfl, rfl⟩ := he
    refine ⟨rfl, by unfold maxLen at h2; omega, h1, fun h => by simp at h, hr, fun _ => ⟨g, 0, rfl, (ho.lt g rfl).2, fun i z hi => ?_⟩⟩
    have hil : i < zs.length := (List.getElem?_eq_some_iff.1 hi).1
    have := ho.cellAt i (by omega)
    rw [Nat.zero_add, this]
    simp [hi]

theorem Tryz.infoStr : (Tryz.prog.info? 9).map (fun i => (i.zero, i.size, i.bytes)) = some (some (.string { data := #[] }), 1, 16) := by kernel_rfl

theorem wpList_append_s {w : World} {ops : Array Oper} {rest : List Oper} {o : Oper} {f : Act} {Q : Exit → Act → World → Prop} (hgd : o.guard = none) (s x : Operand)
    (ho : o.op = .call { callee := .builtin .append, args := #[s, x], argTypes := #[67, 67] }) (base : Nat) (v : Value) (zs : List (List Int)) (z : List Int) (b cap : Nat)
    (hs : f.eval s = v) (hx : f.eval x = .slice (some ⟨b, 0, none⟩) 1 cap) (hown : So w base v zs) (hz : byts z) (hc : w.cell? ⟨b, 0, none⟩ = some (scell z)) (hn : zs.length + 1 ≤ 1000000) (hbase : base ≤ w.heap.size)
    (h : ∀ v' w', So w' base v' (zs ++ [z]) → w.grownBy w' v.ownBlock → wpList Tryz.prog ops Q rest (f.put o.dst v') w') : wpList Tryz.prog ops Q (o :: rest) f w := by
  refine wpList_plain hgd fun K hK => ?_
  obtain ⟨i0, hi, hz0, hz1, hz2⟩ := info_parts Tryz.infoStr
  obtain ⟨v', w', hrun, h1, h2, _⟩ := run_append_own (P := Tryz.prog) w base 67 o.type 9 i0 _ 1 16 Tryz.underlying67 hi hz0 hz1 hz2 rfl (by decide) v zs.length _ hown.1 ⟨b, 0, none⟩ 1 cap [scell z] rfl
    (fun j u hj => by
      match j, hj with
      | 0, hj => simp at hj; subst hj; simpa [Addr.add] using hc)
    (fun u hu => by simp at hu; subst hu; rfl) (by unfold maxLen; omega) (by omega) hbase
  unfold Oper.wp
  simp [execOp, ho, resolve, invoke, builtin, hs, hx, hrun, Result.andThen]
  refine hK _ _ (h v' w' ⟨by simpa using h1, fun u hu => ?_⟩ h2)
  rcases List.mem_append.1 hu with hu | hu
  · exact hown.2 u hu
  · simp at hu; subst hu; exact hz

theorem So.grown {w w0 w' : World} {base : Nat} {v : Value} {zs : List (List Int)} (h : So w base v zs) (hB : Below base w0 w) (hb : base ≤ w.heap.size) (hg : w.grownBy w' v.ownBlock) : Below base w0 w' :=
  hB.grown hg hb (fun k hk => (h.1.lt k hk).1)

theorem str_cell (W : World) (s : ByteArray) : (W.alloc (.cells #[.string s] 9)).cell? ⟨W.heap.size, 0, none⟩ = some (.string s) := by
  rw [World.cell?_alloc_new]; rfl

open Go.ChangeShapes Go.WideShapes Go.ChangeAt
theorem ss_open {H : Type} {enc : TypeId × Value → H} {W : World} {a : Option Addr} {len cap : Nat} {d : DataW H} {ps : List MemPlace}
    (h : DataW.Trod enc Tryz.prog W 0 (fun _ => true) true 67 (.slice a len cap) d ps) : ∃ zs, Ss W a len cap zs := by
  obtain ⟨fuel, hf⟩ := h
  have hf' : DataW.trod enc Tryz.prog W 0 (fun _ => true) true fuel 67 [.slice a len cap] = some (d, ps) := by simpa [Value.cells] using hf
  rcases open_strings Tryz.underlying67 Tryz.underlying9 (by kernel_rfl) hf' with ⟨hcs, _⟩ | ⟨x, l, c, ss, hcs, _, hl, hm, hz, _, hcell, hws⟩
  · simp at hcs
    obtain ⟨rfl, rfl, rfl⟩ := hcs
    exact ⟨[], rfl, by omega, Nat.le_refl _, fun _ => rfl, by simp, fun h => absurd h (by omega)⟩
  · simp at hcs
    obtain ⟨rfl, rfl, rfl⟩ := hcs
    simp only [if_true] at hz
    have hex : ∀ s : ByteArray, ∃ z : List Int, s = strOfNums z ∧ byts z := fun s => by
      obtain ⟨z, h1, h2⟩ := str_nums s
      exact ⟨z, h1, mem_bd h2⟩
    refine ⟨(ss.take len).map (fun s => (hex s).choose), by simp; omega, by unfold maxLen at hm; omega, hl, fun h => by simp at h, ?_, ?_⟩
    · intro z hz
      obtain ⟨s, _, rfl⟩ := List.mem_map.1 hz
      exact (hex s).choose_spec.2
    · intro hp
      obtain ⟨b, off, spot⟩ := x
      have hc0 := hcell 0 (by omega)
      have hspot : spot = none := by simpa [Addr.add] using World.cell?_spot hc0
      subst hspot
      refine ⟨b, off, rfl, ?_, ?_⟩
      · rcases Nat.lt_or_ge b W.heap.size with h | h
        · exact h
        · simp [World.cell?, Addr.add, Array.getElem?_eq_none h] at hc0
      · intro i z hi
        rw [List.getElem?_map] at hi
        cases hs : (ss.take len)[i]? with
        | none => rw [hs] at hi; simp at hi
        | some s =>
          rw [hs] at hi
          simp at hi
          subst hi
          have hil : i < len := by
            have := (List.getElem?_eq_some_iff.1 hs).1
            simp at this
            omega
          have := hcell i (by omega)
          have hp : (⟨b, off, none⟩ : Addr).add i = ⟨b, off + i, none⟩ := by unfold Addr.add; split <;> simp_all
          rw [hp] at this
          rw [this]
          rw [List.getElem?_take, if_pos hil] at hs
          simp only [List.getD, hs, Option.getD_some, scell]
          rw [← (hex s).choose_spec.1]

end Go.Proofs.YtgkablmglkagfaaGreatDoor

/- The contracts of the reference's own Word, Keyword. -/
namespace Go.Proofs.YtgkablmglkagfaaGreatDoor
open Go.RowKit
set_option linter.unusedVariables false
set_option linter.unusedSimpArgs false

/-- The words of the plain types, each at its type's number. -/
def nwords : List (List Int) := [[], [100, 111, 117, 98, 108, 101], [102, 108, 111, 97, 116], [105, 110, 116, 54, 52], [117, 105, 110, 116, 54, 52], [105, 110, 116, 51, 50], [102, 105, 120, 101, 100, 54, 52], [102, 105, 120, 101, 100, 51, 50], [98, 111, 111, 108], [115, 116, 114, 105, 110, 103], [], [], [98, 121, 116, 101, 115], [117, 105, 110, 116, 51, 50], [], [115, 102, 105, 120, 101, 100, 51, 50], [115, 102, 105, 120, 101, 100, 54, 52], [115, 105, 110, 116, 51, 50], [115, 105, 110, 116, 54, 52]]

/-- The other words with a meaning. -/
def nkeys : List (List Int) := [[109, 101, 115, 115, 97, 103, 101], [101, 110, 117, 109], [101, 120, 116, 101, 110, 100], [101, 120, 116, 101, 110, 115, 105, 111, 110, 115], [111, 112, 116, 105, 111, 110], [111, 110, 101, 111, 102], [109, 97, 112], [114, 101, 115, 101, 114, 118, 101, 100], [111, 112, 116, 105, 111, 110, 97, 108], [114, 101, 113, 117, 105, 114, 101, 100], [114, 101, 112, 101, 97, 116, 101, 100], [114, 112, 99], [115, 101, 114, 118, 105, 99, 101], [105, 109, 112, 111, 114, 116], [112, 97, 99, 107, 97, 103, 101], [115, 121, 110, 116, 97, 120], [115, 116, 114, 101, 97, 109], [114, 101, 116, 117, 114, 110, 115], [116, 111], [109, 97, 120], [112, 117, 98, 108, 105, 99]]

def nwf (s : List Int) : List (List Int) → Nat → Nat
  | [], _ => 0
  | z :: r, k => if z ≠ [] ∧ z = s then k else nwf s r (k + 1)

/-- The type of a plain type's word; 0: none. -/
def nword (s : List Int) : Nat := nwf s nwords 0

def nkey (s : List Int) : Bool := decide (s ∈ nkeys) || decide (nword s ≠ 0)

theorem nwords_bd : ∀ z ∈ nwords, byts z := by unfold byts; decide

theorem nkeys_bd : ∀ z ∈ nkeys, byts z := by unfold byts; decide

theorem lit_cell (W : World) (C : Array Value) (zs : List (List Int)) (hC : C.toList = zs.map scell) (k : Nat) (z : List Int) (hz : zs[k]? = some z) : (W.alloc (.cells C 9)).cell? ⟨W.heap.size, k, none⟩ = some (.string (strOfNums z)) := by
  rw [World.cell?_alloc_new, ← Array.getElem?_toList, hC, List.getElem?_map, hz]
  rfl

set_option maxRecDepth 10000 in
set_option maxHeartbeats 2000000 in
theorem rword_any (s : List Int) (w : World) (hs : Hid (byts s)) :
    Calls Tryz.prog 90 #[.string (strOfNums s)] w fun e w' => e = .returned (.int .i64 (nword s : Int)) ∧ Below w.heap.size w w' := by
  have HC : Hid (∀ k z, nwords[k]? = some z → (w.alloc (.cells #[.string { data := #[] }, .string { data := #[100, 111, 117, 98, 108, 101] }, .string { data := #[102, 108, 111, 97, 116] }, .string { data := #[105, 110, 116, 54, 52] }, .string { data := #[117, 105, 110, 116, 54, 52] }, .string { data := #[105, 110, 116, 51, 50] }, .string { data := #[102, 105, 120, 101, 100, 54, 52] }, .string { data := #[102, 105, 120, 101, 100, 51, 50] }, .string { data := #[98, 111, 111, 108] }, .string { data := #[115, 116, 114, 105, 110, 103] }, .string { data := #[] }, .string { data := #[] }, .string { data := #[98, 121, 116, 101, 115] }, .string { data := #[117, 105, 110, 116, 51, 50] }, .string { data := #[] }, .string { data := #[115, 102, 105, 120, 101, 100, 51, 50] }, .string { data := #[115, 102, 105, 120, 101, 100, 54, 52] }, .string { data := #[115, 105, 110, 116, 51, 50] }, .string { data := #[115, 105, 110, 116, 54, 52] }] 9)).cell? ⟨w.heap.size, k, none⟩ = some (.string (strOfNums z))) := fun k z hz => lit_cell w _ nwords rfl k z hz
  have HBl : Hid (Below w.heap.size w (w.alloc (.cells #[.string { data := #[] }, .string { data := #[100, 111, 117, 98, 108, 101] }, .string { data := #[102, 108, 111, 97, 116] }, .string { data := #[105, 110, 116, 54, 52] }, .string { data := #[117, 105, 110, 116, 54, 52] }, .string { data := #[105, 110, 116, 51, 50] }, .string { data := #[102, 105, 120, 101, 100, 54, 52] }, .string { data := #[102, 105, 120, 101, 100, 51, 50] }, .string { data := #[98, 111, 111, 108] }, .string { data := #[115, 116, 114, 105, 110, 103] }, .string { data := #[] }, .string { data := #[] }, .string { data := #[98, 121, 116, 101, 115] }, .string { data := #[117, 105, 110, 116, 51, 50] }, .string { data := #[] }, .string { data := #[115, 102, 105, 120, 101, 100, 51, 50] }, .string { data := #[115, 102, 105, 120, 101, 100, 54, 52] }, .string { data := #[115, 105, 110, 116, 51, 50] }, .string { data := #[115, 105, 110, 116, 54, 52] }] 9))) := (Below.refl _ _).alloc (Nat.le_refl _) _
  obtain ⟨R, hR⟩ : ∃ R, R = nword s := ⟨_, rfl⟩
  rw [← hR]
  have HR : Hid (R = nwf s (nwords.drop 0) 0) := hR
  clear hR
  go_enter Tryz.func90, Tryz.ntmps90
  go_wp2
  go_loopw [7] (fun v wr => ∃ k : Nat, v = .int .i64 (k : Int) ∧ k ≤ 19 ∧ Hid (R = nwf s (nwords.drop k) k) ∧ w.alloc (.cells #[.string { data := #[] }, .string { data := #[100, 111, 117, 98, 108, 101] }, .string { data := #[102, 108, 111, 97, 116] }, .string { data := #[105, 110, 116, 54, 52] }, .string { data := #[117, 105, 110, 116, 54, 52] }, .string { data := #[105, 110, 116, 51, 50] }, .string { data := #[102, 105, 120, 101, 100, 54, 52] }, .string { data := #[102, 105, 120, 101, 100, 51, 50] }, .string { data := #[98, 111, 111, 108] }, .string { data := #[115, 116, 114, 105, 110, 103] }, .string { data := #[] }, .string { data := #[] }, .string { data := #[98, 121, 116, 101, 115] }, .string { data := #[117, 105, 110, 116, 51, 50] }, .string { data := #[] }, .string { data := #[115, 102, 105, 120, 101, 100, 51, 50] }, .string { data := #[115, 102, 105, 120, 101, 100, 54, 52] }, .string { data := #[115, 105, 110, 116, 51, 50] }, .string { data := #[115, 105, 110, 116, 54, 52] }] 9) = wr) (fun v _ => 19 - (intOf v).toNat)
  case atStart => exact ⟨0, rfl, by omega, HR, rfl⟩
  case round =>
    obtain ⟨k, rfl, hk, HJ, rfl⟩ := hrel
    by_cases hkl : k < 19
    · obtain ⟨z, hz⟩ : ∃ z, nwords[k]? = some z := ⟨nwords[k]'hkl, List.getElem?_eq_getElem hkl⟩
      have hcell := HC.out k z hz
      have hzb := nwords_bd z (List.mem_of_getElem? hz)
      have heq := str_eq hzb hs.out
      have HJ' := HJ.out
      rw [show nwords.drop k = z :: nwords.drop (k + 1) by
        rw [List.drop_eq_getElem_cons hkl]
        congr 1
        rw [List.getElem?_eq_getElem hkl] at hz
        exact Option.some.inj hz, nwf] at HJ'
      by_cases hz0 : z = []
      · rw [if_neg (fun h => h.1 hz0)] at HJ'
        have hne : ((strOfNums z).toList == []) = true := by rw [hz0, str_list]; rfl
        have HJ2 : Hid _ := HJ'
        generalize strOfNums z = Z at hcell hne heq
        generalize strOfNums s = X at heq ⊢
        clear HJ HJ' hz hzb hz0 heq
        go_wp2
        go_roundw
        case rel => first | exact ⟨k + 1, by go_num, by omega, HJ2, by first | rfl | trivial⟩ | ((repeat apply Exists.intro); exact ⟨⟨k + 1, by go_num, by omega, HJ2, by first | rfl | trivial⟩, rfl⟩)
        case measure => simp [intOf]; omega
      · have hne : ((strOfNums z).toList == []) = false := by
          cases z with
          | nil => exact absurd rfl hz0
          | cons c r => exact str_ne c r
        by_cases hzs : z = s
        · rw [if_pos ⟨hz0, hzs⟩] at HJ'
          have e' : (z == s) = true := by simpa using hzs
          rw [e'] at heq
          have HJ2 : Hid _ := HJ'
          generalize strOfNums z = Z at hcell hne heq
          generalize strOfNums s = X at heq ⊢
          clear HJ HJ' hz hzb hz0 hzs e'
          go_wp2
          go_ret
          exact ⟨by rw [HJ2.out]; rfl, HBl.out⟩
        · rw [if_neg (fun h => hzs h.2)] at HJ'
          have e' : (z == s) = false := by simpa using hzs
          rw [e'] at heq
          have HJ2 : Hid _ := HJ'
          generalize strOfNums z = Z at hcell hne heq
          generalize strOfNums s = X at heq ⊢
          clear HJ HJ' hz hzb hz0 hzs e'
          go_wp2
          go_roundw
          case rel => first | exact ⟨k + 1, by go_num, by omega, HJ2, by first | rfl | trivial⟩ | ((repeat apply Exists.intro); exact ⟨⟨k + 1, by go_num, by omega, HJ2, by first | rfl | trivial⟩, rfl⟩)
          case measure => simp [intOf]; omega
    · obtain rfl : k = 19 := by omega
      have E : Hid (R = 0) := by show _ = _; rw [HJ.out]; rfl
      clear HJ
      go_wp2
      go_ret
      exact ⟨by rw [E.out]; rfl, HBl.out⟩

set_option maxRecDepth 10000 in
set_option maxHeartbeats 2000000 in
theorem rkey_any (s : List Int) (w : World) (hs : Hid (byts s)) :
    Calls Tryz.prog 98 #[.string (strOfNums s)] w fun e w' => e = .returned (.bool (nkey s)) ∧ Below w.heap.size w w' := by
  have HC : Hid (∀ k z, nkeys[k]? = some z → (w.alloc (.cells #[.string { data := #[109, 101, 115, 115, 97, 103, 101] }, .string { data := #[101, 110, 117, 109] }, .string { data := #[101, 120, 116, 101, 110, 100] }, .string { data := #[101, 120, 116, 101, 110, 115, 105, 111, 110, 115] }, .string { data := #[111, 112, 116, 105, 111, 110] }, .string { data := #[111, 110, 101, 111, 102] }, .string { data := #[109, 97, 112] }, .string { data := #[114, 101, 115, 101, 114, 118, 101, 100] }, .string { data := #[111, 112, 116, 105, 111, 110, 97, 108] }, .string { data := #[114, 101, 113, 117, 105, 114, 101, 100] }, .string { data := #[114, 101, 112, 101, 97, 116, 101, 100] }, .string { data := #[114, 112, 99] }, .string { data := #[115, 101, 114, 118, 105, 99, 101] }, .string { data := #[105, 109, 112, 111, 114, 116] }, .string { data := #[112, 97, 99, 107, 97, 103, 101] }, .string { data := #[115, 121, 110, 116, 97, 120] }, .string { data := #[115, 116, 114, 101, 97, 109] }, .string { data := #[114, 101, 116, 117, 114, 110, 115] }, .string { data := #[116, 111] }, .string { data := #[109, 97, 120] }, .string { data := #[112, 117, 98, 108, 105, 99] }] 9)).cell? ⟨w.heap.size, k, none⟩ = some (.string (strOfNums z))) := fun k z hz => lit_cell w _ nkeys rfl k z hz
  have HBl : Hid (Below w.heap.size w (w.alloc (.cells #[.string { data := #[109, 101, 115, 115, 97, 103, 101] }, .string { data := #[101, 110, 117, 109] }, .string { data := #[101, 120, 116, 101, 110, 100] }, .string { data := #[101, 120, 116, 101, 110, 115, 105, 111, 110, 115] }, .string { data := #[111, 112, 116, 105, 111, 110] }, .string { data := #[111, 110, 101, 111, 102] }, .string { data := #[109, 97, 112] }, .string { data := #[114, 101, 115, 101, 114, 118, 101, 100] }, .string { data := #[111, 112, 116, 105, 111, 110, 97, 108] }, .string { data := #[114, 101, 113, 117, 105, 114, 101, 100] }, .string { data := #[114, 101, 112, 101, 97, 116, 101, 100] }, .string { data := #[114, 112, 99] }, .string { data := #[115, 101, 114, 118, 105, 99, 101] }, .string { data := #[105, 109, 112, 111, 114, 116] }, .string { data := #[112, 97, 99, 107, 97, 103, 101] }, .string { data := #[115, 121, 110, 116, 97, 120] }, .string { data := #[115, 116, 114, 101, 97, 109] }, .string { data := #[114, 101, 116, 117, 114, 110, 115] }, .string { data := #[116, 111] }, .string { data := #[109, 97, 120] }, .string { data := #[112, 117, 98, 108, 105, 99] }] 9))) := (Below.refl _ _).alloc (Nat.le_refl _) _
  have q := fun W => rword_any s W hs
  go_enter Tryz.func98, Tryz.ntmps98
  have QW : Hid _ := q
  clear q
  go_wp2
  go_loopw [7] (fun v wr => ∃ k : Nat, v = .int .i64 (k : Int) ∧ k ≤ 21 ∧ Hid (∀ j, j < k → nkeys[j]? ≠ some s) ∧ w.alloc (.cells #[.string { data := #[109, 101, 115, 115, 97, 103, 101] }, .string { data := #[101, 110, 117, 109] }, .string { data := #[101, 120, 116, 101, 110, 100] }, .string { data := #[101, 120, 116, 101, 110, 115, 105, 111, 110, 115] }, .string { data := #[111, 112, 116, 105, 111, 110] }, .string { data := #[111, 110, 101, 111, 102] }, .string { data := #[109, 97, 112] }, .string { data := #[114, 101, 115, 101, 114, 118, 101, 100] }, .string { data := #[111, 112, 116, 105, 111, 110, 97, 108] }, .string { data := #[114, 101, 113, 117, 105, 114, 101, 100] }, .string { data := #[114, 101, 112, 101, 97, 116, 101, 100] }, .string { data := #[114, 112, 99] }, .string { data := #[115, 101, 114, 118, 105, 99, 101] }, .string { data := #[105, 109, 112, 111, 114, 116] }, .string { data := #[112, 97, 99, 107, 97, 103, 101] }, .string { data := #[115, 121, 110, 116, 97, 120] }, .string { data := #[115, 116, 114, 101, 97, 109] }, .string { data := #[114, 101, 116, 117, 114, 110, 115] }, .string { data := #[116, 111] }, .string { data := #[109, 97, 120] }, .string { data := #[112, 117, 98, 108, 105, 99] }] 9) = wr) (fun v _ => 21 - (intOf v).toNat)
  case atStart => exact ⟨0, rfl, by omega, fun j hj => absurd hj (by omega), rfl⟩
  case round =>
    obtain ⟨k, rfl, hk, HJ, rfl⟩ := hrel
    by_cases hkl : k < 21
    · obtain ⟨z, hz⟩ : ∃ z, nkeys[k]? = some z := ⟨nkeys[k]'hkl, List.getElem?_eq_getElem hkl⟩
      have hcell := HC.out k z hz
      have hzb := nkeys_bd z (List.mem_of_getElem? hz)
      have heq := str_eq hzb hs.out
      by_cases hzs : z = s
      · have e' : (z == s) = true := by simpa using hzs
        rw [e'] at heq
        have E : Hid (nkey s = true) := by show _ = _; unfold nkey; rw [decide_eq_true (by rw [← hzs]; exact List.mem_of_getElem? hz)]; rfl
        generalize strOfNums z = Z at hcell heq
        generalize strOfNums s = X at heq QW ⊢
        clear HJ hz hzb hzs e'
        go_wp2
        go_ret
        exact ⟨by rw [E.out]; rfl, HBl.out⟩
      · have e' : (z == s) = false := by simpa using hzs
        rw [e'] at heq
        have HJ2 : Hid (∀ j, j < k + 1 → nkeys[j]? ≠ some s) := fun j hj => by
          by_cases q : j = k
          · rw [q, hz]; simpa using hzs
          · exact HJ.out j (by omega)
        generalize strOfNums z = Z at hcell heq
        generalize strOfNums s = X at heq QW ⊢
        clear HJ hz hzb hzs e'
        go_wp2
        go_roundw
        case rel => first | exact ⟨k + 1, by go_num, by omega, HJ2, by first | rfl | trivial⟩ | ((repeat apply Exists.intro); exact ⟨⟨k + 1, by go_num, by omega, HJ2, by first | rfl | trivial⟩, rfl⟩)
        case measure => simp [intOf]; omega
    · obtain rfl : k = 21 := by omega
      have hnm : ¬ s ∈ nkeys := fun hm => by
        obtain ⟨j, hj⟩ := List.getElem?_of_mem hm
        exact HJ.out j (List.getElem?_eq_some_iff.1 hj).1 hj
      have E : Hid (nkey s = decide (nword s ≠ 0)) := by show _ = _; unfold nkey; rw [decide_eq_false hnm]; rfl
      generalize nword s = n at E QW
      clear HJ hnm
      go_wp2_with fail
      refine Calls.mono (QW.out _) ?_
      rintro e w1 ⟨rfl, hb1⟩
      go_wp2
      go_ret
      refine ⟨?_, HBl.out.trans (hb1.mono HBl.out.size)⟩
      rw [E.out]
      by_cases h : n = 0
      · subst h; rfl
      · rw [decide_eq_true h]
        exact ret_bool (by simp; omega)

end Go.Proofs.YtgkablmglkagfaaGreatDoor
