/- Put together by a program out of these texts of mine: NRef2, TInt, NStr, NRef4, TMem, TMath, TChk0, TChk2, GMath, GMem. -/
import Derived.Deep.QuietTactic
import Derived.BigQuiet
import Derived.SliceStrings
import Derived.Deep.Slices
import Derived.Test.YtlekfcehmlepkaaGreatDoorBunL4

namespace Go.Proofs.YtlekfcehmlepkaaGreatDoor
open Go.RowKit
set_option linter.unusedVariables false
set_option linter.unusedSimpArgs false

theorem run_tail (s : List Int) (k : Nat) (hk : k ≤ s.length) (ii : Int) (hi : ii = (k : Int)) : ∀ W, (Instr.slice 9 (.string (strOfNums s)) (some (.int .i64 ii)) none none).run Tryz.prog W = .ok (.string (strOfNums (s.drop k))) W := fun W => by
  rw [run_cut_to (strOfNums s) k ii hi (by rw [strOfNums_size]; exact hk) W, str_cut, strOfNums_size, List.take_of_length_le (by simp)]

def tintd (minus : Bool) (d : List Int) : Int × Bool × Bool :=
  if (qnum d).2 = false ∨ qdg 20 (qnum d).1 ≠ d ∨ (minus = true ∧ ((qnum d).1 = 0 ∨ 9223372036854775808 < (qnum d).1)) then (0, false, false) else ((qnum d).1, minus, true)

def tint (s : List Int) : Int × Bool × Bool := if s.getD 0 0 = 45 then tintd true (s.drop 1) else tintd false s

theorem qnm_bd (base : Int) (hb : 0 < base) : ∀ (s : List Int) (n : Int), 0 ≤ n → n ≤ 18446744073709551615 → 0 ≤ (qnm base s n).1 ∧ (qnm base s n).1 ≤ 18446744073709551615
  | [], n, h0, h1 => by rw [qnm]; exact ⟨h0, h1⟩
  | c :: r, n, h0, h1 => by
    rw [qnm]
    by_cases h : base ≤ dgt c ∨ (18446744073709551615 - dgt c) / base < n
    · rw [if_pos h]; decide
    · rw [if_neg h]
      have hd := dgt_bd c
      have hm : 0 ≤ n * base := Int.mul_nonneg h0 (by omega)
      have hle : n ≤ (18446744073709551615 - dgt c) / base := by omega
      have := Int.mul_le_of_le_ediv hb hle
      exact qnm_bd base hb r _ (by omega) (by omega)

theorem qnum_bd (s : List Int) : 0 ≤ (qnum s).1 ∧ (qnum s).1 ≤ 18446744073709551615 := by
  unfold qnum
  repeat' split
  all_goals first | (refine qnm_bd _ (by omega) _ _ (by omega) (by omega)) | (simp)

def scell (z : List Int) : Value := .string (strOfNums z)

def byts (z : List Int) : Prop := ∀ c ∈ z, 0 ≤ c ∧ c ≤ 255

def Ss (w : World) (a : Option Addr) (len cap : Nat) (zs : List (List Int)) : Prop :=
  zs.length = len ∧ (len : Int) ≤ 9223372036854775807 ∧ len ≤ cap ∧ (a = none → cap = 0) ∧ (∀ z ∈ zs, byts z) ∧
    (0 < len → ∃ b off, a = some ⟨b, off, none⟩ ∧ b < w.heap.size ∧ ∀ i z, zs[i]? = some z → w.cell? ⟨b, off + i, none⟩ = some (scell z))

def So (w : World) (base : Nat) (v : Value) (zs : List (List Int)) : Prop := w.ownsRow base 9 1 v zs.length (zs.map scell) ∧ ∀ z ∈ zs, byts z

theorem So.nil (w : World) (base : Nat) : So w base (.slice none 0 0) [] := ⟨World.ownsRow_nil _ _ _ _, by simp⟩

theorem So.below {w w' : World} {base : Nat} {v : Value} {zs : List (List Int)} (h : So w base v zs) (hb : Below w.heap.size w w') : So w' base v zs := ⟨own_below h.1 hb, h.2⟩

theorem So.slice {w : World} {base : Nat} {v : Value} {zs : List (List Int)} (h : So w base v zs) : ∃ a c, v = .slice a zs.length c := own_slice h.1

theorem Ss.of_own {w : World} {base : Nat} {a : Option Addr} {len cap : Nat} {zs : List (List Int)} (h : So w base (.slice a len cap) zs) : Ss w a len cap zs := by
  obtain ⟨ho, hr⟩ := h
  rcases ho.2 with ⟨he, hn⟩ | ⟨g, c, cur, he, hg, hh, h1, h2, h3, h4⟩
  · simp at he
    obtain ⟨rfl, rfl, rfl⟩ := he
    exact ⟨hn, by omega, Nat.le_refl _, fun _ => rfl, hr, fun h => absurd h (by omega)⟩
  · simp at he
    obtain ⟨rfl, rfl, rfl⟩ := he
    refine ⟨rfl, by unfold maxLen at h2; omega, h1, fun h => by simp at h, hr, fun _ => ⟨g, 0, rfl, (ho.lt g rfl).2, fun i z hi => ?_⟩⟩
    have hil : i < zs.length := (List.getElem?_eq_some_iff.1 hi).1
    have := ho.cellAt i (by omega)
    rw [Nat.zero_add, this]
    simp [hi]

theorem Tryz.infoStr : (Tryz.prog.info? 9).map (fun i => (i.zero, i.size, i.bytes)) = some (some (.string { data := #[] }), 1, 16) := by kernel_rfl

theorem wpList_append_s {w : World} {ops : Array Oper} {rest : List Oper} {o : Oper} {f : Act} {Q : Exit → Act → World → Prop} (hgd : o.guard = none) (s x : Operand)
    (ho : o.op = .call { callee := .builtin .append, args := #[s, x], argTypes := #[35, 35] }) (base : Nat) (v : Value) (zs : List (List Int)) (z : List Int) (b cap : Nat)
    (hs : f.eval s = v) (hx : f.eval x = .slice (some ⟨b, 0, none⟩) 1 cap) (hown : So w base v zs) (hz : byts z) (hc : w.cell? ⟨b, 0, none⟩ = some (scell z)) (hn : zs.length + 1 ≤ 1000000) (hbase : base ≤ w.heap.size)
    (h : ∀ v' w', So w' base v' (zs ++ [z]) → w.grownBy w' v.ownBlock → wpList Tryz.prog ops Q rest (f.put o.dst v') w') : wpList Tryz.prog ops Q (o :: rest) f w := by
  refine wpList_plain hgd fun K hK => ?_
  obtain ⟨i0, hi, hz0, hz1, hz2⟩ := info_parts Tryz.infoStr
  obtain ⟨v', w', hrun, h1, h2, _⟩ := run_append_own (P := Tryz.prog) w base 35 o.type 9 i0 _ 1 16 Tryz.underlying35 hi hz0 hz1 hz2 rfl (by decide) v zs.length _ hown.1 ⟨b, 0, none⟩ 1 cap [scell z] rfl
    (fun j u hj => by
      match j, hj with
      | 0, hj => simp at hj; subst hj; simpa [Addr.add] using hc)
    (fun u hu => by simp at hu; subst hu; rfl) (by unfold maxLen; omega) (by omega) hbase
  unfold Oper.wp
  simp [execOp, ho, resolve, invoke, builtin, hs, hx, hrun, Result.andThen]
  refine hK _ _ (h v' w' ⟨by simpa using h1, fun u hu => ?_⟩ h2)
  rcases List.mem_append.1 hu with hu | hu
  · exact hown.2 u hu
  · simp at hu; subst hu; exact hz

theorem So.grown {w w0 w' : World} {base : Nat} {v : Value} {zs : List (List Int)} (h : So w base v zs) (hB : Below base w0 w) (hb : base ≤ w.heap.size) (hg : w.grownBy w' v.ownBlock) : Below base w0 w' :=
  hB.grown hg hb (fun k hk => (h.1.lt k hk).1)

theorem str_cell (W : World) (s : ByteArray) : (W.alloc (.cells #[.string s] 9)).cell? ⟨W.heap.size, 0, none⟩ = some (.string s) := by
  rw [World.cell?_alloc_new]; rfl

open Go.ChangeShapes Go.WideShapes Go.ChangeAt
theorem ss_open {H : Type} {enc : TypeId × Value → H} {W : World} {a : Option Addr} {len cap : Nat} {d : DataW H} {ps : List MemPlace}
    (h : DataW.Trod enc Tryz.prog W 0 (fun _ => true) true 35 (.slice a len cap) d ps) : ∃ zs, Ss W a len cap zs := by
  obtain ⟨fuel, hf⟩ := h
  have hf' : DataW.trod enc Tryz.prog W 0 (fun _ => true) true fuel 35 [.slice a len cap] = some (d, ps) := by simpa [Value.cells] using hf
  rcases open_strings Tryz.underlying35 Tryz.underlying9 (by kernel_rfl) hf' with ⟨hcs, _⟩ | ⟨x, l, c, ss, hcs, _, hl, hm, hz, _, hcell, hws⟩
  · simp at hcs
    obtain ⟨rfl, rfl, rfl⟩ := hcs
    exact ⟨[], rfl, by omega, Nat.le_refl _, fun _ => rfl, by simp, fun h => absurd h (by omega)⟩
  · simp at hcs
    obtain ⟨rfl, rfl, rfl⟩ := hcs
    simp only [if_true] at hz
    have hex : ∀ s : ByteArray, ∃ z : List Int, s = strOfNums z ∧ byts z := fun s => by
      obtain ⟨z, h1, h2⟩ := str_nums s
      exact ⟨z, h1, mem_bd h2⟩
    refine ⟨(ss.take len).map (fun s => (hex s).choose), by simp; omega, by unfold maxLen at hm; omega, hl, fun h => by simp at h, ?_, ?_⟩
    · intro z hz
      obtain ⟨s, _, rfl⟩ := List.mem_map.1 hz
      exact (hex s).choose_spec.2
    · intro hp
      obtain ⟨b, off, spot⟩ := x
      have hc0 := hcell 0 (by omega)
      have hspot : spot = none := by simpa [Addr.add] using World.cell?_spot hc0
      subst hspot
      refine ⟨b, off, rfl, ?_, ?_⟩
      · rcases Nat.lt_or_ge b W.heap.size with h | h
        · exact h
        · simp [World.cell?, Addr.add, Array.getElem?_eq_none h] at hc0
      · intro i z hi
        rw [List.getElem?_map] at hi
        cases hs : (ss.take len)[i]? with
        | none => rw [hs] at hi; simp at hi
        | some s =>
          rw [hs] at hi
          simp at hi
          subst hi
          have hil : i < len := by
            have := (List.getElem?_eq_some_iff.1 hs).1
            simp at this
            omega
          have := hcell i (by omega)
          have hp : (⟨b, off, none⟩ : Addr).add i = ⟨b, off + i, none⟩ := by unfold Addr.add; split <;> simp_all
          rw [hp] at this
          rw [this]
          rw [List.getElem?_take, if_pos hil] at hs
          simp only [List.getD, hs, Option.getD_some, scell]
          rw [← (hex s).choose_spec.1]

def nwords : List (List Int) := [[], [100, 111, 117, 98, 108, 101], [102, 108, 111, 97, 116], [105, 110, 116, 54, 52], [117, 105, 110, 116, 54, 52], [105, 110, 116, 51, 50], [102, 105, 120, 101, 100, 54, 52], [102, 105, 120, 101, 100, 51, 50], [98, 111, 111, 108], [115, 116, 114, 105, 110, 103], [], [], [98, 121, 116, 101, 115], [117, 105, 110, 116, 51, 50], [], [115, 102, 105, 120, 101, 100, 51, 50], [115, 102, 105, 120, 101, 100, 54, 52], [115, 105, 110, 116, 51, 50], [115, 105, 110, 116, 54, 52]]

def nkeys : List (List Int) := [[109, 101, 115, 115, 97, 103, 101], [101, 110, 117, 109], [101, 120, 116, 101, 110, 100], [101, 120, 116, 101, 110, 115, 105, 111, 110, 115], [111, 112, 116, 105, 111, 110], [111, 110, 101, 111, 102], [109, 97, 112], [114, 101, 115, 101, 114, 118, 101, 100], [111, 112, 116, 105, 111, 110, 97, 108], [114, 101, 113, 117, 105, 114, 101, 100], [114, 101, 112, 101, 97, 116, 101, 100], [114, 112, 99], [115, 101, 114, 118, 105, 99, 101], [105, 109, 112, 111, 114, 116], [112, 97, 99, 107, 97, 103, 101], [115, 121, 110, 116, 97, 120], [115, 116, 114, 101, 97, 109], [114, 101, 116, 117, 114, 110, 115], [116, 111], [109, 97, 120], [112, 117, 98, 108, 105, 99]]

def nwf (s : List Int) : List (List Int) → Nat → Nat
  | [], _ => 0
  | z :: r, k => if z ≠ [] ∧ z = s then k else nwf s r (k + 1)

def nword (s : List Int) : Nat := nwf s nwords 0

def nkey (s : List Int) : Bool := decide (s ∈ nkeys) || decide (nword s ≠ 0)

theorem nwords_bd : ∀ z ∈ nwords, byts z := by unfold byts; decide

theorem nkeys_bd : ∀ z ∈ nkeys, byts z := by unfold byts; decide

theorem lit_cell (W : World) (C : Array Value) (zs : List (List Int)) (hC : C.toList = zs.map scell) (k : Nat) (z : List Int) (hz : zs[k]? = some z) : (W.alloc (.cells C 9)).cell? ⟨W.heap.size, k, none⟩ = some (.string (strOfNums z)) := by
  rw [World.cell?_alloc_new, ← Array.getElem?_toList, hC, List.getElem?_map, hz]
  rfl

set_option maxRecDepth 10000 in
set_option maxHeartbeats 2000000 in
theorem rword_any (s : List Int) (w : World) (hs : Hid (byts s)) :
    Calls Tryz.prog 9 #[.string (strOfNums s)] w fun e w' => e = .returned (.int .i64 (nword s : Int)) ∧ Below w.heap.size w w' := by
  have HC : Hid (∀ k z, nwords[k]? = some z → (w.alloc (.cells #[.string { data := #[] }, .string { data := #[100, 111, 117, 98, 108, 101] }, .string { data := #[102, 108, 111, 97, 116] }, .string { data := #[105, 110, 116, 54, 52] }, .string { data := #[117, 105, 110, 116, 54, 52] }, .string { data := #[105, 110, 116, 51, 50] }, .string { data := #[102, 105, 120, 101, 100, 54, 52] }, .string { data := #[102, 105, 120, 101, 100, 51, 50] }, .string { data := #[98, 111, 111, 108] }, .string { data := #[115, 116, 114, 105, 110, 103] }, .string { data := #[] }, .string { data := #[] }, .string { data := #[98, 121, 116, 101, 115] }, .string { data := #[117, 105, 110, 116, 51, 50] }, .string { data := #[] }, .string { data := #[115, 102, 105, 120, 101, 100, 51, 50] }, .string { data := #[115, 102, 105, 120, 101, 100, 54, 52] }, .string { data := #[115, 105, 110, 116, 51, 50] }, .string { data := #[115, 105, 110, 116, 54, 52] }] 9)).cell? ⟨w.heap.size, k, none⟩ = some (.string (strOfNums z))) := fun k z hz => lit_cell w _ nwords rfl k z hz
  have HBl : Hid (Below w.heap.size w (w.alloc (.cells #[.string { data := #[] }, .string { data := #[100, 111, 117, 98, 108, 101] }, .string { data := #[102, 108, 111, 97, 116] }, .string { data := #[105, 110, 116, 54, 52] }, .string { data := #[117, 105, 110, 116, 54, 52] }, .string { data := #[105, 110, 116, 51, 50] }, .string { data := #[102, 105, 120, 101, 100, 54, 52] }, .string { data := #[102, 105, 120, 101, 100, 51, 50] }, .string { data := #[98, 111, 111, 108] }, .string { data := #[115, 116, 114, 105, 110, 103] }, .string { data := #[] }, .string { data := #[] }, .string { data := #[98, 121, 116, 101, 115] }, .string { data := #[117, 105, 110, 116, 51, 50] }, .string { data := #[] }, .string { data := #[115, 102, 105, 120, 101, 100, 51, 50] }, .string { data := #[115, 102, 105, 120, 101, 100, 54, 52] }, .string { data := #[115, 105, 110, 116, 51, 50] }, .string { data := #[115, 105, 110, 116, 54, 52] }] 9))) := (Below.refl _ _).alloc (Nat.le_refl _) _
  obtain ⟨R, hR⟩ : ∃ R, R = nword s := ⟨_, rfl⟩
  rw [← hR]
  have HR : Hid (R = nwf s (nwords.drop 0) 0) := hR
  clear hR
  go_enter Tryz.func9, Tryz.ntmps9
  go_wp2
  go_loopw [7] (fun v wr => ∃ k : Nat, v = .int .i64 (k : Int) ∧ k ≤ 19 ∧ Hid (R = nwf s (nwords.drop k) k) ∧ w.alloc (.cells #[.string { data := #[] }, .string { data := #[100, 111, 117, 98, 108, 101] }, .string { data := #[102, 108, 111, 97, 116] }, .string { data := #[105, 110, 116, 54, 52] }, .string { data := #[117, 105, 110, 116, 54, 52] }, .string { data := #[105, 110, 116, 51, 50] }, .string { data := #[102, 105, 120, 101, 100, 54, 52] }, .string { data := #[102, 105, 120, 101, 100, 51, 50] }, .string { data := #[98, 111, 111, 108] }, .string { data := #[115, 116, 114, 105, 110, 103] }, .string { data := #[] }, .string { data := #[] }, .string { data := #[98, 121, 116, 101, 115] }, .string { data := #[117, 105, 110, 116, 51, 50] }, .string { data := #[] }, .string { data := #[115, 102, 105, 120, 101, 100, 51, 50] }, .string { data := #[115, 102, 105, 120, 101, 100, 54, 52] }, .string { data := #[115, 105, 110, 116, 51, 50] }, .string { data := #[115, 105, 110, 116, 54, 52] }] 9) = wr) (fun v _ => 19 - (intOf v).toNat)
  case atStart => exact ⟨0, rfl, by omega, HR, rfl⟩
  case round =>
    obtain ⟨k, rfl, hk, HJ, rfl⟩ := hrel
    by_cases hkl : k < 19
    · obtain ⟨z, hz⟩ : ∃ z, nwords[k]? = some z := ⟨nwords[k]'hkl, List.getElem?_eq_getElem hkl⟩
      have hcell := HC.out k z hz
      have hzb := nwords_bd z (List.mem_of_getElem? hz)
      have heq := str_eq hzb hs.out
      have HJ' := HJ.out
      rw [show nwords.drop k = z :: nwords.drop (k + 1) by
        rw [List.drop_eq_getElem_cons hkl]
        congr 1
        rw [List.getElem?_eq_getElem hkl] at hz
        exact Option.some.inj hz, nwf] at HJ'
      by_cases hz0 : z = []
      · rw [if_neg (fun h => h.1 hz0)] at HJ'
        have hne : ((strOfNums z).toList == []) = true := by rw [hz0, str_list]; rfl
        have HJ2 : Hid _ := HJ'
        generalize strOfNums z = Z at hcell hne heq
        generalize strOfNums s = X at heq ⊢
        clear HJ HJ' hz hzb hz0 heq
        go_wp2
        go_roundw
        case rel => first | exact ⟨k + 1, by go_num, by omega, HJ2, by first | rfl | trivial⟩ | ((repeat apply Exists.intro); exact ⟨⟨k + 1, by go_num, by omega, HJ2, by first | rfl | trivial⟩, rfl⟩)
        case measure => simp [intOf]; omega
      · have hne : ((strOfNums z).toList == []) = false := by
          cases z with
          | nil => exact absurd rfl hz0
          | cons c r => exact str_ne c r
        by_cases hzs : z = s
        · rw [if_pos ⟨hz0, hzs⟩] at HJ'
          have e' : (z == s) = true := by simpa using hzs
          rw [e'] at heq
          have HJ2 : Hid _ := HJ'
          generalize strOfNums z = Z at hcell hne heq
          generalize strOfNums s = X at heq ⊢
          clear HJ HJ' hz hzb hz0 hzs e'
          go_wp2
          go_ret
          exact ⟨by rw [HJ2.out]; rfl, HBl.out⟩
        · rw [if_neg (fun h => hzs h.2)] at HJ'
          have e' : (z == s) = false := by simpa using hzs
          rw [e'] at heq
          have HJ2 : Hid _ := HJ'
          generalize strOfNums z = Z at hcell hne heq
          generalize strOfNums s = X at heq ⊢
          clear HJ HJ' hz hzb hz0 hzs e'
          go_wp2
          go_roundw
          case rel => first | exact ⟨k + 1, by go_num, by omega, HJ2, by first | rfl | trivial⟩ | ((repeat apply Exists.intro); exact ⟨⟨k + 1, by go_num, by omega, HJ2, by first | rfl | trivial⟩, rfl⟩)
          case measure => simp [intOf]; omega
    · obtain rfl : k = 19 := by omega
      have E : Hid (R = 0) := by show _ = _; rw [HJ.out]; rfl
      clear HJ
      go_wp2
      go_ret
      exact ⟨by rw [E.out]; rfl, HBl.out⟩

set_option maxRecDepth 10000 in
set_option maxHeartbeats 2000000 in
theorem rkey_any (s : List Int) (w : World) (hs : Hid (byts s)) :
    Calls Tryz.prog 153 #[.string (strOfNums s)] w fun e w' => e = .returned (.bool (nkey s)) ∧ Below w.heap.size w w' := by
  have HC : Hid (∀ k z, nkeys[k]? = some z → (w.alloc (.cells #[.string { data := #[109, 101, 115, 115, 97, 103, 101] }, .string { data := #[101, 110, 117, 109] }, .string { data := #[101, 120, 116, 101, 110, 100] }, .string { data := #[101, 120, 116, 101, 110, 115, 105, 111, 110, 115] }, .string { data := #[111, 112, 116, 105, 111, 110] }, .string { data := #[111, 110, 101, 111, 102] }, .string { data := #[109, 97, 112] }, .string { data := #[114, 101, 115, 101, 114, 118, 101, 100] }, .string { data := #[111, 112, 116, 105, 111, 110, 97, 108] }, .string { data := #[114, 101, 113, 117, 105, 114, 101, 100] }, .string { data := #[114, 101, 112, 101, 97, 116, 101, 100] }, .string { data := #[114, 112, 99] }, .string { data := #[115, 101, 114, 118, 105, 99, 101] }, .string { data := #[105, 109, 112, 111, 114, 116] }, .string { data := #[112, 97, 99, 107, 97, 103, 101] }, .string { data := #[115, 121, 110, 116, 97, 120] }, .string { data := #[115, 116, 114, 101, 97, 109] }, .string { data := #[114, 101, 116, 117, 114, 110, 115] }, .string { data := #[116, 111] }, .string { data := #[109, 97, 120] }, .string { data := #[112, 117, 98, 108, 105, 99] }] 9)).cell? ⟨w.heap.size, k, none⟩ = some (.string (strOfNums z))) := fun k z hz => lit_cell w _ nkeys rfl k z hz
  have HBl : Hid (Below w.heap.size w (w.alloc (.cells #[.string { data := #[109, 101, 115, 115, 97, 103, 101] }, .string { data := #[101, 110, 117, 109] }, .string { data := #[101, 120, 116, 101, 110, 100] }, .string { data := #[101, 120, 116, 101, 110, 115, 105, 111, 110, 115] }, .string { data := #[111, 112, 116, 105, 111, 110] }, .string { data := #[111, 110, 101, 111, 102] }, .string { data := #[109, 97, 112] }, .string { data := #[114, 101, 115, 101, 114, 118, 101, 100] }, .string { data := #[111, 112, 116, 105, 111, 110, 97, 108] }, .string { data := #[114, 101, 113, 117, 105, 114, 101, 100] }, .string { data := #[114, 101, 112, 101, 97, 116, 101, 100] }, .string { data := #[114, 112, 99] }, .string { data := #[115, 101, 114, 118, 105, 99, 101] }, .string { data := #[105, 109, 112, 111, 114, 116] }, .string { data := #[112, 97, 99, 107, 97, 103, 101] }, .string { data := #[115, 121, 110, 116, 97, 120] }, .string { data := #[115, 116, 114, 101, 97, 109] }, .string { data := #[114, 101, 116, 117, 114, 110, 115] }, .string { data := #[116, 111] }, .string { data := #[109, 97, 120] }, .string { data := #[112, 117, 98, 108, 105, 99] }] 9))) := (Below.refl _ _).alloc (Nat.le_refl _) _
  have q := fun W => rword_any s W hs
  go_enter Tryz.func153, Tryz.ntmps153
  have QW : Hid _ := q
  clear q
  go_wp2
  go_loopw [7] (fun v wr => ∃ k : Nat, v = .int .i64 (k : Int) ∧ k ≤ 21 ∧ Hid (∀ j, j < k → nkeys[j]? ≠ some s) ∧ w.alloc (.cells #[.string { data := #[109, 101, 115, 115, 97, 103, 101] }, .string { data := #[101, 110, 117, 109] }, .string { data := #[101, 120, 116, 101, 110, 100] }, .string { data := #[101, 120, 116, 101, 110, 115, 105, 111, 110, 115] }, .string { data := #[111, 112, 116, 105, 111, 110] }, .string { data := #[111, 110, 101, 111, 102] }, .string { data := #[109, 97, 112] }, .string { data := #[114, 101, 115, 101, 114, 118, 101, 100] }, .string { data := #[111, 112, 116, 105, 111, 110, 97, 108] }, .string { data := #[114, 101, 113, 117, 105, 114, 101, 100] }, .string { data := #[114, 101, 112, 101, 97, 116, 101, 100] }, .string { data := #[114, 112, 99] }, .string { data := #[115, 101, 114, 118, 105, 99, 101] }, .string { data := #[105, 109, 112, 111, 114, 116] }, .string { data := #[112, 97, 99, 107, 97, 103, 101] }, .string { data := #[115, 121, 110, 116, 97, 120] }, .string { data := #[115, 116, 114, 101, 97, 109] }, .string { data := #[114, 101, 116, 117, 114, 110, 115] }, .string { data := #[116, 111] }, .string { data := #[109, 97, 120] }, .string { data := #[112, 117, 98, 108, 105, 99] }] 9) = wr) (fun v _ => 21 - (intOf v).toNat)
  case atStart => exact ⟨0, rfl, by omega, fun j hj => absurd hj (by omega), rfl⟩
  case round =>
    obtain ⟨k, rfl, hk, HJ, rfl⟩ := hrel
    by_cases hkl : k < 21
    · obtain ⟨z, hz⟩ : ∃ z, nkeys[k]? = some z := ⟨nkeys[k]'hkl, List.getElem?_eq_getElem hkl⟩
      have hcell := HC.out k z hz
      have hzb := nkeys_bd z (List.mem_of_getElem? hz)
      have heq := str_eq hzb hs.out
      by_cases hzs : z = s
      · have e' : (z == s) = true := by simpa using hzs
        rw [e'] at heq
        have E : Hid (nkey s = true) := by show _ = _; unfold nkey; rw [decide_eq_true (by rw [← hzs]; exact List.mem_of_getElem? hz)]; rfl
        generalize strOfNums z = Z at hcell heq
        generalize strOfNums s = X at heq QW ⊢
        clear HJ hz hzb hzs e'
        go_wp2
        go_ret
        exact ⟨by rw [E.out]; rfl, HBl.out⟩
      · have e' : (z == s) = false := by simpa using hzs
        rw [e'] at heq
        have HJ2 : Hid (∀ j, j < k + 1 → nkeys[j]? ≠ some s) := fun j hj => by
          by_cases q : j = k
          · rw [q, hz]; simpa using hzs
          · exact HJ.out j (by omega)
        generalize strOfNums z = Z at hcell heq
        generalize strOfNums s = X at heq QW ⊢
        clear HJ hz hzb hzs e'
        go_wp2
        go_roundw
        case rel => first | exact ⟨k + 1, by go_num, by omega, HJ2, by first | rfl | trivial⟩ | ((repeat apply Exists.intro); exact ⟨⟨k + 1, by go_num, by omega, HJ2, by first | rfl | trivial⟩, rfl⟩)
        case measure => simp [intOf]; omega
    · obtain rfl : k = 21 := by omega
      have hnm : ¬ s ∈ nkeys := fun hm => by
        obtain ⟨j, hj⟩ := List.getElem?_of_mem hm
        exact HJ.out j (List.getElem?_eq_some_iff.1 hj).1 hj
      have E : Hid (nkey s = decide (nword s ≠ 0)) := by show _ = _; unfold nkey; rw [decide_eq_false hnm]; rfl
      generalize nword s = n at E QW
      clear HJ hnm
      go_wp2_with fail
      refine Calls.mono (QW.out _) ?_
      rintro e w1 ⟨rfl, hb1⟩
      go_wp2
      go_ret
      refine ⟨?_, HBl.out.trans (hb1.mono HBl.out.size)⟩
      rw [E.out]
      by_cases h : n = 0
      · subst h; rfl
      · rw [decide_eq_true h]
        exact ret_bool (by simp; omega)

inductive Tn where
  | mk (kind : Int) (text : List Int) (n m a pos : Int) (doc : List Int) (ad : Option Addr) (cap : Nat) (kids : List Tn) : Tn

def Tn.kind : Tn → Int | .mk k _ _ _ _ _ _ _ _ _ => k
def Tn.text : Tn → List Int | .mk _ t _ _ _ _ _ _ _ _ => t
def Tn.kids : Tn → List Tn | .mk _ _ _ _ _ _ _ _ _ k => k
def Tn.cells : Tn → List Value
  | .mk kind text n m a pos doc ad cap kids => [.int .i64 kind, .string (strOfNums text), .int .i64 n, .int .i64 m, .int .i64 a, .int .i64 pos, .string (strOfNums doc), .slice ad kids.length cap]
def Tn.val (t : Tn) : Value := .agg t.cells.toArray

def i64b (x : Int) : Prop := -9223372036854775808 ≤ x ∧ x ≤ 9223372036854775807

inductive TnOk (w : World) : Tn → Prop
  | mk {kind : Int} {text : List Int} {n m a pos : Int} {doc : List Int} {ad : Option Addr} {cap : Nat} {kids : List Tn} (hkind : i64b kind) (htext : byts text) (htl : (text.length : Int) ≤ 9223372036854775807) (hn : i64b n) (hm : i64b m) (ha : i64b a) (hpos : i64b pos)
      (hdoc : byts doc) (hdl : (doc.length : Int) ≤ 9223372036854775807) (hkl : (kids.length : Int) ≤ 9223372036854775807) (hcap : kids.length ≤ cap) (hnone : ad = none → cap = 0)
      (hmem : 0 < kids.length → ∃ b off, ad = some ⟨b, off, none⟩ ∧ b < w.heap.size ∧ ∀ (i : Nat) (t : Tn), kids[i]? = some t → ∀ (j : Nat) (u : Value), t.cells[j]? = some u → w.cell? ⟨b, off + i * 8 + j, none⟩ = some u)
      (hkids : ∀ (i : Nat) (t : Tn), kids[i]? = some t → TnOk w t) : TnOk w (.mk kind text n m a pos doc ad cap kids)

theorem TnOk.under {w w' : World} {t : Tn} (h : TnOk w t) (hb : Below w.heap.size w w') : TnOk w' t := by
  induction h with
  | mk hkind htext htl hn hm ha hpos hdoc hdl hkl hcap hnone hmem hkids ih =>
    refine .mk hkind htext htl hn hm ha hpos hdoc hdl hkl hcap hnone (fun hp => ?_) ih
    obtain ⟨b, off, h1, h2, h3⟩ := hmem hp
    exact ⟨b, off, h1, Nat.lt_of_lt_of_le h2 hb.size, fun i t hi j u hj => (hb.cell h2).trans (h3 i t hi j u hj)⟩

open Go.ChangeShapes Go.WideShapes Go.ChangeAt

end Go.Proofs.YtlekfcehmlepkaaGreatDoor

namespace Go.Proofs.YtlekfcehmlepkaaGreatDoor
set_option linter.unusedVariables false
set_option linter.unusedSimpArgs false

mutual
def tsz : Tn → Int → Int → Int
  | .mk _ text _ _ _ _ doc _ _ kids, all, deep => if 80 < deep ∨ 2000 < (text.length : Int) ∨ 2000 < (doc.length : Int) then 1000 else tszs kids (all + 1) (deep + 1)
def tszs : List Tn → Int → Int → Int
  | [], all, _ => all
  | k :: r, all, deep => if 400 < all then all else tszs r (tsz k all deep) deep
end

mutual
def tcnt : Tn → Int → Int
  | .mk _ _ _ _ _ _ _ _ _ kids, all => if 20000 < all + 1 then 30000 else tcnts kids (all + 1)
def tcnts : List Tn → Int → Int
  | [], all => all
  | k :: r, all => if 20000 < tcnt k all then 30000 else tcnts r (tcnt k all)
end

mutual
def tdp : Tn → Int → Int
  | .mk _ _ _ _ _ _ _ _ _ kids, x => if 64 < x then x else tdps kids x x
def tdps : List Tn → Int → Int → Int
  | [], _, d => d
  | k :: r, x, d => if 64 < max d (tdp k (x + 1)) then max d (tdp k (x + 1)) else tdps r x (max d (tdp k (x + 1)))
end

mutual
def tsame : Tn → Tn → Bool
  | .mk k1 t1 n1 m1 a1 _ d1 _ _ kids1, .mk k2 t2 n2 m2 a2 _ d2 _ _ kids2 => decide (k1 = k2 ∧ t1 = t2 ∧ n1 = n2 ∧ m1 = m2 ∧ a1 = a2 ∧ d1 = d2 ∧ kids1.length = kids2.length) && tsames kids1 kids2
def tsames : List Tn → List Tn → Bool
  | [], _ => true
  | _ :: _, [] => true
  | x :: r, y :: q => tsame x y && tsames r q
end

def tcount (t : Tn) : Int := min (tcnt t 0) 30000

def tdeep (t : Tn) : Int := if 64 < tdp t 1 then 100 else tdp t 1

def tfew (t : Tn) : Bool := decide (tsz t 0 0 ≤ 400)

def tSame (a b : Tn) : Bool := decide (tdeep a ≤ 64) && (decide (tdeep b ≤ 64) && tsame a b)

mutual
theorem tcnt_bd : ∀ (t : Tn) (x : Int), 0 ≤ x → x ≤ 20000 → x + 1 ≤ tcnt t x ∧ tcnt t x ≤ 30000
  | .mk _ _ _ _ _ _ _ _ _ kids, x, h0, h1 => by
    rw [tcnt]
    by_cases h : 20000 < x + 1
    · rw [if_pos h]; omega
    · rw [if_neg h]
      have := tcnts_bd kids (x + 1) (by omega) (by omega)
      omega
theorem tcnts_bd : ∀ (l : List Tn) (x : Int), 0 ≤ x → x ≤ 20000 → x ≤ tcnts l x ∧ tcnts l x ≤ 30000
  | [], x, h0, h1 => by rw [tcnts]; omega
  | k :: r, x, h0, h1 => by
    have h2 := tcnt_bd k x h0 h1
    rw [tcnts]
    by_cases h : 20000 < tcnt k x
    · rw [if_pos h]; omega
    · rw [if_neg h]
      have := tcnts_bd r (tcnt k x) (by omega) (by omega)
      omega
end

mutual
theorem tdp_bd : ∀ (t : Tn) (x : Int), x ≤ 65 → x ≤ tdp t x ∧ tdp t x ≤ 65
  | .mk _ _ _ _ _ _ _ _ _ kids, x, h1 => by
    rw [tdp]
    by_cases h : 64 < x
    · rw [if_pos h]; omega
    · rw [if_neg h]
      exact tdps_bd kids x x (by omega) (by omega) (by omega)
theorem tdps_bd : ∀ (l : List Tn) (x d : Int), x ≤ 64 → x ≤ d → d ≤ 65 → x ≤ tdps l x d ∧ tdps l x d ≤ 65
  | [], x, d, h0, h1, h2 => by rw [tdps]; omega
  | k :: r, x, d, h0, h1, h2 => by
    have h3 := tdp_bd k (x + 1) (by omega)
    rw [tdps]
    by_cases h : 64 < max d (tdp k (x + 1))
    · rw [if_pos h]; omega
    · rw [if_neg h]
      exact tdps_bd r x _ h0 (by omega) (by omega)
end

end Go.Proofs.YtlekfcehmlepkaaGreatDoor

namespace Go.Proofs.YtlekfcehmlepkaaGreatDoor
set_option linter.unusedVariables false
set_option linter.unusedSimpArgs false

def tref (s : List Int) : Bool := if s.getD 0 0 = 46 then nfull (s.drop 1) else nfull s

def ttype (s : List Int) : Bool × Bool :=
  if s.getD 0 0 = 46 then (tref s, true) else if nword s ≠ 0 then (true, false) else (nfull s && !nkey ((nparts s).getD 0 []), true)

def tdocd (k : Int) : Bool := decide (k = 5 ∨ (6 ≤ k ∧ k ≤ 11 ∧ k ≠ 7) ∨ k = 16 ∨ k = 17)

end Go.Proofs.YtlekfcehmlepkaaGreatDoor

namespace Go.Proofs.YtlekfcehmlepkaaGreatDoor
open Go.RowKit
set_option linter.unusedVariables false
set_option linter.unusedSimpArgs false

set_option maxHeartbeats 1000000 in
theorem rdocd_any (k : Int) (w : World) (hk : i64b k) :
    Calls Tryz.prog 109 #[.int .i64 k] w fun e w' => e = .returned (.bool (tdocd k)) ∧ w = w' := by
  obtain ⟨hk0, hk1⟩ := hk
  rcases (show k < 5 ∨ k = 5 ∨ k = 6 ∨ k = 7 ∨ (8 ≤ k ∧ k ≤ 11) ∨ (11 < k ∧ k < 16) ∨ k = 16 ∨ k = 17 ∨ 17 < k by omega) with h | rfl | rfl | rfl | h | h | rfl | rfl | h
  · have E : Hid (tdocd k = false) := decide_eq_false (by omega)
    go_enter Tryz.func109, Tryz.ntmps109
    go_wp2
    go_ret
    exact ⟨by rw [E.out]; first | rfl | (simp <;> omega), rfl⟩
  · have E : Hid (tdocd 5 = true) := rfl
    go_enter Tryz.func109, Tryz.ntmps109
    go_wp2
    go_ret
    exact ⟨by rw [E.out]; first | rfl | (simp <;> omega), rfl⟩
  · have E : Hid (tdocd 6 = true) := rfl
    go_enter Tryz.func109, Tryz.ntmps109
    go_wp2
    go_ret
    exact ⟨by rw [E.out]; first | rfl | (simp <;> omega), rfl⟩
  · have E : Hid (tdocd 7 = false) := rfl
    go_enter Tryz.func109, Tryz.ntmps109
    go_wp2
    go_ret
    exact ⟨by rw [E.out]; first | rfl | (simp <;> omega), rfl⟩
  · have E : Hid (tdocd k = true) := decide_eq_true (by omega)
    go_enter Tryz.func109, Tryz.ntmps109
    go_wp2
    go_ret
    exact ⟨by rw [E.out]; first | rfl | (simp <;> omega), rfl⟩
  · have E : Hid (tdocd k = false) := decide_eq_false (by omega)
    go_enter Tryz.func109, Tryz.ntmps109
    go_wp2
    go_ret
    exact ⟨by rw [E.out]; first | rfl | (simp <;> omega), rfl⟩
  · have E : Hid (tdocd 16 = true) := rfl
    go_enter Tryz.func109, Tryz.ntmps109
    go_wp2
    go_ret
    exact ⟨by rw [E.out]; first | rfl | (simp <;> omega), rfl⟩
  · have E : Hid (tdocd 17 = true) := rfl
    go_enter Tryz.func109, Tryz.ntmps109
    go_wp2
    go_ret
    exact ⟨by rw [E.out]; first | rfl | (simp <;> omega), rfl⟩
  · have E : Hid (tdocd k = false) := decide_eq_false (by omega)
    go_enter Tryz.func109, Tryz.ntmps109
    go_wp2
    go_ret
    exact ⟨by rw [E.out]; first | rfl | (simp <;> omega), rfl⟩

end Go.Proofs.YtlekfcehmlepkaaGreatDoor

namespace Go.Proofs.YtlekfcehmlepkaaGreatDoor
set_option linter.unusedSimpArgs false
set_option linter.unusedVariables false

structure Tq where
  kind : Int
  text : List Int
  n : Int
  pos : Int
  doc : List Int
deriving DecidableEq

def Tq.none : Tq := ⟨0, [], 0, 0, []⟩

structure Gs where
  i : Nat
  op : Int
  pa : Int
  e : Int
  n : Int

inductive Pn where
  | mk (kind : Int) (text : List Int) (n m a pos : Int) (doc : List Int) (kids : List Pn) : Pn

def w64 (x : Int) : Int := Go.RowKit.wrap64 x

def gnow (ts : List Tq) (s : Gs) : Tq := ts.getD s.i Tq.none

def gfail (ts : List Tq) (c : Int) (s : Gs) : Gs := if s.e = 0 then { s with e := c, pa := (gnow ts s).pos } else s

def gnext (ts : List Tq) (s : Gs) : Gs := if s.e = 0 ∧ s.i + 1 < ts.length then { s with i := s.i + 1 } else s

def gis (ts : List Tq) (t : List Int) (s : Gs) : Bool := decide (s.e = 0 ∧ (gnow ts s).kind = 4 ∧ (gnow ts s).text = t)

def gisw (ts : List Tq) (t : List Int) (s : Gs) : Bool := decide (s.e = 0 ∧ (gnow ts s).kind = 1 ∧ (gnow ts s).text = t)

def gsign (ts : List Tq) (t : List Int) (s : Gs) : Gs := if gis ts t s = true then gnext ts s else s

def gword (ts : List Tq) (t : List Int) (s : Gs) : Gs := if gisw ts t s = true then gnext ts s else s

def gwant (ts : List Tq) (t : List Int) (s : Gs) : Gs := if gis ts t s = true then gnext ts s else gfail ts 80 s

def gbrace (ts : List Tq) (s : Gs) : Gs :=
  let s1 := gwant ts [123] (if gis ts [123] s = true ∧ s.op = 30 then gfail ts 81 s else s)
  { s1 with op := s1.op + 1 }

def gmade (ts : List Tq) (kind : Int) (s : Gs) : Gs :=
  let s1 : Gs := { s with n := w64 (s.n + 1) }
  if tdocd kind = true ∧ 10000 < (gnow ts s).doc.length then gfail ts 80 s1 else s1

def gnameS (ts : List Tq) (s : Gs) : Gs :=
  let t := gnow ts s
  gnext ts (if t.kind ≠ 1 ∨ nident t.text = false then gfail ts 80 s else s)

def gtextS (ts : List Tq) (most : Int) (s : Gs) : Gs :=
  let t := gnow ts s
  gnext ts (if t.kind ≠ 3 ∨ most < t.text.length then gfail ts 80 s else s)

def gintS (ts : List Tq) (most : Int) (s : Gs) : Gs :=
  let t := gnow ts s
  gnext ts (if t.kind ≠ 2 ∨ most < t.n then gfail ts 80 s else s)

def gfl (ts : List Tq) : Nat → Gs → List Int → List Int × Gs
  | 0, s, r => (r, s)
  | f + 1, s, r => if gis ts [46] s = true then gfl ts f (gnameS ts (gnext ts s)) (r ++ [46] ++ (gnow ts (gnext ts s)).text) else (r, s)

def gfull (ts : List Tq) (ahead : Bool) (s : Gs) : List Int × Gs :=
  let dot := ahead && gis ts [46] s
  let s0 := if dot = true then gnext ts s else s
  let r := gfl ts ts.length (gnameS ts s0) (gnow ts s0).text
  ((if dot = true then [46] else []) ++ r.1, if r.2.e = 0 ∧ 1000 < r.1.length then gfail ts 80 { r.2 with i := s0.i } else r.2)

def gtyped (ts : List Tq) (plain name : Bool) (s : Gs) : Pn × Gs :=
  let s0 := gmade ts 18 s
  let r := gfull ts true s0
  let k := ttype r.1
  (.mk 18 r.1 0 0 0 (gnow ts s).pos [] [], if r.2.e = 0 ∧ (k.1 = false ∨ (k.2 = true ∧ name = false) ∨ (k.2 = false ∧ plain = false)) then gfail ts 80 { r.2 with i := s0.i } else r.2)

end Go.Proofs.YtlekfcehmlepkaaGreatDoor

namespace Go.Proofs.YtlekfcehmlepkaaGreatDoor
open Go.RowKit
set_option linter.unusedVariables false
set_option linter.unusedSimpArgs false

def Tq.cells (t : Tq) : List Value := [.int .i64 t.kind, .string (strOfNums t.text), .int .u64 t.n, .int .i64 t.pos, .string (strOfNums t.doc)]

def Tq.ok (t : Tq) : Prop := i64b t.kind ∧ byts t.text ∧ (0 ≤ t.n ∧ t.n ≤ 18446744073709551615) ∧ i64b t.pos ∧ byts t.doc ∧ t.text.length ≤ 5000 ∧ t.doc.length ≤ 1000000

def gsum : List Tq → Nat
  | [] => 0
  | t :: r => t.text.length + 1 + gsum r

def Tqs (w : World) (g : Nat) (a : Option Addr) (len cap : Nat) (ts : List Tq) : Prop :=
  ts.length = len ∧ (len : Int) ≤ 1000000 ∧ len ≤ cap ∧ (a = none → cap = 0) ∧ ((∀ t ∈ ts, t.ok) ∧ gsum ts ≤ 90000) ∧
    (0 < len → ∃ b off, a = some ⟨b, off, none⟩ ∧ b < w.heap.size ∧ b < g ∧ ∀ (i : Nat) (t : Tq), ts[i]? = some t → ∀ (j : Nat) (u : Value), t.cells[j]? = some u → w.cell? ⟨b, off + i * 5 + j, none⟩ = some u)

theorem grown_cell {w w' : World} {g : Nat} (hg : w.grownBy w' (some g)) {p : Addr} (hlt : p.block < w.heap.size) (hne : p.block ≠ g) : w'.cell? p = w.cell? p :=
  World.cell?_of_block (hg.block p.block hlt (by simpa using hne))

theorem Tqs.grown {w w' : World} {g : Nat} {a : Option Addr} {len cap : Nat} {ts : List Tq} (h : Tqs w g a len cap ts) (hg : w.grownBy w' (some g)) : Tqs w' g a len cap ts := by
  obtain ⟨h1, h2, h3, h4, h5, h6⟩ := h
  refine ⟨h1, h2, h3, h4, h5, fun hp => ?_⟩
  obtain ⟨b, off, rfl, hlt, hne, hc⟩ := h6 hp
  exact ⟨b, off, rfl, Nat.lt_of_lt_of_le hlt hg.size, hne, fun i t hi j u hj => (grown_cell hg hlt (show b ≠ g by omega)).trans (hc i t hi j u hj)⟩

def gcells (a : Option Addr) (len cap : Nat) (s : Gs) : Array Value := #[.slice a len cap, .int .i64 (s.i : Int), .int .i64 s.op, .int .i64 s.pa, .int .i64 s.e, .int .i64 s.n]

def Gb (w : World) (g : Nat) (a : Option Addr) (len cap : Nat) (s : Gs) : Prop := w.heap[g]? = some (.cells (gcells a len cap s) 87 (0, 0))

structure Gm (w : World) (g : Nat) (a : Option Addr) (len cap : Nat) (ts : List Tq) (s : Gs) : Prop where
  blk : Gb w g a len cap s
  tok : Tqs w g a len cap ts
  lt : s.i < len
  last : (ts.getD (len - 1) Tq.none).kind = 0
  op0 : 0 ≤ s.op
  op1 : s.op ≤ 40
  pa : i64b s.pa
  e0 : 0 ≤ s.e
  e1 : s.e ≤ 1000
  n : i64b s.n

theorem Gb.size {w : World} {g : Nat} {a : Option Addr} {len cap : Nat} {s : Gs} (h : Gb w g a len cap s) : g < w.heap.size := (Array.getElem?_eq_some_iff.1 h).1

theorem Gb.cells {w : World} {g : Nat} {a : Option Addr} {len cap : Nat} {s : Gs} (h : Gb w g a len cap s) :
    w.cell? ⟨g, 0, none⟩ = some (.slice a len cap) ∧ w.cell? ⟨g, 1, none⟩ = some (.int .i64 (s.i : Int)) ∧ w.cell? ⟨g, 2, none⟩ = some (.int .i64 s.op) ∧ w.cell? ⟨g, 3, none⟩ = some (.int .i64 s.pa) ∧ w.cell? ⟨g, 4, none⟩ = some (.int .i64 s.e) ∧ w.cell? ⟨g, 5, none⟩ = some (.int .i64 s.n) := by
  refine ⟨?_, ?_, ?_, ?_, ?_, ?_⟩ <;> simp [World.cell?, show _ = _ from h, gcells]

theorem grown_set {w : World} {g : Nat} (j : Nat) (u : Value) : w.grownBy (w.setCell ⟨g, j, none⟩ u) (some g) :=
  ⟨rfl, rfl, rfl, by simp [World.setCell], fun k _ hne => Below.heap_setCell w ⟨g, j, none⟩ u k (fun e => hne (by rw [e]))⟩

theorem grown_of {w w' : World} {row : Option Nat} (hb : Below w.heap.size w w') : w.grownBy w' row := ⟨hb.os, hb.tape, hb.output, hb.size, fun k hk _ => hb.block k hk⟩

theorem grown_trans {w w1 w2 : World} {row : Option Nat} (h1 : w.grownBy w1 row) (h2 : w1.grownBy w2 row) : w.grownBy w2 row :=
  ⟨h2.os.trans h1.os, h2.tape.trans h1.tape, h2.output.trans h1.output, Nat.le_trans h1.size h2.size, fun k hk hne => (h2.block k (Nat.lt_of_lt_of_le hk h1.size) hne).trans (h1.block k hk hne)⟩

theorem Gm.below {w w' : World} {g : Nat} {a : Option Addr} {len cap : Nat} {ts : List Tq} {s : Gs} (h : Gm w g a len cap ts s) (hb : Below w.heap.size w w') : Gm w' g a len cap ts s :=
  ⟨(hb.block g h.blk.size).trans h.blk, h.tok.grown (grown_of hb), h.lt, h.last, h.op0, h.op1, h.pa, h.e0, h.e1, h.n⟩

theorem Gb.free {w : World} {g : Nat} {a : Option Addr} {len cap : Nat} {s : Gs} (h : Gb w g a len cap s) (j : Nat) : w.frozen? ⟨g, j, none⟩ = false := by
  simp [World.frozen?, show _ = _ from h]

theorem Gm.turn {w w' : World} {g : Nat} {a : Option Addr} {len cap : Nat} {ts : List Tq} {s s' : Gs} (h : Gm w g a len cap ts s) (hg : w.grownBy w' (some g)) (hb : Gb w' g a len cap s')
    (hi : s'.i < len) (o0 : 0 ≤ s'.op) (o1 : s'.op ≤ 40) (p : i64b s'.pa) (e0 : 0 ≤ s'.e) (e1 : s'.e ≤ 1000) (n : i64b s'.n) : Gm w' g a len cap ts s' :=
  ⟨hb, h.tok.grown hg, hi, h.last, o0, o1, p, e0, e1, n⟩

theorem Gm.now_ok {w : World} {g : Nat} {a : Option Addr} {len cap : Nat} {ts : List Tq} {s : Gs} (h : Gm w g a len cap ts s) : (gnow ts s).ok := by
  have hl : s.i < ts.length := by rw [h.tok.1]; exact h.lt
  unfold gnow
  rw [List.getD, List.getElem?_eq_getElem hl]
  exact h.tok.2.2.2.2.1.1 _ (List.getElem_mem hl)

def Tq.val (t : Tq) : Value := .agg t.cells.toArray

theorem set_heap' {w : World} {g : Nat} {c : Array Value} {e : TypeId} (h : w.heap[g]? = some (.cells c e (0, 0))) (j : Nat) (u : Value) : (w.setCell ⟨g, j, none⟩ u).heap[g]? = some (.cells (c.setIfInBounds j u) e (0, 0)) := by
  simp only [World.setCell, Array.getElem?_modify]
  rw [if_pos trivial, h]
  rfl

theorem tq_ret {fn : Func} {R : Ending → World → Prop} {a : Act} {w : World} {p : Tmp} (h : fn.results = #[.cell p 81]) (g : Nat) (v0 v1 v2 v3 v4 : Value) (hp : a.tmps.getD p undef = .pointer (some ⟨g, 0, none⟩))
    (hg : w.heap[g]? = some (.cells #[v0, v1, v2, v3, v4] 81 (0, 0))) (hd : a.defers = []) (hR : R (.returned (.agg #[v0, v1, v2, v3, v4])) w) : bodyPost Tryz.prog fn R .ret a w := by
  refine bodyPost_ret (v := .agg #[v0, v1, v2, v3, v4]) ?_ hd hR
  have hp' : a.tmps[p]?.getD undef = .pointer (some ⟨g, 0, none⟩) := by simpa using hp
  have hl := run_loadVar_row (P := Tryz.prog) w g 81 81 #[v0, v1, v2, v3, v4] (0, 0) _ hg Tryz.underlying81 rfl (by kernel_rfl)
  simp [results, h, hp', asAddr, hl]

theorem nd_ret {fn : Func} {R : Ending → World → Prop} {a : Act} {w : World} {p : Tmp} (h : fn.results = #[.cell p 28]) (g : Nat) (v0 v1 v2 v3 v4 v5 v6 v7 : Value) (hp : a.tmps.getD p undef = .pointer (some ⟨g, 0, none⟩))
    (hg : w.heap[g]? = some (.cells #[v0, v1, v2, v3, v4, v5, v6, v7] 28 (0, 0))) (hd : a.defers = []) (hR : R (.returned (.agg #[v0, v1, v2, v3, v4, v5, v6, v7])) w) : bodyPost Tryz.prog fn R .ret a w := by
  refine bodyPost_ret (v := .agg #[v0, v1, v2, v3, v4, v5, v6, v7]) ?_ hd hR
  have hp' : a.tmps[p]?.getD undef = .pointer (some ⟨g, 0, none⟩) := by simpa using hp
  have hl := run_loadVar_row (P := Tryz.prog) w g 28 28 #[v0, v1, v2, v3, v4, v5, v6, v7] (0, 0) _ hg Tryz.underlying28 rfl (by kernel_rfl)
  simp [results, h, hp', asAddr, hl]

theorem grown_alloc {w W : World} {row : Option Nat} (h : w.grownBy W row) (o : Obj) : w.grownBy (W.alloc o) row := grown_trans h (World.grownBy_alloc W o row)

theorem grown_drew {w W : World} {row : Option Nat} (h : w.grownBy W row) (n : Nat) : w.grownBy (W.drewN n) row := ⟨h.os, h.tape, h.output, h.size, h.block⟩

theorem grown_own {w W : World} {g : Nat} (h : w.grownBy W (some g)) (j : Nat) (u : Value) : w.grownBy (W.setCell ⟨g, j, none⟩ u) (some g) := grown_trans h (grown_set j u)

theorem grown_new {w W : World} {row : Option Nat} (h : w.grownBy W row) {b : Nat} (hb : w.heap.size ≤ b) (j : Nat) (u : Value) : w.grownBy (W.setCell ⟨b, j, none⟩ u) row :=
  ⟨h.os, h.tape, h.output, by simpa [World.setCell] using h.size, fun k hk hne => (Below.heap_setCell W ⟨b, j, none⟩ u k (fun e => by simp only at e; omega)).trans (h.block k hk hne)⟩

theorem blk_other {W : World} {g b : Nat} {x : Option Obj} (h : W.heap[g]? = x) (hne : b ≠ g) (j : Nat) (u : Value) : (W.setCell ⟨b, j, none⟩ u).heap[g]? = x :=
  (Below.heap_setCell W ⟨b, j, none⟩ u g (fun e => hne e.symm)).trans h

theorem blk_alloc {W : World} {g : Nat} {x : Obj} (h : W.heap[g]? = some x) (o : Obj) : (W.alloc o).heap[g]? = some x := (heap_alloc_old W o (Array.getElem?_eq_some_iff.1 h).1).trans h

theorem five_put {w : World} {g : Nat} {e : TypeId} {a0 a1 a2 a3 a4 : Value} (h : w.heap[g]? = some (.cells #[a0, a1, a2, a3, a4] e (0, 0))) (v0 v1 v2 v3 v4 : Value) :
    (((((w.setCell ⟨g, 0, none⟩ v0).setCell ⟨g, 1, none⟩ v1).setCell ⟨g, 2, none⟩ v2).setCell ⟨g, 3, none⟩ v3).setCell ⟨g, 4, none⟩ v4).heap[g]? = some (.cells #[v0, v1, v2, v3, v4] e (0, 0)) := by
  have h1 := set_heap' h 0 v0
  have h2 := set_heap' h1 1 v1
  have h3 := set_heap' h2 2 v2
  have h4 := set_heap' h3 3 v3
  exact set_heap' h4 4 v4

theorem five_grown {w W : World} {row : Option Nat} (h : w.grownBy W row) {b : Nat} (hb : w.heap.size ≤ b) (v0 v1 v2 v3 v4 : Value) :
    w.grownBy (((((W.setCell ⟨b, 0, none⟩ v0).setCell ⟨b, 1, none⟩ v1).setCell ⟨b, 2, none⟩ v2).setCell ⟨b, 3, none⟩ v3).setCell ⟨b, 4, none⟩ v4) row :=
  grown_new (grown_new (grown_new (grown_new (grown_new h hb 0 v0) hb 1 v1) hb 2 v2) hb 3 v3) hb 4 v4

theorem five_other {W : World} {g b : Nat} {x : Option Obj} (h : W.heap[g]? = x) (hne : b ≠ g) (v0 v1 v2 v3 v4 : Value) :
    (((((W.setCell ⟨b, 0, none⟩ v0).setCell ⟨b, 1, none⟩ v1).setCell ⟨b, 2, none⟩ v2).setCell ⟨b, 3, none⟩ v3).setCell ⟨b, 4, none⟩ v4).heap[g]? = x :=
  blk_other (blk_other (blk_other (blk_other (blk_other h hne 0 v0) hne 1 v1) hne 2 v2) hne 3 v3) hne 4 v4

theorem tq_fld0 (v0 v1 v2 v3 v4 : Value) (W : World) : (Instr.field 81 (.agg #[v0, v1, v2, v3, v4]) 0).run Tryz.prog W = .ok v0 W := by kernel_rfl

theorem tq_fld1 (v0 v1 v2 v3 v4 : Value) (W : World) : (Instr.field 81 (.agg #[v0, v1, v2, v3, v4]) 1).run Tryz.prog W = .ok v1 W := by kernel_rfl

theorem tq_fld2 (v0 v1 v2 v3 v4 : Value) (W : World) : (Instr.field 81 (.agg #[v0, v1, v2, v3, v4]) 2).run Tryz.prog W = .ok v2 W := by kernel_rfl

theorem tq_fld3 (v0 v1 v2 v3 v4 : Value) (W : World) : (Instr.field 81 (.agg #[v0, v1, v2, v3, v4]) 3).run Tryz.prog W = .ok v3 W := by kernel_rfl

theorem tq_fld4 (v0 v1 v2 v3 v4 : Value) (W : World) : (Instr.field 81 (.agg #[v0, v1, v2, v3, v4]) 4).run Tryz.prog W = .ok v4 W := by kernel_rfl

end Go.Proofs.YtlekfcehmlepkaaGreatDoor
