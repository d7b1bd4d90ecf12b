/- The program's own byPath, hasTwice: units by their paths; whether a text stands twice. -/
import Derived.Test.YtnkknkijnpdapaaJMap
import Derived.Test.YtnkknkijnpdapaaHDup
namespace Go.Proofs.Ytnkknkijnpdapaa
open Go.RowKit
set_option linter.unusedVariables false
set_option linter.unusedSimpArgs false

/-- A text that memory has room for. -/
def Tsm (s : ByteArray) : Prop := s.size ≤ 140737488355328

def Usm (us : List Um) : Prop := ∀ u ∈ us, Tsm u.path ∧ ∀ d ∈ u.deps, Tsm d

theorem Tsm.key {s : ByteArray} (h : Tsm s) : s.size ≤ maxLen := by unfold Tsm at h; unfold maxLen; omega

def Um.val (u : Um) : Value := .agg #[.string u.path, .slice u.da u.deps.length u.dc, .slice u.pa u.pub.length u.pc]

/-- What is at a path: its first unit. -/
def ug (us : List Um) (p : ByteArray) : Option Value := (us.find? fun u => decide (u.path = p)).map Um.val

theorem ug_snoc_some {us : List Um} {u : Um} {v : Value} (h : ug us u.path = some v) (p : ByteArray) : ug us p = ug (us ++ [u]) p := by
  unfold ug at *
  rw [List.find?_append]
  by_cases hp : u.path = p
  · subst hp
    cases hq : us.find? (fun x => decide (x.path = u.path)) with
    | none => rw [hq] at h; cases h
    | some x => rfl
  · have : List.find? (fun u => decide (u.path = p)) [u] = none := by simp [hp]
    rw [this, Option.or_none]

theorem ug_snoc_none {us : List Um} {u : Um} (h : ug us u.path = none) (p : ByteArray) : (if p = u.path then some u.val else ug us p) = ug (us ++ [u]) p := by
  unfold ug at *
  rw [List.find?_append]
  by_cases hp : p = u.path
  · subst hp
    have hq : us.find? (fun x => decide (x.path = u.path)) = none := by simpa using h
    rw [if_pos rfl, hq]
    simp
  · have : List.find? (fun u => decide (u.path = p)) [u] = none := by simp; exact fun e => hp e.symm
    rw [if_neg hp, this, Option.or_none]

theorem ug_some {us : List Um} {p : ByteArray} {v : Value} (h : ug us p = some v) : ∃ u ∈ us, u.path = p ∧ v = u.val ∧ hunit (us.map Um.un) p = some u.un := by
  unfold ug at h
  cases hq : us.find? (fun u => decide (u.path = p)) with
  | none => rw [hq] at h; cases h
  | some u =>
    rw [hq] at h
    refine ⟨u, List.mem_of_find?_eq_some hq, by simpa using List.find?_some hq, by simpa using h.symm, ?_⟩
    unfold hunit
    rw [List.find?_map]
    have : (fun u : Un => decide (u.path = p)) ∘ Um.un = fun u : Um => decide (u.path = p) := rfl
    rw [this, hq]
    rfl

theorem ug_none {us : List Um} {p : ByteArray} (h : ug us p = none) : hunit (us.map Um.un) p = none := by
  unfold ug at h
  unfold hunit
  rw [List.find?_map]
  have : (fun u : Un => decide (u.path = p)) ∘ Um.un = fun u : Um => decide (u.path = p) := rfl
  rw [this]
  cases hq : us.find? (fun u => decide (u.path = p)) with
  | none => rfl
  | some u => rw [hq] at h; cases h

theorem take_snoc {α : Type} {l : List α} {k : Nat} {x : α} (h : l[k]? = some x) : l.take (k + 1) = l.take k ++ [x] := by
  obtain ⟨hk, hx⟩ := List.getElem?_eq_some_iff.1 h
  rw [List.take_add_one, h]
  rfl

theorem zeroUnit (w : World) : (zeroValue 40).run Try.prog w = .ok (.agg #[.string ⟨#[]⟩, .slice none 0 0, .slice none 0 0]) w := by kernel_rfl

set_option maxRecDepth 10000 in
set_option maxHeartbeats 2000000 in
theorem pby_any {w : World} {a : Option Addr} {len cap : Nat} {us : List Um} (hU : Hid (Ul w a len cap us)) (hs : Hid (Usm us)) (W : World) (hB : Below w.heap.size w W) :
    Calls Try.prog 26 #[.slice a len cap] W fun e W' => e = .returned (.map (some W.heap.size)) ∧ (∃ n, Mg W' W.heap.size n (ug us)) ∧ Below W.heap.size W W' := by
  obtain ⟨h1, h2, h3, h4, h6, _⟩ := hU.out.below hB
  have H1 : Hid (us.length = len) := h1
  have H6 : Hid _ := h6
  clear h1 h6 hU hB w
  have hmm := @run_makeMap Try.prog
  go_enter Try.func26, Try.ntmps26
  go_wp2
  go_loopw [11] (fun v wr => ∃ k : Nat, v = .int .i64 (k : Int) ∧ k ≤ len ∧ Hid (∃ n, Mg wr W.heap.size n (ug (us.take k))) ∧ Hid (Below W.heap.size W wr)) (fun v _ => len - (intOf v).toNat)
  case atStart => exact ⟨0, rfl, by omega, ⟨0, (Mg.made W).congr (fun _ => by simp [ug])⟩, (Below.refl _ _).alloc (Nat.le_refl _) _⟩
  case round =>
    obtain ⟨k, rfl, hk, HM, HB⟩ := hrel
    by_cases hkl : k < len
    · obtain ⟨b, off, rfl, hlt, hc⟩ := H6.out (by omega)
      obtain ⟨u, hu⟩ : ∃ u, us[k]? = some u := ⟨us[k]'(by rw [H1.out]; exact hkl), List.getElem?_eq_getElem (by rw [H1.out]; exact hkl)⟩
      obtain ⟨c0, c1, c2⟩ := unit_cells (w := wr) (fun i u hi j v hj => (HB.out.cell hlt).trans (hc i u hi j v hj)) hu
      have hlt2 : b < wr.heap.size := Nat.lt_of_lt_of_le hlt HB.out.size
      obtain ⟨n, hM⟩ := HM.out
      have hsz := (hs.out u (List.mem_of_getElem? hu)).1.key
      have hM1 := hM.kept (World.grownBy_alloc wr (.cells #[.string u.path, .slice u.da u.deps.length u.dc, .slice u.pa u.pub.length u.pc] 40) none) (by simp)
      have hlk := hM1.look Try.underlying52 (zeroUnit _) u.path hsz true
      have HB1 : Hid (Below W.heap.size W (wr.alloc (.cells #[.string u.path, .slice u.da u.deps.length u.dc, .slice u.pa u.pub.length u.pc] 40))) := HB.out.alloc HB.out.size _
      cases hq : ug (us.take k) u.path with
      | some v =>
        rw [hq] at hlk
        obtain ⟨u2, _, _, rfl, _⟩ := ug_some hq
        simp only [mlook, Um.val] at hlk
        have HM2 : Hid (∃ n, Mg ((wr.alloc (.cells #[.string u.path, .slice u.da u.deps.length u.dc, .slice u.pa u.pub.length u.pc] 40)).alloc (.cells #[.string u2.path, .slice u2.da u2.deps.length u2.dc, .slice u2.pa u2.pub.length u2.pc] 40)) W.heap.size n (ug (us.take (k + 1)))) := ⟨n, by
          rw [take_snoc hu]
          exact (hM1.kept (World.grownBy_alloc _ _ none) (by simp)).congr (ug_snoc_some hq)⟩
        have HB2 : Hid (Below W.heap.size W ((wr.alloc (.cells #[.string u.path, .slice u.da u.deps.length u.dc, .slice u.pa u.pub.length u.pc] 40)).alloc (.cells #[.string u2.path, .slice u2.da u2.deps.length u2.dc, .slice u2.pa u2.pub.length u2.pc] 40))) := HB1.out.alloc HB1.out.size _
        obtain ⟨up, uda, udc, ud, upa, upc, upb⟩ := u
        obtain ⟨up2, uda2, udc2, ud2, upa2, upc2, upb2⟩ := u2
        simp only at c0 c1 c2 hlk HM2 HB2
        clear HM HB HB1 hM hM1 hu hq hc hsz
        go_wp2
        go_roundw
        case rel => first | exact ⟨k + 1, by go_num, by omega, HM2, HB2⟩ | ((repeat apply Exists.intro); exact ⟨⟨k + 1, by go_num, by omega, HM2, HB2⟩, rfl⟩)
        case measure => simp [intOf]; omega
      | none =>
        rw [hq] at hlk
        simp only [mlook] at hlk
        have hM2 := hM1.kept (World.grownBy_alloc (wr.alloc (.cells #[.string u.path, .slice u.da u.deps.length u.dc, .slice u.pa u.pub.length u.pc] 40)) (.cells #[.string ⟨#[]⟩, .slice none 0 0, .slice none 0 0] 40) none) (by simp)
        obtain ⟨w3, hup, hM3, hg3⟩ := hM2.put Try.underlying52 u.path hsz u.val
        have HM3 : Hid (∃ n, Mg w3 W.heap.size n (ug (us.take (k + 1)))) := ⟨_, by
          rw [take_snoc hu]
          exact hM3.congr (ug_snoc_none hq)⟩
        have HB3 : Hid (Below W.heap.size W w3) := by
          have h2 := HB1.out.alloc HB1.out.size (.cells #[.string ⟨#[]⟩, .slice none 0 0, .slice none 0 0] 40)
          exact h2.grown hg3 h2.size (fun j hj => by cases hj; exact Nat.le_refl _)
        obtain ⟨up, uda, udc, ud, upa, upc, upb⟩ := u
        simp only [Um.val] at c0 c1 c2 hlk hup
        clear HM HB HB1 hM hM1 hM2 hM3 hg3 hu hq hc hsz
        go_wp2
        go_roundw
        case rel => first | exact ⟨k + 1, by go_num, by omega, HM3, HB3⟩ | ((repeat apply Exists.intro); exact ⟨⟨k + 1, by go_num, by omega, HM3, HB3⟩, rfl⟩)
        case measure => simp [intOf]; omega
    · obtain rfl : k = len := by omega
      have HM2 : Hid (∃ n, Mg wr W.heap.size n (ug us)) := by
        have := HM.out
        rw [List.take_of_length_le (by rw [H1.out]; exact Nat.le_refl _)] at this
        exact this
      clear HM
      go_wp2
      go_ret
      exact ⟨rfl, HM2.out, HB.out⟩

/-- A set of texts as a map. -/
def gset (S : List ByteArray) (x : ByteArray) : Option Value := if hin S x = true then some (.agg #[]) else none

theorem gset_snoc (S : List ByteArray) (z x : ByteArray) : (if x = z then some (.agg #[]) else gset S x) = gset (S ++ [z]) x := by
  unfold gset
  by_cases h : x = z
  · subst h
    rw [if_pos rfl, if_pos ((hin_iff _ _).2 (by simp))]
  · rw [if_neg h]
    by_cases h2 : x ∈ S
    · rw [if_pos ((hin_iff _ _).2 h2), if_pos ((hin_iff _ _).2 (by simp [h2]))]
    · rw [if_neg ((hin_not _ _).2 h2), if_neg ((hin_not _ _).2 (by simp [h2, h]))]

/-- How many texts there are among the first k. -/
def Cnt (zs : List ByteArray) (n k : Nat) : Prop :=
  (n = k ∧ ∀ j, j < k → ∀ d, zs[j]? = some d → hin (zs.take j) d = false) ∨ (n < k ∧ ∃ j d, j < k ∧ zs[j]? = some d ∧ hin (zs.take j) d = true)

set_option maxRecDepth 10000 in
set_option maxHeartbeats 2000000 in
theorem ptwice_any {w : World} {a : Option Addr} {len cap : Nat} {zs : List ByteArray} (hS : Hid (Sb w a len cap zs)) (hs : Hid (∀ z ∈ zs, Tsm z)) (W : World) (hB : Below w.heap.size w W) :
    Calls Try.prog 40 #[.slice a len cap] W fun e W' => e = .returned (.bool (hdup zs)) ∧ Below W.heap.size W W' := by
  obtain ⟨h1, h2, h3, h4, h6⟩ := hS.out.below hB
  have H1 : Hid (zs.length = len) := h1
  have H6 : Hid _ := h6
  clear h1 h6 hS hB w
  have hmm := @run_makeMap Try.prog
  go_enter Try.func40, Try.ntmps40
  go_wp2
  go_loopw [9] (fun v wr => ∃ k : Nat, v = .int .i64 (k : Int) ∧ k ≤ len ∧ Hid (∃ n, Mg wr W.heap.size n (gset (zs.take k)) ∧ Cnt zs n k) ∧ Hid (Below W.heap.size W wr)) (fun v _ => len - (intOf v).toNat)
  case atStart => exact ⟨0, rfl, by omega, ⟨0, (Mg.made W).congr (fun _ => by simp [gset, hin]), .inl ⟨rfl, fun j hj => absurd hj (by omega)⟩⟩, (Below.refl _ _).alloc (Nat.le_refl _) _⟩
  case round =>
    obtain ⟨k, rfl, hk, HM, HB⟩ := hrel
    by_cases hkl : k < len
    · obtain ⟨b, off, rfl, hlt, hc⟩ := H6.out (by omega)
      obtain ⟨z, hz⟩ : ∃ z, zs[k]? = some z := ⟨zs[k]'(by rw [H1.out]; exact hkl), List.getElem?_eq_getElem (by rw [H1.out]; exact hkl)⟩
      have hcell := (HB.out.cell hlt).trans (hc k z hz)
      obtain ⟨n, hM, hC⟩ := HM.out
      have hsz := (hs.out z (List.mem_of_getElem? hz)).key
      obtain ⟨w3, hup, hM3, hg3⟩ := hM.put Try.underlying64 z hsz (.agg #[])
      have HM3 : Hid (∃ n, Mg w3 W.heap.size n (gset (zs.take (k + 1))) ∧ Cnt zs n (k + 1)) := by
        refine ⟨_, by rw [take_snoc hz]; exact hM3.congr (gset_snoc _ _), ?_⟩
        by_cases hin1 : hin (zs.take k) z = true
        · have : gset (zs.take k) z = some (.agg #[]) := by unfold gset; rw [if_pos hin1]
          rw [this]
          refine .inr ⟨?_, k, z, by omega, hz, hin1⟩
          rcases hC with ⟨e, _⟩ | ⟨e, _⟩
          · simp only; omega
          · simp only; omega
        · have hin2 : hin (zs.take k) z = false := by simpa using hin1
          have : gset (zs.take k) z = none := by unfold gset; rw [if_neg hin1]
          rw [this]
          rcases hC with ⟨e, hJ⟩ | ⟨e, j, d, hj, hjd, hjh⟩
          · refine .inl ⟨by simp only; omega, fun j hj d hd => ?_⟩
            by_cases q : j = k
            · rw [q] at hd ⊢
              rw [hz] at hd
              cases hd
              exact hin2
            · exact hJ j (by omega) d hd
          · exact .inr ⟨by simp only; omega, j, d, by omega, hjd, hjh⟩
      have HB3 : Hid (Below W.heap.size W w3) := HB.out.grown hg3 HB.out.size (fun j hj => by cases hj; exact Nat.le_refl _)
      clear HM HB hM hM3 hC hg3 hz hc hsz
      go_wp2
      go_roundw
      case rel => first | exact ⟨k + 1, by go_num, by omega, HM3, HB3⟩ | ((repeat apply Exists.intro); exact ⟨⟨k + 1, by go_num, by omega, HM3, HB3⟩, rfl⟩)
      case measure => simp [intOf]; omega
    · obtain rfl : k = len := by omega
      obtain ⟨n, hM, hC⟩ := HM.out
      have hln := hM.len Try.underlying64 3
      have hnk : n ≤ k := by rcases hC with ⟨e, _⟩ | ⟨e, _⟩ <;> omega
      have E : Hid (decide ((n : Int) < (k : Int)) = hdup zs) := by
        rcases hC with ⟨e, hJ⟩ | ⟨e, j, d, hj, hjd, hjh⟩
        · rw [hdup_no (fun j hj => hJ j (by rw [← H1.out]; exact hj))]
          exact decide_eq_false (by omega)
        · rw [hdup_yes hjd hjh]
          exact decide_eq_true (by omega)
      simp only [goInt] at hln
      clear HM hM hC
      go_wp2
      go_ret
      refine ⟨?_, HB.out⟩
      rw [← E.out]
      simp

end Go.Proofs.Ytnkknkijnpdapaa
