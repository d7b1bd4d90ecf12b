/- Lists of texts and of units that came in, as the walks want them, and how long their texts are. -/
import Derived.Test.YtnkknkijnpdapaaJBy
import Derived.SizedLaws
import Derived.Deep.Slices
namespace Go.Proofs.Ytnkknkijnpdapaa
open Go.ChangeShapes Go.WideShapes Go.ChangeAt Go.RowKit
set_option linter.unusedVariables false
set_option linter.unusedSimpArgs false

/-- What the form itself bounds. -/
def Wok {H : Type} (t : TypeId) (d : DataW H) : Prop := ∀ n ∈ d.weights Try.prog t, n ≤ reachBytes

theorem reach_lt {n : Nat} (h : n ≤ reachBytes) : n ≤ 140737488355328 := by have := reachBytes_lt; omega

theorem mem_weightsAll {H : Type} {P : Program} {e : TypeId} {n : Nat} : ∀ {ds : List (DataW H)} {d : DataW H}, d ∈ ds → n ∈ d.weights P e → n ∈ DataW.weightsAll P e ds
  | d0 :: ds, d, hd, hn => by
    simp only [DataW.weightsAll, List.mem_append]
    rcases List.mem_cons.1 hd with rfl | hd
    · exact .inl hn
    · exact .inr (mem_weightsAll hd hn)

theorem Wok.elem {H : Type} {t e : TypeId} {elems spare : List (DataW H)} (h : Wok t (.slice elems spare)) (ht : Try.prog.underlying t = some (.slice e)) {d : DataW H} (hd : d ∈ elems) : Wok e d := by
  intro n hn
  refine h n ?_
  simp only [DataW.weights, ht, List.mem_cons, List.mem_append]
  exact .inr (.inl (mem_weightsAll hd hn))

theorem Wok.text {H : Type} {t : TypeId} {s : ByteArray} (h : Wok (H := H) t (.lit (.string s.data.toList))) : Tsm s := by
  have := reach_lt (h s.data.toList.length (by simp [DataW.weights]))
  unfold Tsm
  have e : s.size = s.data.toList.length := by rw [Array.length_toList]; rfl
  omega

theorem sb_cell {H : Type} {enc : TypeId × Value → H} {W : World} {fuel : Nat} {c : Value} {x : DataW H × List MemPlace} (hf : DataW.trod enc Try.prog W 0 (fun _ => true) true fuel 23 [c] = some x) :
    ∃ a cap zs, c = .slice a (List.length zs) cap ∧ Sb W a (List.length zs) cap zs ∧ (Wok 23 x.1 → ∀ z ∈ zs, Tsm z) := by
  rcases open_strings Try.underlying23 Try.underlying9 (by kernel_rfl) hf with ⟨hcs, _⟩ | ⟨y, l, c', ss, hcs, _, hl, hm, hz, hxe, hcell, hws⟩
  · simp at hcs
    subst hcs
    exact ⟨none, 0, [], rfl, ⟨rfl, by simp, Nat.le_refl _, fun _ => rfl, fun h => absurd h (by simp)⟩, fun _ z hz => by simp at hz⟩
  · simp at hcs
    subst hcs
    simp only [if_true] at hz
    have hlen : (ss.take l).length = l := by simp; omega
    refine ⟨some y, c', ss.take l, by rw [hlen], ⟨rfl, by rw [hlen]; unfold maxLen at hm; omega, by rw [hlen]; exact hl, (fun h => by simp at h), fun hp => ?_⟩, fun hk z hzm => ?_⟩
    rotate_left
    · rw [hxe] at hk
      exact (hk.elem Try.underlying23 (d := .lit (.string z.data.toList)) (by unfold strs; exact List.mem_map.2 ⟨z, hzm, rfl⟩)).text
    rw [hlen] at hp
    obtain ⟨b, off, spot⟩ := y
    have hc0 := hcell 0 (by omega)
    have hspot : spot = none := by simpa [Addr.add] using World.cell?_spot hc0
    subst hspot
    refine ⟨b, off, rfl, ?_, ?_⟩
    · rcases Nat.lt_or_ge b W.heap.size with h | h
      · exact h
      · simp [World.cell?, Addr.add, Array.getElem?_eq_none h] at hc0
    · intro i z hi
      have hil : i < l := by
        have := (List.getElem?_eq_some_iff.1 hi).1
        omega
      have := hcell i (by omega)
      have hp : (⟨b, off, none⟩ : Addr).add i = ⟨b, off + i, none⟩ := by unfold Addr.add; split <;> simp_all
      rw [hp] at this
      rw [this]
      rw [List.getElem?_take, if_pos hil] at hi
      simp only [List.getD, hi, Option.getD_some]

theorem sb_open {H : Type} {enc : TypeId × Value → H} {W : World} {a : Option Addr} {len cap : Nat} {d : DataW H} {ps : List MemPlace}
    (h : DataW.Trod enc Try.prog W 0 (fun _ => true) true 23 (.slice a len cap) d ps) : ∃ zs, Sb W a len cap zs ∧ (Wok 23 d → ∀ z ∈ zs, Tsm z) := by
  obtain ⟨fuel, hf⟩ := h
  obtain ⟨a', c', zs, e, hs, ht⟩ := sb_cell (c := .slice a len cap) (x := (d, ps)) (by simpa [Value.cells] using hf)
  simp only [Value.slice.injEq] at e
  obtain ⟨rfl, rfl, rfl⟩ := e
  exact ⟨zs, hs, ht⟩

theorem sn_cell {H : Type} {enc : TypeId × Value → H} {W : World} {fuel : Nat} {c : Value} {x : DataW H × List MemPlace} (hf : DataW.trod enc Try.prog W 0 (fun _ => true) true fuel 38 [c] = some x) :
    ∃ a cap zs, c = .slice a (List.length zs) cap ∧ Sn W a (List.length zs) cap zs := by
  rcases open_ints Try.underlying38 Try.underlying3 (by kernel_rfl) hf with ⟨hcs, _⟩ | ⟨y, l, c', ss, hcs, _, hl, hm, hz, _, hcell, hws⟩
  · simp at hcs
    subst hcs
    exact ⟨none, 0, [], rfl, rfl, by simp, Nat.le_refl _, fun _ => rfl, (fun z hz => by cases hz), fun h => absurd h (by simp)⟩
  · simp at hcs
    subst hcs
    simp only [if_true] at hz
    have hlen : (ss.take l).length = l := by simp; omega
    refine ⟨some y, c', ss.take l, by rw [hlen], rfl, by rw [hlen]; unfold maxLen at hm; omega, by rw [hlen]; exact hl, (fun h => by simp at h), fun z hz => bounds_i64 (hws z (List.mem_of_mem_take hz)), fun hp => ?_⟩
    rw [hlen] at hp
    obtain ⟨b, off, spot⟩ := y
    have hc0 := hcell 0 (by omega)
    have hspot : spot = none := by simpa [Addr.add] using World.cell?_spot hc0
    subst hspot
    refine ⟨b, off, rfl, ?_, ?_⟩
    · rcases Nat.lt_or_ge b W.heap.size with h | h
      · exact h
      · simp [World.cell?, Addr.add, Array.getElem?_eq_none h] at hc0
    · intro i z hi
      have hil : i < l := by
        have := (List.getElem?_eq_some_iff.1 hi).1
        omega
      have := hcell i (by omega)
      have hp : (⟨b, off, none⟩ : Addr).add i = ⟨b, off + i, none⟩ := by unfold Addr.add; split <;> simp_all
      rw [hp] at this
      rw [this]
      rw [List.getElem?_take, if_pos hil] at hi
      simp only [List.getD, hi, Option.getD_some]

/-- Three cells that read as a unit. -/
theorem unit_open {H : Type} {enc : TypeId × Value → H} {W : World} {fuel : Nat} {c0 c1 c2 : Value} {x : DataW H × List MemPlace}
    (hf : DataW.trod enc Try.prog W 0 (fun _ => true) true fuel 40 [c0, c1, c2] = some x) :
    ∃ u : Um, (Sb W u.da u.deps.length u.dc u.deps ∧ Sn W u.pa u.pub.length u.pc u.pub) ∧ [c0, c1, c2] = u.cells ∧ (Wok 40 x.1 → Tsm u.path ∧ ∀ d ∈ u.deps, Tsm d) := by
  obtain ⟨xs, n, hfu, hxe, hl, hlen, hfl⟩ := DataW.trod_struct Try.underlying40 hf
  have k1 : Try.prog.cellsOf 9 = 1 := by kernel_rfl
  have k2 : Try.prog.cellsOf 23 = 1 := by kernel_rfl
  have k3 : Try.prog.cellsOf 38 = 1 := by kernel_rfl
  match xs, hlen with
  | [y0, y1, y2], _ =>
    have t0 : DataW.trod enc Try.prog W 0 (fun _ => true) true n 9 [c0] = some y0 := by have h := hfl 0 _ rfl; simpa [k1] using h
    have t1 : DataW.trod enc Try.prog W 0 (fun _ => true) true n 23 [c1] = some y1 := by have h := hfl 1 _ rfl; simpa [k1, k2] using h
    have t2 : DataW.trod enc Try.prog W 0 (fun _ => true) true n 38 [c2] = some y2 := by have h := hfl 2 _ rfl; simpa [k1, k2, k3] using h
    obtain ⟨s0, e0, x0, w0⟩ := DataW.trod_string Try.underlying9 t0
    simp at e0
    subst e0
    obtain ⟨a1, q1, z1, rfl, h1, ht1⟩ := sb_cell t1
    obtain ⟨a2, q2, z2, rfl, h2⟩ := sn_cell t2
    refine ⟨⟨s0, a1, q1, z1, a2, q2, z2⟩, ⟨h1, h2⟩, rfl, fun hk => ?_⟩
    rw [hxe] at hk
    have hin : ∀ n, n ∈ y0.1.weights Try.prog 9 ∨ n ∈ y1.1.weights Try.prog 23 → n ≤ reachBytes := fun n hn => by
      refine hk n ?_
      simp only [DataW.weights, Try.underlying40, List.map_cons, List.map_nil, DataW.weightsEach, List.mem_append]
      rcases hn with hn | hn
      · exact .inl hn
      · exact .inr (.inl hn)
    refine ⟨?_, ht1 (fun n hn => hin n (.inr hn))⟩
    have h9 : Wok 9 y0.1 := fun n hn => hin n (.inl hn)
    rw [x0] at h9
    exact h9.text

theorem add_add3 (b off i j : Nat) : ((⟨b, off, none⟩ : Addr).add i).add j = ⟨b, off + i + j, none⟩ := by
  have h1 : (⟨b, off, none⟩ : Addr).add i = ⟨b, off + i, none⟩ := by unfold Addr.add; split <;> simp_all
  rw [h1]
  unfold Addr.add
  split <;> simp_all

theorem units_open {H : Type} {enc : TypeId × Value → H} {W : World} {a : Option Addr} {len cap : Nat} {d : DataW H} {p : List MemPlace}
    (h : DataW.Trod enc Try.prog W 0 (fun _ => true) true 22 (.slice a len cap) d p) : ∃ us, Ul W a len cap us ∧ (Wok 22 d → Usm us) := by
  obtain ⟨fuel, hf⟩ := h
  have hf' : DataW.trod enc Try.prog W 0 (fun _ => true) true fuel 22 [.slice a len cap] = some (d, p) := by simpa [Value.cells] using hf
  have k4 : Try.prog.cellsOf 40 = 3 := by kernel_rfl
  rcases Deep.open_slice Try.underlying22 hf' with ⟨hcs, _⟩ | ⟨y, l, c, m, n, D, Pl, hcs, _, hl, hm, hmm, hxe, hx⟩
  · simp at hcs
    obtain ⟨rfl, rfl, rfl⟩ := hcs
    exact ⟨[], ⟨rfl, by omega, Nat.le_refl _, fun _ => rfl, fun h => absurd h (by omega), fun i u h => by simp at h⟩, fun _ u hu => by simp at hu⟩
  · simp at hcs
    obtain ⟨rfl, rfl, rfl⟩ := hcs
    rw [k4] at hx
    simp at hmm
    subst hmm
    by_cases hz : len = 0
    · subst hz
      exact ⟨[], ⟨rfl, by omega, Nat.zero_le _, (fun h => by simp at h), fun h => absurd h (by omega), fun i u h => by simp at h⟩, fun _ u hu => by simp at hu⟩
    · obtain ⟨b, off, spot⟩ := y
      have hspot : spot = none := by
        obtain ⟨cs', h1, _⟩ := hx 0 (by omega)
        obtain ⟨_, hlen, hc⟩ := World.cells?_some h1
        have := hc 0 (by omega)
        match cs', hlen with
        | [x0, x1, x2], _ => simpa [Addr.add] using World.cell?_spot this
      subst hspot
      have hpick : ∀ i, ∃ u : Um, i < len → (Sb W u.da u.deps.length u.dc u.deps ∧ Sn W u.pa u.pub.length u.pc u.pub) ∧ (∀ (j : Nat) (v : Value), u.cells[j]? = some v → W.cell? ⟨b, off + i * 3 + j, none⟩ = some v) ∧ (Wok 40 (D i) → Tsm u.path ∧ ∀ d ∈ u.deps, Tsm d) := by
        intro i
        by_cases hi : i < len
        · obtain ⟨cs', h1, h2⟩ := hx i (by omega)
          obtain ⟨_, hlen, hc⟩ := World.cells?_some h1
          match cs', hlen with
          | [x0, x1, x2], _ =>
            obtain ⟨u, ok, e, ht⟩ := unit_open h2
            refine ⟨u, fun _ => ⟨ok, fun j v hj => ?_, ht⟩⟩
            rw [← e] at hj
            have hjl : j < 3 := by
              have := (List.getElem?_eq_some_iff.1 hj).1
              simpa using this
            have g := hc j hjl
            rw [add_add3] at g
            rw [g]
            exact hj
        · exact ⟨⟨⟨#[]⟩, none, 0, [], none, 0, []⟩, fun h => absurd h hi⟩
      obtain ⟨f, hfn⟩ := Classical.axiomOfChoice hpick
      have hat : ∀ (i : Nat) (u : Um), ((List.range len).map f)[i]? = some u → i < len ∧ u = f i := by
        intro i u hi
        have hil : i < len := by
          have := (List.getElem?_eq_some_iff.1 hi).1
          simpa using this
        simp [hil] at hi
        exact ⟨hil, hi.symm⟩
      refine ⟨(List.range len).map f, ⟨by simp, by unfold maxLen at hm; omega, hl, (fun h => by simp at h), fun _ => ⟨b, off, rfl, ?_, ?_⟩, fun i u hi => ?_⟩, fun hk u hu => ?_⟩
      · have := (hfn 0 (by omega)).2.1 0 _ rfl
        rcases Nat.lt_or_ge b W.heap.size with h | h
        · exact h
        · simp [World.cell?, Array.getElem?_eq_none h] at this
      · intro i u hi j v hj
        obtain ⟨hil, rfl⟩ := hat i u hi
        exact (hfn i hil).2.1 j v hj
      · obtain ⟨hil, rfl⟩ := hat i u hi
        exact (hfn i hil).1
      · obtain ⟨i, hi, rfl⟩ := List.mem_map.1 hu
        rw [List.mem_range] at hi
        have h9 := congrArg Prod.fst hxe
        simp only at h9
        rw [h9] at hk
        exact (hfn i hi).2.2 (hk.elem Try.underlying22 (List.mem_map.2 ⟨i, List.mem_range.2 hi, rfl⟩))

end Go.Proofs.Ytnkknkijnpdapaa
