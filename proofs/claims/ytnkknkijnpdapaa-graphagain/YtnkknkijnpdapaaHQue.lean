/- Lists of texts that are taken off at their head and added to at their end. -/
import Derived.Test.YtnkknkijnpdapaaHDup
namespace Go.Proofs.Ytnkknkijnpdapaa
open Go.RowKit
set_option linter.unusedVariables false
set_option linter.unusedSimpArgs false

/-- The call's own list, wherever in its row it begins. -/
def Sq (w : World) (base : Nat) (v : Value) (zs : List ByteArray) : Prop :=
  (v = .slice none 0 0 ∧ zs = []) ∨ ∃ g o cap cur, v = .slice (some ⟨g, o, none⟩) zs.length cap ∧ base ≤ g ∧ w.heap[g]? = some (.cells cur 9 (0, 0)) ∧ zs.length ≤ cap ∧ o + cap ≤ cur.size ∧ cap ≤ maxLen ∧ (cur.toList.drop o).take zs.length = zs.map Value.string

theorem Sq.of_own {w : World} {base : Nat} {v : Value} {zs : List ByteArray} (h : Sw w base v zs) : Sq w base v zs := by
  rcases h.2 with ⟨he, hn⟩ | ⟨g, c, cur, he, hg, hh, h1, h2, h3, h4⟩
  · exact .inl ⟨he, List.eq_nil_of_length_eq_zero hn⟩
  · exact .inr ⟨g, 0, c, cur, he, hg, hh, h1, by omega, h2, by simpa using h4⟩

theorem Sq.slice {w : World} {base : Nat} {v : Value} {zs : List ByteArray} (h : Sq w base v zs) : ∃ a c, v = .slice a zs.length c := by
  rcases h with ⟨h, rfl⟩ | ⟨g, o, cap, cur, h, _⟩
  · exact ⟨_, _, h⟩
  · exact ⟨_, _, h⟩

theorem Sq.below {w w' : World} {base : Nat} {v : Value} {zs : List ByteArray} (h : Sq w base v zs) (hb : Below w.heap.size w w') : Sq w' base v zs := by
  rcases h with h | ⟨g, o, cap, cur, h1, h2, h3, h4⟩
  · exact .inl h
  · exact .inr ⟨g, o, cap, cur, h1, h2, (hb.block _ (Array.getElem?_eq_some_iff.1 h3).1).trans h3, h4⟩

theorem Sq.at {w : World} {base : Nat} {v : Value} {zs : List ByteArray} (h : Sq w base v zs) {k : Nat} (hk : v.ownBlock = some k) : base ≤ k ∧ k < w.heap.size := by
  rcases h with ⟨rfl, _⟩ | ⟨g, o, cap, cur, rfl, h2, h3, _⟩
  · cases hk
  · simp only [Value.ownBlock, Option.some.injEq] at hk
    subst hk
    exact ⟨h2, (Array.getElem?_eq_some_iff.1 h3).1⟩

theorem Sq.kept {w w' : World} {base : Nat} {v : Value} {zs : List ByteArray} {row : Option Nat} (h : Sq w base v zs) (hg : w.grownBy w' row) (hne : v.ownBlock = none ∨ v.ownBlock ≠ row) : Sq w' base v zs := by
  rcases h with h | ⟨g, o, cap, cur, rfl, h2, h3, h4⟩
  · exact .inl h
  · refine .inr ⟨g, o, cap, cur, rfl, h2, (hg.block g (Array.getElem?_eq_some_iff.1 h3).1 ?_).trans h3, h4⟩
    rcases hne with hne | hne
    · cases hne
    · exact hne

/-- What is first, and what lies behind it. -/
theorem Sq.head {w : World} {base : Nat} {a : Option Addr} {n cap : Nat} {z : ByteArray} {zs : List ByteArray} (h : Sq w base (.slice a n cap) (z :: zs)) : ∃ g o, a = some ⟨g, o, none⟩ ∧ n = zs.length + 1 ∧ g < w.heap.size ∧ w.cell? ⟨g, o, none⟩ = some (.string z) ∧ n ≤ cap ∧ cap ≤ maxLen ∧
    Sq w base (.slice (some ⟨g, o + 1, none⟩) zs.length (cap - 1)) zs ∧ (cap = 1 → Sq w base (.slice (some ⟨g, o, none⟩) 0 0) zs ∧ zs = []) := by
  rcases h with ⟨_, h⟩ | ⟨g, o, c, cur, h1, h2, h3, h4, h5, h6, h7⟩
  · cases h
  · simp only [Value.slice.injEq, List.length_cons] at h1
    obtain ⟨rfl, rfl, rfl⟩ := h1
    have hlt : g < w.heap.size := (Array.getElem?_eq_some_iff.1 h3).1
    have ho : o < cur.toList.length := by simp only [List.length_cons, Array.length_toList] at *; omega
    rw [List.drop_eq_getElem_cons ho, List.length_cons, List.take_succ_cons, List.map_cons, List.cons.injEq] at h7
    refine ⟨g, o, rfl, rfl, hlt, ?_, by simpa using h4, h6, .inr ⟨g, o + 1, _, cur, rfl, h2, h3, by simp at h4; omega, by simp at h4; omega, by omega, h7.2⟩, fun hc => ?_⟩
    · simp only [World.cell?, h3]
      have h8 := h7.1
      simp only [Array.getElem_toList] at h8
      simp only [Array.length_toList] at ho
      rw [← h8]
      simp [ho]
    · have hz : zs = [] := List.eq_nil_of_length_eq_zero (by simp at h4; omega)
      subst hz
      exact ⟨.inr ⟨g, o, 0, cur, rfl, h2, h3, by simp, by omega, by omega, by simp⟩, rfl⟩

theorem run_append_room_at {P : Program} (w : World) (t ty e : TypeId) (i : TypeInfo) (ht : P.underlying t = some (.slice e)) (hi : P.info? e = some i)
    (g o sLen sCap : Nat) (cur : Array Value) (hg : w.heap[g]? = some (.cells cur e (0, 0)))
    (a : Addr) (m c : Nat) (news : List Value) (hl : news.length = m * i.size) (hnews : ∀ j u, news[j]? = some u → w.cell? (a.add j) = some u) (h1 : ∀ u ∈ news, u.oneCell' = true)
    (hroom : sLen + m ≤ sCap) (hfit : o + sLen * i.size + news.length ≤ cur.size) :
    (Builtin.append_ #[t, t] ty #[.slice (some ⟨g, o, none⟩) sLen sCap, .slice (some a) m c]).run P w =
      .ok (.slice (some ⟨g, o, none⟩) (sLen + m) sCap) (w.setRow g (cur.toList.take (o + sLen * i.size) ++ news ++ cur.toList.drop (o + sLen * i.size + news.length)).toArray) := by
  have hf := run_firstCells_some (P := P) w i.size m a m c news hl hnews
  have hst := run_storeCells_at P g (o + sLen * i.size) e news 0 cur w hg (by simpa using hfit) h1
  simp only [Nat.add_zero] at hst
  have hadd : (⟨g, o, none⟩ : Addr).add (sLen * i.size) = ⟨g, o + sLen * i.size, none⟩ := by unfold Addr.add; split <;> simp_all
  simp [Builtin.append_, run_underlying ht, sizeOf, typeInfo, hi, Builtin.lenOf, hroom, hf, hadd, hst]

theorem run_append_sq {w : World} {base : Nat} {v : Value} {zs : List ByteArray} (h : Sq w base v zs) (ty : TypeId) (ad : Addr) (m c : Nat) (news : List ByteArray) (hl : news.length = m) (hnews : ∀ (j : Nat) (z : ByteArray), news[j]? = some z → w.cell? (ad.add j) = some (.string z)) (hn : zs.length + m ≤ 1000000) (hbase : base ≤ w.heap.size) :
    ∃ v' w', (Builtin.append_ #[23, 23] ty #[v, .slice (some ad) m c]).run Try.prog w = .ok v' w' ∧ Sq w' base v' (zs ++ news) ∧ w.grownBy w' v.ownBlock ∧ (v'.ownBlock = v.ownBlock ∨ v'.ownBlock = some w.heap.size) := by
  obtain ⟨i0, hi, hz0, hz1, hz2⟩ := info_parts Try.infoStr2
  have hnw : ∀ (j : Nat) (u : Value), (news.map Value.string)[j]? = some u → w.cell? (ad.add j) = some u := by
    intro j u hj
    rw [List.getElem?_map] at hj
    cases hq : news[j]? with
    | none => rw [hq] at hj; cases hj
    | some z =>
      rw [hq] at hj
      cases hj
      exact hnews j z hq
  have h1 : ∀ u ∈ news.map Value.string, u.oneCell' = true := by
    intro u hu
    obtain ⟨z, _, rfl⟩ := List.mem_map.1 hu
    rfl
  rcases h with ⟨rfl, rfl⟩ | ⟨g, o, cap, cur, rfl, hb, hg, hc, hoc, hcm, htk⟩
  · obtain ⟨v', w', hr, h2, h3, _, h4⟩ := run_append_own_at (P := Try.prog) w base 23 ty 9 i0 _ 1 16 Try.underlying23 hi hz0 hz1 hz2 rfl (by decide) (.slice none 0 0) 0 [] (World.ownsRow_nil _ _ _ _) ad m c (news.map Value.string) (by simp [hl]) hnw h1 (by unfold maxLen; omega) (by omega) hbase
    refine ⟨v', w', hr, Sq.of_own (zs := news) ?_, h3, h4⟩
    unfold Sw
    rw [hl]
    simpa using h2
  · by_cases hroom : zs.length + m ≤ cap
    · have hr := run_append_room_at (P := Try.prog) w 23 ty 9 i0 Try.underlying23 hi g o zs.length cap cur hg ad m c (news.map Value.string) (by rw [hz1]; simp [hl]) hnw h1 hroom (by rw [hz1]; simp [hl]; omega)
      rw [hz1] at hr
      refine ⟨_, _, hr, .inr ⟨g, o, cap, _, by rw [List.length_append, hl], hb, setRow_heap w g cur _ _ _ hg, by rw [List.length_append, hl]; exact hroom, ?_, hcm, ?_⟩, ⟨rfl, rfl, rfl, by simp, fun k _ hk => setRow_other w g k _ (fun e => hk (by simp [Value.ownBlock, e]))⟩, Or.inl rfl⟩
      · simp only [List.size_toArray, List.length_append, List.length_take, List.length_drop, Array.length_toList, List.length_map]
        omega
      · simp only [List.toList_toArray, Nat.mul_one, List.length_map, List.length_append, List.map_append]
        have hlen : (cur.toList.take (o + zs.length)).length = o + zs.length := by simp; omega
        rw [List.append_assoc, List.drop_append_of_le_length (by omega), List.drop_take, show o + zs.length - o = zs.length by omega, htk, ← List.append_assoc]
        exact List.take_left' (by simp)
    · have holds : ∀ (j : Nat) (u : Value), (zs.map Value.string)[j]? = some u → w.cell? ((⟨g, o, none⟩ : Addr).add j) = some u := by
        intro j u hj
        have hp : (⟨g, o, none⟩ : Addr).add j = ⟨g, o + j, none⟩ := by unfold Addr.add; split <;> simp_all
        rw [hp, ← htk, List.getElem?_take] at *
        split at hj
        · rw [List.getElem?_drop] at hj
          simp only [World.cell?, hg]
          simpa using hj
        · cases hj
      have hr := run_append_grow (P := Try.prog) w 23 ty 9 i0 _ Try.underlying23 hi hz0 ⟨g, o, none⟩ zs.length cap (zs.map Value.string) (by rw [hz1]; simp) holds ad m c (news.map Value.string) (by rw [hz1]; simp [hl]) hnw (by omega) (by omega) (growslice_fits (by omega) (by rw [hz2]; omega))
      have hge := grownCap_ge w (zs.length + m) cap 9
      have hcm2 : grownCap w (zs.length + m) cap 9 ≤ maxLen := grownCap_le_maxLen w (zs.length + m) cap 9 (by unfold maxLen; omega)
      refine ⟨_, _, hr, .inr ⟨w.heap.size, 0, _, _, by rw [List.length_append, hl], hbase, heap_alloc_new w.drew _, by rw [List.length_append, hl]; exact hge, ?_, hcm2, ?_⟩, ⟨rfl, rfl, rfl, by simp, fun k hk _ => heap_alloc_old w.drew _ hk⟩, Or.inr rfl⟩
      · simp only [Array.size_append, List.size_toArray, size_zeroCells, List.length_map, hl]
        have : (Value.string { data := #[] }).cells.size = 1 := rfl
        rw [this]
        omega
      · simp only [Array.toList_append, List.drop_zero, List.append_assoc, List.map_append, List.length_append]
        rw [← List.append_assoc]
        exact List.take_left' (by simp)

theorem Sb.news {w : World} {ad : Addr} {m c : Nat} {news : List ByteArray} (h : Sb w (some ad) m c news) : ∀ (j : Nat) (z : ByteArray), news[j]? = some z → w.cell? (ad.add j) = some (.string z) := by
  intro j z hj
  have hjl : j < m := by rw [← h.hlen]; exact (List.getElem?_eq_some_iff.1 hj).1
  obtain ⟨b, off, e, _, hc⟩ := h.hmem (by omega)
  simp at e
  subst e
  have hp : (⟨b, off, none⟩ : Addr).add j = ⟨b, off + j, none⟩ := by unfold Addr.add; split <;> simp_all
  rw [hp]
  exact hc j z hj

/-- Texts that lie anywhere are added. -/
theorem run_append_sqs {w : World} {base : Nat} {v : Value} {zs : List ByteArray} (h : Sq w base v zs) (ty : TypeId) {a : Option Addr} {m c : Nat} {news : List ByteArray} (hs : Sb w a m c news) (hn : zs.length + m ≤ 1000000) (hbase : base ≤ w.heap.size) :
    ∃ v' w', (Builtin.append_ #[23, 23] ty #[v, .slice a m c]).run Try.prog w = .ok v' w' ∧ Sq w' base v' (zs ++ news) ∧ w.grownBy w' v.ownBlock ∧ (v'.ownBlock = v.ownBlock ∨ v'.ownBlock = some w.heap.size) := by
  cases a with
  | some ad => exact run_append_sq h ty ad m c news hs.hlen hs.news hn hbase
  | none =>
    have hc := hs.hnil rfl
    have hcap := hs.hcap
    have hl : m = 0 := by omega
    subst hc hl
    have hz : news = [] := List.eq_nil_of_length_eq_zero hs.hlen
    subst hz
    obtain ⟨i0, hi, hz0, hz1, hz2⟩ := info_parts Try.infoStr2
    refine ⟨v, w, ?_, by simpa using h, ⟨rfl, rfl, rfl, Nat.le_refl _, fun _ _ _ => rfl⟩, .inl rfl⟩
    rcases h with ⟨rfl, rfl⟩ | ⟨g, o, cap, cur, rfl, hb, hg, hc, hoc, hcm, htk⟩
    · simp [Builtin.append_, run_underlying Try.underlying23, sizeOf, typeInfo, hi, Builtin.lenOf, Builtin.firstCells, loadCells, loadCellsFrom]
    · simp [Builtin.append_, run_underlying Try.underlying23, sizeOf, typeInfo, hi, Builtin.lenOf, Builtin.firstCells, loadCells, loadCellsFrom, storeCells, hc]

/-- A list that has no room, and one text or more: a new row. -/
theorem run_append_full {w : World} {a : Option Addr} {n : Nat} {zs : List ByteArray} (h : Sb w a n n zs) (ty : TypeId) (ad : Addr) (m c : Nat) (news : List ByteArray) (hl : news.length = m) (hm : 0 < m) (hnews : ∀ (j : Nat) (z : ByteArray), news[j]? = some z → w.cell? (ad.add j) = some (.string z)) (hn : n + m ≤ 1000000) :
    ∃ v' w', (Builtin.append_ #[23, 23] ty #[.slice a n n, .slice (some ad) m c]).run Try.prog w = .ok v' w' ∧ Sw w' w.heap.size v' (zs ++ news) ∧ Below w.heap.size w w' := by
  obtain ⟨i0, hi, hz0, hz1, hz2⟩ := info_parts Try.infoStr2
  have hnw : ∀ (j : Nat) (u : Value), (news.map Value.string)[j]? = some u → w.cell? (ad.add j) = some u := by
    intro j u hj
    rw [List.getElem?_map] at hj
    cases hq : news[j]? with
    | none => rw [hq] at hj; cases hj
    | some z =>
      rw [hq] at hj
      cases hj
      exact hnews j z hq
  have h1 : ∀ u ∈ news.map Value.string, u.oneCell' = true := by
    intro u hu
    obtain ⟨z, _, rfl⟩ := List.mem_map.1 hu
    rfl
  cases a with
  | none =>
    have hz0' := h.hnil rfl
    subst hz0'
    have hz : zs = [] := List.eq_nil_of_length_eq_zero h.hlen
    subst hz
    obtain ⟨v', w', hr, h2, h3, _, h4⟩ := run_append_own_at (P := Try.prog) w w.heap.size 23 ty 9 i0 _ 1 16 Try.underlying23 hi hz0 hz1 hz2 rfl (by decide) (.slice none 0 0) 0 [] (World.ownsRow_nil _ _ _ _) ad m c (news.map Value.string) (by simp [hl]) hnw h1 (by unfold maxLen; omega) (by omega) (Nat.le_refl _)
    refine ⟨v', w', hr, ?_, (Below.refl _ _).grown h3 (Nat.le_refl _) (fun k hk => by cases hk)⟩
    unfold Sw
    simp only [List.nil_append]
    rw [hl]
    simpa using h2
  | some x =>
    have holds : ∀ (j : Nat) (u : Value), (zs.map Value.string)[j]? = some u → w.cell? (x.add j) = some u := by
      intro j u hj
      rw [List.getElem?_map] at hj
      cases hq : zs[j]? with
      | none => rw [hq] at hj; cases hj
      | some z =>
        rw [hq] at hj
        cases hj
        exact h.news j z hq
    have hr := run_append_grow (P := Try.prog) w 23 ty 9 i0 _ Try.underlying23 hi hz0 x n n (zs.map Value.string) (by rw [hz1]; simp [h.hlen]) holds ad m c (news.map Value.string) (by rw [hz1]; simp [hl]) hnw (by omega) (by omega) (growslice_fits (by omega) (by rw [hz2]; omega))
    have hge := grownCap_ge w (n + m) n 9
    have hcm2 : grownCap w (n + m) n 9 ≤ maxLen := grownCap_le_maxLen w (n + m) n 9 (by unfold maxLen; omega)
    refine ⟨_, _, hr, ⟨by simp [hl], .inr ⟨w.heap.size, _, _, by rw [List.length_append, h.hlen, hl], Nat.le_refl _, heap_alloc_new w.drew _, by rw [List.length_append, h.hlen, hl]; exact hge, hcm2, ?_, ?_⟩⟩, ⟨rfl, rfl, rfl, by simp, fun k hk => heap_alloc_old w.drew _ hk⟩⟩
    · simp only [Array.size_append, List.size_toArray, size_zeroCells, List.length_map, hl, h.hlen]
      have : (Value.string { data := #[] }).cells.size = 1 := rfl
      rw [this]
      omega
    · simp only [Array.toList_append, List.append_assoc, List.map_append, List.length_append, Nat.mul_one]
      rw [← List.append_assoc]
      exact List.take_left' (by simp)

end Go.Proofs.Ytnkknkijnpdapaa
