/- Put together by a program out of these texts of mine: HRef, VHd, VHq, VHp, JIt, VKs. -/
import Derived.Deep.QuietTactic
import Derived.BigQuiet
import Derived.Deep.RegionLaw
import Derived.Shelf.SlIter.Sorted
import Derived.Shelf.SortM.Plain
import Derived.Shelf.SortM.SortNone
import Derived.Test.YtmhbjkoabbmfpaaGreatProg
import Derived.Test.YtmhbjkoabbmfpaaGreatBunP1

namespace Go.Proofs.YtmhbjkoabbmfpaaGreat
open Go.RowKit
set_option linter.unusedVariables false
set_option linter.unusedSimpArgs false

theorem hdrewN {B : Nat} {a w : World} (h : Below B a w) (n : Nat) : Below B a (w.drewN n) := h.trans ⟨rfl, rfl, rfl, Nat.le_refl _, fun _ _ => rfl⟩

set_option maxHeartbeats 1000000 in
theorem rhsame_any {w : World} {a1 a2 : Option Addr} {l1 c1 l2 c2 : Nat} {xs ys : List ByteArray} (h1 : Hid (Sb w a1 l1 c1 xs)) (h2 : Hid (Sb w a2 l2 c2 ys)) :
    Calls Tryz.prog 12 #[.slice a1 l1 c1, .slice a2 l2 c2] w fun e w' => e = .returned (.bool (decide (xs = ys))) ∧ Below w.heap.size w w' := by
  obtain ⟨x1, x2, x3, x4, x6⟩ := h1.out
  obtain ⟨y1, y2, y3, y4, y6⟩ := h2.out
  have X1 : Hid (xs.length = l1) := x1
  have Y1 : Hid (ys.length = l2) := y1
  have X6 : Hid _ := x6
  have Y6 : Hid _ := y6
  clear x1 y1 x6 y6 h1 h2
  by_cases hl : l1 = l2
  · subst hl
    have hne : ((l1 : Int) != (l1 : Int)) = false := by simp
    go_enter Tryz.func12, Tryz.ntmps12
    go_wp2
    go_loopw [13] (fun v wr => ∃ k : Nat, v = .int .i64 (k : Int) ∧ k ≤ l1 ∧ Hid (∀ j, j < k → xs[j]? = ys[j]?) ∧ Below w.heap.size w wr) (fun v _ => l1 - (intOf v).toNat)
    case atStart => exact ⟨0, rfl, by omega, fun j hj => absurd hj (by omega), Below.refl _ _⟩
    case round =>
      obtain ⟨k, rfl, hk, HJ, hb⟩ := hrel
      by_cases hkl : k < l1
      · obtain ⟨b, off, rfl, hlt, hc⟩ := X6.out (by omega)
        obtain ⟨b', off', rfl, hlt', hc'⟩ := Y6.out (by omega)
        obtain ⟨x, hx⟩ : ∃ z, xs[k]? = some z := ⟨xs[k]'(by rw [X1.out]; exact hkl), List.getElem?_eq_getElem (by rw [X1.out]; exact hkl)⟩
        obtain ⟨y, hy⟩ : ∃ z, ys[k]? = some z := ⟨ys[k]'(by rw [Y1.out]; exact hkl), List.getElem?_eq_getElem (by rw [Y1.out]; exact hkl)⟩
        have hcx := (hb.cell hlt).trans (hc k x hx)
        have hcy := (hb.cell hlt').trans (hc' k y hy)
        have heq := text_eq x y
        by_cases e : x = y
        · rw [decide_eq_true e] at heq
          have hnq : (x.toList != y.toList) = false := by rw [bne, heq]; rfl
          have HJ2 : Hid (∀ j, j < k + 1 → xs[j]? = ys[j]?) := fun j hj => by
            by_cases q : j = k
            · rw [q, hx, hy, e]
            · exact HJ.out j (by omega)
          clear HJ hx hy hc hc' e hnq
          go_wp2
          go_quiet (fail)
          rename_i K _ hK
          refine hK _ _ ?_
          go_wp2
          go_roundw
          case rel => first | exact ⟨k + 1, by go_num, by omega, HJ2, hb.trans ((hdrewN (Below.refl _ _) _).mono hb.size)⟩ | ((repeat apply Exists.intro); exact ⟨⟨k + 1, by go_num, by omega, HJ2, hb.trans ((hdrewN (Below.refl _ _) _).mono hb.size)⟩, rfl⟩)
          case measure => simp [intOf]; omega
        · rw [decide_eq_false e] at heq
          have hnq : (x.toList != y.toList) = true := by rw [bne, heq]; rfl
          have E : Hid (decide (xs = ys) = false) := decide_eq_false fun h => by
            subst h
            rw [hx] at hy
            exact e (Option.some.inj hy)
          clear HJ hx hy hc hc' e hnq
          go_wp2
          go_quiet (fail)
          rename_i K _ hK
          refine hK _ _ ?_
          go_wp2
          go_ret
          exact ⟨by rw [E.out]; rfl, hb.trans ((hdrewN (Below.refl _ _) _).mono hb.size)⟩
      · obtain rfl : k = l1 := by omega
        have E : Hid (decide (xs = ys) = true) := decide_eq_true (by
          apply List.ext_getElem?
          intro j
          rcases Nat.lt_or_ge j k with h | h
          · exact HJ.out j h
          · rw [List.getElem?_eq_none (by rw [X1.out]; exact h), List.getElem?_eq_none (by rw [Y1.out]; exact h)])
        clear HJ
        go_wp2
        go_ret
        exact ⟨by rw [E.out]; rfl, hb⟩
  · have hne : ((l1 : Int) != (l2 : Int)) = true := by simp; omega
    have E : Hid (decide (xs = ys) = false) := decide_eq_false fun h => by
      subst h
      exact hl (X1.out.symm.trans Y1.out)
    go_enter Tryz.func12, Tryz.ntmps12
    go_wp2
    go_ret
    exact ⟨by rw [E.out]; rfl, Below.refl _ _⟩

theorem Sb.take {w : World} {a : Option Addr} {len cap : Nat} {zs : List ByteArray} (h : Sb w a len cap zs) (k : Nat) (hk : k ≤ len) : Sb w a k cap (zs.take k) := by
  refine ⟨by rw [List.length_take, h.hlen]; omega, by have := h.h63; omega, Nat.le_trans hk h.hcap, h.hnil, fun hp => ?_⟩
  obtain ⟨b, off, h1, hlt, hc⟩ := h.hmem (by omega)
  refine ⟨b, off, h1, hlt, fun i z hi => hc i z ?_⟩
  rw [List.getElem?_take] at hi
  split at hi
  · exact hi
  · cases hi

def Sq (w : World) (base : Nat) (v : Value) (zs : List ByteArray) : Prop :=
  (v = .slice none 0 0 ∧ zs = []) ∨ ∃ g o cap cur, v = .slice (some ⟨g, o, none⟩) zs.length cap ∧ base ≤ g ∧ w.heap[g]? = some (.cells cur 9 (0, 0)) ∧ zs.length ≤ cap ∧ o + cap ≤ cur.size ∧ cap ≤ maxLen ∧ (cur.toList.drop o).take zs.length = zs.map Value.string

theorem Sq.of_own {w : World} {base : Nat} {v : Value} {zs : List ByteArray} (h : Sw w base v zs) : Sq w base v zs := by
  rcases h.2 with ⟨he, hn⟩ | ⟨g, c, cur, he, hg, hh, h1, h2, h3, h4⟩
  · exact .inl ⟨he, List.eq_nil_of_length_eq_zero hn⟩
  · exact .inr ⟨g, 0, c, cur, he, hg, hh, h1, by omega, h2, by simpa using h4⟩

theorem run_append_room_at {P : Program} (w : World) (t ty e : TypeId) (i : TypeInfo) (ht : P.underlying t = some (.slice e)) (hi : P.info? e = some i)
    (g o sLen sCap : Nat) (cur : Array Value) (hg : w.heap[g]? = some (.cells cur e (0, 0)))
    (a : Addr) (m c : Nat) (news : List Value) (hl : news.length = m * i.size) (hnews : ∀ j u, news[j]? = some u → w.cell? (a.add j) = some u) (h1 : ∀ u ∈ news, u.oneCell' = true)
    (hroom : sLen + m ≤ sCap) (hfit : o + sLen * i.size + news.length ≤ cur.size) :
    (Builtin.append_ #[t, t] ty #[.slice (some ⟨g, o, none⟩) sLen sCap, .slice (some a) m c]).run P w =
      .ok (.slice (some ⟨g, o, none⟩) (sLen + m) sCap) (w.setRow g (cur.toList.take (o + sLen * i.size) ++ news ++ cur.toList.drop (o + sLen * i.size + news.length)).toArray) := by
  have hf := run_firstCells_some (P := P) w i.size m a m c news hl hnews
  have hst := run_storeCells_at P g (o + sLen * i.size) e news 0 cur w hg (by simpa using hfit) h1
  simp only [Nat.add_zero] at hst
  have hadd : (⟨g, o, none⟩ : Addr).add (sLen * i.size) = ⟨g, o + sLen * i.size, none⟩ := by unfold Addr.add; split <;> simp_all
  simp [Builtin.append_, run_underlying ht, sizeOf, typeInfo, hi, Builtin.lenOf, hroom, hf, hadd, hst]

theorem run_append_sq {w : World} {base : Nat} {v : Value} {zs : List ByteArray} (h : Sq w base v zs) (ty : TypeId) (ad : Addr) (m c : Nat) (news : List ByteArray) (hl : news.length = m) (hnews : ∀ (j : Nat) (z : ByteArray), news[j]? = some z → w.cell? (ad.add j) = some (.string z)) (hn : zs.length + m ≤ 4000000) (hbase : base ≤ w.heap.size) :
    ∃ v' w', (Builtin.append_ #[30, 30] ty #[v, .slice (some ad) m c]).run Tryz.prog w = .ok v' w' ∧ Sq w' base v' (zs ++ news) ∧ w.grownBy w' v.ownBlock ∧ (v'.ownBlock = v.ownBlock ∨ v'.ownBlock = some w.heap.size) := by
  obtain ⟨i0, hi, hz0, hz1, hz2⟩ := info_parts Tryz.infoStr2
  have hnw : ∀ (j : Nat) (u : Value), (news.map Value.string)[j]? = some u → w.cell? (ad.add j) = some u := by
    intro j u hj
    rw [List.getElem?_map] at hj
    cases hq : news[j]? with
    | none => rw [hq] at hj; cases hj
    | some z =>
      rw [hq] at hj
      cases hj
      exact hnews j z hq
  have h1 : ∀ u ∈ news.map Value.string, u.oneCell' = true := by
    intro u hu
    obtain ⟨z, _, rfl⟩ := List.mem_map.1 hu
    rfl
  rcases h with ⟨rfl, rfl⟩ | ⟨g, o, cap, cur, rfl, hb, hg, hc, hoc, hcm, htk⟩
  · obtain ⟨v', w', hr, h2, h3, _, h4⟩ := run_append_own_at (P := Tryz.prog) w base 30 ty 9 i0 _ 1 16 Tryz.underlying30 hi hz0 hz1 hz2 rfl (by decide) (.slice none 0 0) 0 [] (World.ownsRow_nil _ _ _ _) ad m c (news.map Value.string) (by simp [hl]) hnw h1 (by unfold maxLen; omega) (by omega) hbase
    refine ⟨v', w', hr, Sq.of_own (zs := news) ?_, h3, h4⟩
    unfold Sw
    rw [hl]
    simpa using h2
  · by_cases hroom : zs.length + m ≤ cap
    · have hr := run_append_room_at (P := Tryz.prog) w 30 ty 9 i0 Tryz.underlying30 hi g o zs.length cap cur hg ad m c (news.map Value.string) (by rw [hz1]; simp [hl]) hnw h1 hroom (by rw [hz1]; simp [hl]; omega)
      rw [hz1] at hr
      refine ⟨_, _, hr, .inr ⟨g, o, cap, _, by rw [List.length_append, hl], hb, setRow_heap w g cur _ _ _ hg, by rw [List.length_append, hl]; exact hroom, ?_, hcm, ?_⟩, ⟨rfl, rfl, rfl, by simp, fun k _ hk => setRow_other w g k _ (fun e => hk (by simp [Value.ownBlock, e]))⟩, Or.inl rfl⟩
      · simp only [List.size_toArray, List.length_append, List.length_take, List.length_drop, Array.length_toList, List.length_map]
        omega
      · simp only [List.toList_toArray, Nat.mul_one, List.length_map, List.length_append, List.map_append]
        have hlen : (cur.toList.take (o + zs.length)).length = o + zs.length := by simp; omega
        rw [List.append_assoc, List.drop_append_of_le_length (by omega), List.drop_take, show o + zs.length - o = zs.length by omega, htk, ← List.append_assoc]
        exact List.take_left' (by simp)
    · have holds : ∀ (j : Nat) (u : Value), (zs.map Value.string)[j]? = some u → w.cell? ((⟨g, o, none⟩ : Addr).add j) = some u := by
        intro j u hj
        have hp : (⟨g, o, none⟩ : Addr).add j = ⟨g, o + j, none⟩ := by unfold Addr.add; split <;> simp_all
        rw [hp, ← htk, List.getElem?_take] at *
        split at hj
        · rw [List.getElem?_drop] at hj
          simp only [World.cell?, hg]
          simpa using hj
        · cases hj
      have hr := run_append_grow (P := Tryz.prog) w 30 ty 9 i0 _ Tryz.underlying30 hi hz0 ⟨g, o, none⟩ zs.length cap (zs.map Value.string) (by rw [hz1]; simp) holds ad m c (news.map Value.string) (by rw [hz1]; simp [hl]) hnw (by omega) (by omega) (growslice_fits (by omega) (by rw [hz2]; omega))
      have hge := grownCap_ge w (zs.length + m) cap 9
      have hcm2 : grownCap w (zs.length + m) cap 9 ≤ maxLen := grownCap_le_maxLen w (zs.length + m) cap 9 (by unfold maxLen; omega)
      refine ⟨_, _, hr, .inr ⟨w.heap.size, 0, _, _, by rw [List.length_append, hl], hbase, heap_alloc_new w.drew _, by rw [List.length_append, hl]; exact hge, ?_, hcm2, ?_⟩, ⟨rfl, rfl, rfl, by simp, fun k hk _ => heap_alloc_old w.drew _ hk⟩, Or.inr rfl⟩
      · simp only [Array.size_append, List.size_toArray, size_zeroCells, List.length_map, hl]
        have : (Value.string { data := #[] }).cells.size = 1 := rfl
        rw [this]
        omega
      · simp only [Array.toList_append, List.drop_zero, List.append_assoc, List.map_append, List.length_append]
        rw [← List.append_assoc]
        exact List.take_left' (by simp)

theorem Sb.news {w : World} {ad : Addr} {m c : Nat} {news : List ByteArray} (h : Sb w (some ad) m c news) : ∀ (j : Nat) (z : ByteArray), news[j]? = some z → w.cell? (ad.add j) = some (.string z) := by
  intro j z hj
  have hjl : j < m := by rw [← h.hlen]; exact (List.getElem?_eq_some_iff.1 hj).1
  obtain ⟨b, off, e, _, hc⟩ := h.hmem (by omega)
  simp at e
  subst e
  have hp : (⟨b, off, none⟩ : Addr).add j = ⟨b, off + j, none⟩ := by unfold Addr.add; split <;> simp_all
  rw [hp]
  exact hc j z hj

theorem run_append_sqs {w : World} {base : Nat} {v : Value} {zs : List ByteArray} (h : Sq w base v zs) (ty : TypeId) {a : Option Addr} {m c : Nat} {news : List ByteArray} (hs : Sb w a m c news) (hn : zs.length + m ≤ 4000000) (hbase : base ≤ w.heap.size) :
    ∃ v' w', (Builtin.append_ #[30, 30] ty #[v, .slice a m c]).run Tryz.prog w = .ok v' w' ∧ Sq w' base v' (zs ++ news) ∧ w.grownBy w' v.ownBlock ∧ (v'.ownBlock = v.ownBlock ∨ v'.ownBlock = some w.heap.size) := by
  cases a with
  | some ad => exact run_append_sq h ty ad m c news hs.hlen hs.news hn hbase
  | none =>
    have hc := hs.hnil rfl
    have hcap := hs.hcap
    have hl : m = 0 := by omega
    subst hc hl
    have hz : news = [] := List.eq_nil_of_length_eq_zero hs.hlen
    subst hz
    obtain ⟨i0, hi, hz0, hz1, hz2⟩ := info_parts Tryz.infoStr2
    refine ⟨v, w, ?_, by simpa using h, ⟨rfl, rfl, rfl, Nat.le_refl _, fun _ _ _ => rfl⟩, .inl rfl⟩
    rcases h with ⟨rfl, rfl⟩ | ⟨g, o, cap, cur, rfl, hb, hg, hc, hoc, hcm, htk⟩
    · simp [Builtin.append_, run_underlying Tryz.underlying30, sizeOf, typeInfo, hi, Builtin.lenOf, Builtin.firstCells, loadCells, loadCellsFrom]
    · simp [Builtin.append_, run_underlying Tryz.underlying30, sizeOf, typeInfo, hi, Builtin.lenOf, Builtin.firstCells, loadCells, loadCellsFrom, storeCells, hc]

theorem run_append_full {w : World} {a : Option Addr} {n : Nat} {zs : List ByteArray} (h : Sb w a n n zs) (ty : TypeId) (ad : Addr) (m c : Nat) (news : List ByteArray) (hl : news.length = m) (hm : 0 < m) (hnews : ∀ (j : Nat) (z : ByteArray), news[j]? = some z → w.cell? (ad.add j) = some (.string z)) (hn : n + m ≤ 4000000) :
    ∃ v' w', (Builtin.append_ #[30, 30] ty #[.slice a n n, .slice (some ad) m c]).run Tryz.prog w = .ok v' w' ∧ Sw w' w.heap.size v' (zs ++ news) ∧ Below w.heap.size w w' := by
  obtain ⟨i0, hi, hz0, hz1, hz2⟩ := info_parts Tryz.infoStr2
  have hnw : ∀ (j : Nat) (u : Value), (news.map Value.string)[j]? = some u → w.cell? (ad.add j) = some u := by
    intro j u hj
    rw [List.getElem?_map] at hj
    cases hq : news[j]? with
    | none => rw [hq] at hj; cases hj
    | some z =>
      rw [hq] at hj
      cases hj
      exact hnews j z hq
  have h1 : ∀ u ∈ news.map Value.string, u.oneCell' = true := by
    intro u hu
    obtain ⟨z, _, rfl⟩ := List.mem_map.1 hu
    rfl
  cases a with
  | none =>
    have hz0' := h.hnil rfl
    subst hz0'
    have hz : zs = [] := List.eq_nil_of_length_eq_zero h.hlen
    subst hz
    obtain ⟨v', w', hr, h2, h3, _, h4⟩ := run_append_own_at (P := Tryz.prog) w w.heap.size 30 ty 9 i0 _ 1 16 Tryz.underlying30 hi hz0 hz1 hz2 rfl (by decide) (.slice none 0 0) 0 [] (World.ownsRow_nil _ _ _ _) ad m c (news.map Value.string) (by simp [hl]) hnw h1 (by unfold maxLen; omega) (by omega) (Nat.le_refl _)
    refine ⟨v', w', hr, ?_, (Below.refl _ _).grown h3 (Nat.le_refl _) (fun k hk => by cases hk)⟩
    unfold Sw
    simp only [List.nil_append]
    rw [hl]
    simpa using h2
  | some x =>
    have holds : ∀ (j : Nat) (u : Value), (zs.map Value.string)[j]? = some u → w.cell? (x.add j) = some u := by
      intro j u hj
      rw [List.getElem?_map] at hj
      cases hq : zs[j]? with
      | none => rw [hq] at hj; cases hj
      | some z =>
        rw [hq] at hj
        cases hj
        exact h.news j z hq
    have hr := run_append_grow (P := Tryz.prog) w 30 ty 9 i0 _ Tryz.underlying30 hi hz0 x n n (zs.map Value.string) (by rw [hz1]; simp [h.hlen]) holds ad m c (news.map Value.string) (by rw [hz1]; simp [hl]) hnw (by omega) (by omega) (growslice_fits (by omega) (by rw [hz2]; omega))
    have hge := grownCap_ge w (n + m) n 9
    have hcm2 : grownCap w (n + m) n 9 ≤ maxLen := grownCap_le_maxLen w (n + m) n 9 (by unfold maxLen; omega)
    refine ⟨_, _, hr, ⟨by simp [hl], .inr ⟨w.heap.size, _, _, by rw [List.length_append, h.hlen, hl], Nat.le_refl _, heap_alloc_new w.drew _, by rw [List.length_append, h.hlen, hl]; exact hge, hcm2, ?_, ?_⟩⟩, ⟨rfl, rfl, rfl, by simp, fun k hk => heap_alloc_old w.drew _ hk⟩⟩
    · simp only [Array.size_append, List.size_toArray, size_zeroCells, List.length_map, hl, h.hlen]
      have : (Value.string { data := #[] }).cells.size = 1 := rfl
      rw [this]
      omega
    · simp only [Array.toList_append, List.append_assoc, List.map_append, List.length_append, Nat.mul_one]
      rw [← List.append_assoc]
      exact List.take_left' (by simp)

theorem Sb.nil (w : World) : Sb w none 0 0 [] := ⟨rfl, by omega, Nat.le_refl _, fun _ => rfl, fun h => absurd h (by omega)⟩

theorem Sb.void (w : World) (x : Addr) (c : Nat) : Sb w (some x) 0 c [] := ⟨rfl, by omega, Nat.zero_le _, (fun e => by cases e), fun h => absurd h (by omega)⟩

theorem Sb.exact {w : World} {a : Option Addr} {len cap : Nat} {zs : List ByteArray} (h : Sb w a len cap zs) : Sb w a len len zs :=
  ⟨h.hlen, h.h63, Nat.le_refl _, fun e => by have := h.hnil e; have := h.hcap; omega, h.hmem⟩

theorem Sb.drop {w : World} {b off : Nat} {len cap : Nat} {zs : List ByteArray} (h : Sb w (some ⟨b, off, none⟩) len cap zs) (k : Nat) (hk : k < len) : Sb w (some ⟨b, off + k, none⟩) (len - k) (cap - k) (zs.drop k) := by
  refine ⟨by rw [List.length_drop, h.hlen], by have := h.h63; omega, by have := h.hcap; omega, (fun e => by cases e), fun hp => ?_⟩
  obtain ⟨b', off', e, hlt, hc⟩ := h.hmem (by omega)
  simp only [Option.some.injEq, Addr.mk.injEq, and_true] at e
  obtain ⟨rfl, rfl⟩ := e
  refine ⟨b, off + k, rfl, hlt, fun i z hi => ?_⟩
  rw [List.getElem?_drop] at hi
  rw [Nat.add_assoc]
  exact hc (k + i) z hi

theorem hput_at (s : ByteArray) : ∀ (zs : List ByteArray) (i : Nat), i ≤ zs.length → (∀ (j : Nat) (z : ByteArray), j < i → zs[j]? = some z → slt z s = true) → (∀ z, zs[i]? = some z → slt z s = false) →
    hput zs s = if zs[i]? = some s then zs else zs.take i ++ s :: zs.drop i
  | [], i, hi, _, _ => by
    have : i = 0 := by simpa using hi
    subst this
    simp [hput]
  | x :: r, 0, _, _, h => by
    have hx := h x rfl
    rw [hput, if_neg (by simp [hx])]
    simp
  | x :: r, i + 1, hi, hj, h => by
    have hx := hj 0 x (by omega) rfl
    rw [hput, if_pos hx, hput_at s r i (by simpa using hi) (fun j z hjj hz => hj (j + 1) z (by omega) (by simpa using hz)) (fun z hz => h z (by simpa using hz))]
    simp only [List.getElem?_cons_succ, List.take_succ_cons, List.drop_succ_cons]
    split <;> simp

theorem step_append_run {w : World} {ops : Array Oper} {o : Oper} {f : Act} {K : Act → World → Prop} {Q : Exit → Act → World → Prop} {E : Prop} (s x : Operand) (hgd : o.guard = none)
    (ho : o.op = .call { callee := .builtin .append, args := #[s, x], argTypes := #[30, 30] }) {vs vx v' : Value} {w' : World} (hs : f.eval s = vs) (hx : f.eval x = vx) (hrun : (Builtin.append_ #[30, 30] o.type #[vs, vx]).run Tryz.prog w = .ok v' w') (h : K (f.put o.dst v') w') :
    if Region.wanted o (yielded ops f.tmps) = true then Oper.wp Tryz.prog o f w K Q else E := by
  have hw : Region.wanted o (yielded ops f.tmps) = true := by simp [Region.wanted, hgd]
  rw [if_pos hw]
  unfold Oper.wp
  simp [execOp, ho, resolve, invoke, builtin, hs, hx, hrun, Result.andThen]
  exact h

theorem put_between {w : World} {a a2 : Option Addr} {i m c : Nat} {l r : List ByteArray} {s : ByteArray} (h1 : Sb w a i i l) (h2 : Sb w a2 m c r) (hn : i + m ≤ 2500000) (ty ty2 : TypeId) :
    ∃ va n vc w1 v2 w2, (Builtin.append_ #[30, 30] ty #[.slice (some ⟨w.heap.size, 0, none⟩) 1 1, .slice a2 m c]).run Tryz.prog (w.drew.alloc (.cells #[.string s] 9)) = .ok (.slice va n vc) w1 ∧ (Builtin.append_ #[30, 30] ty2 #[.slice a i i, .slice va n vc]).run Tryz.prog w1 = .ok v2 w2 ∧ Sw w2 w.heap.size v2 (l ++ s :: r) ∧ Below w.heap.size w w2 := by
  have hA : Below w.heap.size w (w.drew.alloc (.cells #[.string s] 9)) := ((Below.refl _ _).drew).alloc (Nat.le_refl _) _
  have hown : Sw (w.drew.alloc (.cells #[.string s] 9)) w.heap.size (.slice (some ⟨w.heap.size, 0, none⟩) 1 1) [s] := ⟨rfl, .inr ⟨w.heap.size, 1, #[.string s], rfl, Nat.le_refl _, heap_alloc_new w.drew _, Nat.le_refl _, by unfold maxLen; omega, rfl, rfl⟩⟩
  obtain ⟨v1, w1, hr1, hq1, hg1, hat1⟩ := run_append_sqs (Sq.of_own hown) ty (h2.below hA) (by simp; omega) (by simp)
  have hb1 : Below w.heap.size w w1 := hA.grown hg1 (by simp) (fun k hk => by simp only [Value.ownBlock, Option.some.injEq] at hk; omega)
  rcases hq1 with ⟨_, h⟩ | ⟨g, o, cap, cur, rfl, hb, hg, hc, hoc, hcm, htk⟩
  · cases h
  · have hlen : ([s] ++ r).length = m + 1 := by simp [h2.hlen]
    obtain ⟨v2, w2, hr2, hs2, hb2⟩ := run_append_full (h1.below hb1) ty2 ⟨g, o, none⟩ (m + 1) cap ([s] ++ r) hlen (by omega) (fun j z hj => by
      have hp : (⟨g, o, none⟩ : Addr).add j = ⟨g, o + j, none⟩ := by unfold Addr.add; split <;> simp_all
      rw [hp]
      have hj2 : (([s] ++ r).map Value.string)[j]? = some (.string z) := by rw [List.getElem?_map, hj]; rfl
      rw [← htk, List.getElem?_take] at hj2
      split at hj2
      · rw [List.getElem?_drop] at hj2
        simp only [World.cell?, hg]
        simpa using hj2
      · cases hj2) (by omega)
    rw [hlen] at hr1
    exact ⟨_, _, _, w1, v2, w2, hr1, hr2, by have := Sw.base hs2 hb1.size; simpa using this, hb1.trans (hb2.mono hb1.size)⟩

set_option maxRecDepth 10000 in
set_option maxHeartbeats 4000000 in
theorem rhput_any {w : World} {a : Option Addr} {len cap : Nat} {zs : List ByteArray} (s : ByteArray) (hS : Hid (Sb w a len cap zs)) (hn : len ≤ 1100000) (ha : ∀ ad, a = some ad → ∃ b off, ad = ⟨b, off, none⟩) :
    Calls Tryz.prog 40 #[.slice a len cap, .string s] w fun e w' => ∃ v', e = .returned v' ∧ ((v' = .slice a len cap ∧ hput zs s = zs) ∨ Sw w' w.heap.size v' (hput zs s)) ∧ Below w.heap.size w w' := by
  obtain ⟨h1, h2, h3, h4, h6⟩ := hS.out
  have H1 : Hid (zs.length = len) := h1
  have H6 : Hid _ := h6
  clear h1 h6
  go_enter Tryz.func40, Tryz.ntmps40
  go_wp2
  go_loopw [5] (fun v wr => ∃ i : Nat, v = .int .i64 (i : Int) ∧ i ≤ len ∧ Hid (∀ (j : Nat) (z : ByteArray), j < i → zs[j]? = some z → slt z s = true) ∧ w = wr) (fun v _ => len - (intOf v).toNat)
  case atStart => exact ⟨0, rfl, by omega, fun j z hj => absurd hj (by omega), rfl⟩
  case round =>
    obtain ⟨i, rfl, hi, HJ, rfl⟩ := hrel
    by_cases hil : i < len
    · obtain ⟨b, off, rfl, hlt, hc⟩ := H6.out (by omega)
      obtain ⟨z, hz⟩ : ∃ z, zs[i]? = some z := ⟨zs[i]'(by rw [H1.out]; exact hil), List.getElem?_eq_getElem (by rw [H1.out]; exact hil)⟩
      have hcell := hc i z hz
      have hil2 : ((i : Int) < (len : Int)) := by omega
      by_cases hlt3 : slt z s = true
      · have hlt4 : Op.bytesLess z.toList s.toList = true := hlt3
        have HJ2 : Hid (∀ (j : Nat) (z : ByteArray), j < i + 1 → zs[j]? = some z → slt z s = true) := fun j z' hj hz' => by
          by_cases q : j = i
          · subst q
            rw [hz] at hz'
            cases hz'
            exact hlt3
          · exact HJ.out j z' (by omega) hz'
        clear HJ hz hc hlt3
        go_wp2
        go_roundw
        case rel => first | exact ⟨i + 1, by go_num, by omega, HJ2, by first | rfl | trivial⟩ | ((repeat apply Exists.intro); exact ⟨⟨i + 1, by go_num, by omega, HJ2, by first | rfl | trivial⟩, rfl⟩)
        case measure => simp [intOf]; omega
      · have hlt4 : Op.bytesLess z.toList s.toList = false := by simpa [slt] using hlt3
        have heq := text_eq z s
        have hput := hput_at s zs i (by rw [H1.out]; exact hi) HJ.out (fun z' hz' => by rw [hz] at hz'; cases hz'; exact hlt4)
        by_cases e : z = s
        · rw [decide_eq_true e] at heq
          rw [if_pos (by rw [hz, e])] at hput
          have HP : Hid _ := hput
          clear HJ hz hc hlt3 e hput
          go_wp2
          go_ret
          exact ⟨_, rfl, .inl ⟨rfl, HP.out⟩, Below.refl _ _⟩
        · rw [decide_eq_false e] at heq
          rw [if_neg (by rw [hz]; simpa using e)] at hput
          have HP : Hid _ := hput
          have hnc : ¬ cap = i := by omega
          have hic : i ≤ cap := by omega
          obtain ⟨va, n', vc, w1, v2, w2, hr1, hr2, hs2, hb2⟩ := put_between (s := s) ((hS.out.take i hi).exact) (hS.out.drop i hil) (by omega) 30 30
          have HR1 : Hid _ := hr1
          have HR2 : Hid _ := hr2
          have HS : Hid _ := hs2
          have HB2 : Hid _ := hb2
          clear hr1 hr2 hs2 hb2
          clear HJ hz hc hlt3 e hput
          go_wp2
          go_region_law (first
            | (refine step_append_run (.tmp 38) (.tmp 41) (by rfl) (by rfl) (by rfl) (by rfl) HR1.out ?_)
            | (refine step_append_run (.tmp 36) (.tmp 42) (by rfl) (by rfl) (by rfl) (by rfl) HR2.out ?_))
          all_goals
            go_wp2
            go_ret
            exact ⟨_, rfl, .inr (by rw [HP.out]; exact HS.out), HB2.out⟩
    · obtain rfl : i = len := by omega
      have hput := hput_at s zs i (by rw [H1.out]; exact Nat.le_refl _) HJ.out (fun z' hz' => by rw [List.getElem?_eq_none (by rw [H1.out]; exact Nat.le_refl _)] at hz'; cases hz')
      rw [if_neg (by rw [List.getElem?_eq_none (by rw [H1.out]; exact Nat.le_refl _)]; simp)] at hput
      rw [List.take_of_length_le (by rw [H1.out]; exact Nat.le_refl _), List.drop_eq_nil_of_le (by rw [H1.out]; exact Nat.le_refl _)] at hput
      have HP : Hid _ := hput
      have hni : ¬ ((i : Int) < (i : Int)) := by omega
      have hic : i ≤ cap := by omega
      clear HJ hput hil
      cases a with
      | none =>
        have hc0 := h4 rfl
        subst hc0
        have hi0 : i = 0 := by omega
        subst hi0
        obtain ⟨va, n', vc, w1, v2, w2, hr1, hr2, hs2, hb2⟩ := put_between (s := s) (hS.out.exact) (Sb.nil w) (by omega) 30 30
        have HR1 : Hid _ := hr1
        have HR2 : Hid _ := hr2
        have HS : Hid _ := hs2
        have HB2 : Hid _ := hb2
        clear hr1 hr2 hs2 hb2
        go_wp2
        go_region_law (first
          | (refine step_append_run (.tmp 38) (.tmp 41) (by rfl) (by rfl) (by rfl) (by rfl) HR1.out ?_)
          | (refine step_append_run (.tmp 36) (.tmp 42) (by rfl) (by rfl) (by rfl) (by rfl) HR2.out ?_))
        all_goals
          go_wp2
          go_ret
          exact ⟨_, rfl, .inr (by rw [HP.out]; exact HS.out), HB2.out⟩
      | some ad =>
        obtain ⟨ab, ao, rfl⟩ := ha ad rfl
        by_cases hcl : cap = i
        · subst hcl
          obtain ⟨va, n', vc, w1, v2, w2, hr1, hr2, hs2, hb2⟩ := put_between (s := s) (hS.out.exact) (Sb.void w ⟨ab, ao, none⟩ 0) (by omega) 30 30
          have HR1 : Hid _ := hr1
          have HR2 : Hid _ := hr2
          have HS : Hid _ := hs2
          have HB2 : Hid _ := hb2
          clear hr1 hr2 hs2 hb2
          go_wp2
          go_region_law (first
            | (refine step_append_run (.tmp 38) (.tmp 41) (by rfl) (by rfl) (by rfl) (by rfl) HR1.out ?_)
            | (refine step_append_run (.tmp 36) (.tmp 42) (by rfl) (by rfl) (by rfl) (by rfl) HR2.out ?_))
          all_goals
            go_wp2
            go_ret
            exact ⟨_, rfl, .inr (by rw [HP.out]; exact HS.out), HB2.out⟩
        · 
          obtain ⟨va, n', vc, w1, v2, w2, hr1, hr2, hs2, hb2⟩ := put_between (s := s) (hS.out.exact) (Sb.void w ⟨ab, ao + i, none⟩ (cap - i)) (by omega) 30 30
          have HR1 : Hid _ := hr1
          have HR2 : Hid _ := hr2
          have HS : Hid _ := hs2
          have HB2 : Hid _ := hb2
          clear hr1 hr2 hs2 hb2
          go_wp2
          go_region_law (first
            | (refine step_append_run (.tmp 38) (.tmp 41) (by rfl) (by rfl) (by rfl) (by rfl) HR1.out ?_)
            | (refine step_append_run (.tmp 36) (.tmp 42) (by rfl) (by rfl) (by rfl) (by rfl) HR2.out ?_))
          all_goals
            go_wp2
            go_ret
            exact ⟨_, rfl, .inr (by rw [HP.out]; exact HS.out), HB2.out⟩

end Go.Proofs.YtmhbjkoabbmfpaaGreat

namespace Go.Proofs.YtmhbjkoabbmfpaaGreat
open Go.Shelf

def It.keys_ren : Go.Shelf.Ren := ⟨fun | 7 => 38 | 10 => 77 | n => n, fun | 23 => 88 | 26 => 9 | 3 => 93 | 28 => 86 | 0 => 0 | 27 => 85 | 33 => 71 | 4 => 4 | n => n, fun | n => n⟩
theorem It.keys : Go.Proofs.SlLaysZ.n7 Tryz.prog It.keys_ren := {
  mixed := by kernel_rfl
  f7 := ⟨Tryz.f38.name, by decide, Tryz.func38.trans (congrArg some (by kernel_rfl))⟩
  f10 := ⟨Tryz.f77.name, by decide, Tryz.func77.trans (congrArg some (by kernel_rfl))⟩
  t0 := Tryz.underlying0
  a0 := Tryz.isAgg0
  z0 := Tryz.sizeOf0
  v0 := Tryz.zeroValue0
  t4 := Tryz.underlying4
  a4 := Tryz.isAgg4
  z4 := Tryz.sizeOf4
  v4 := Tryz.zeroValue4
  t23 := Tryz.underlying88
  a23 := Tryz.isAgg88
  z23 := Tryz.sizeOf88
  v23 := Tryz.zeroValue88
  t26 := Tryz.underlying9
  a26 := Tryz.isAgg9
  z26 := Tryz.sizeOf9
  v26 := Tryz.zeroValue9
  t27 := Tryz.underlying85
  a27 := Tryz.isAgg85
  z27 := Tryz.sizeOf85
  v27 := Tryz.zeroValue85
  t28 := Tryz.underlying86
  a28 := Tryz.isAgg86
  z28 := Tryz.sizeOf86
  v28 := Tryz.zeroValue86
  t33 := Tryz.underlying71
  a33 := Tryz.isAgg71
  z33 := Tryz.sizeOf71
  v33 := Tryz.zeroValue71 }
def It.sorted_ren : Go.Shelf.Ren := ⟨fun | 6 => 37 | 8 => 75 | 9 => 76 | 11 => 128 | 13 => 130 | 12 => 129 | 23 => 164 | 24 => 165 | 14 => 155 | 15 => 156 | 16 => 157 | 17 => 158 | 18 => 159 | 19 => 160 | 20 => 161 | 21 => 162 | 22 => 163 | 25 => 185 | 26 => 186 | 27 => 187 | 28 => 188 | 29 => 189 | 30 => 184 | 31 => 195 | n => n, fun | 26 => 9 | 28 => 86 | 24 => 30 | 0 => 0 | 3 => 3 | 37 => 184 | 48 => 197 | 50 => 188 | 4 => 4 | 40 => 216 | 39 => 215 | 45 => 220 | 5 => 5 | 9 => 9 | 51 => 234 | 55 => 238 | 57 => 242 | 58 => 243 | 33 => 71 | n => n, fun | n => n⟩
theorem It.sorted : Go.Proofs.SlLaysZ.n6 Tryz.prog It.sorted_ren := {
  mixed := by kernel_rfl
  f6 := ⟨Tryz.f37.name, by decide, Tryz.func37.trans (congrArg some (by kernel_rfl))⟩
  f8 := ⟨Tryz.f75.name, by decide, Tryz.func75.trans (congrArg some (by kernel_rfl))⟩
  f11 := ⟨Tryz.f128.name, by decide, Tryz.func128.trans (congrArg some (by kernel_rfl))⟩
  t0 := Tryz.underlying0
  a0 := Tryz.isAgg0
  z0 := Tryz.sizeOf0
  v0 := Tryz.zeroValue0
  t24 := Tryz.underlying30
  a24 := Tryz.isAgg30
  z24 := Tryz.sizeOf30
  v24 := Tryz.zeroValue30
  t26 := Tryz.underlying9
  a26 := Tryz.isAgg9
  z26 := Tryz.sizeOf9
  v26 := Tryz.zeroValue9
  t28 := Tryz.underlying86
  a28 := Tryz.isAgg86
  z28 := Tryz.sizeOf86
  v28 := Tryz.zeroValue86
  i26 := by kernel_rfl }
def It.sort_ren : Go.Shelf.Ren := ⟨fun | 6 => 76 | 8 => 130 | 9 => 129 | 19 => 164 | 20 => 165 | 21 => 155 | 22 => 156 | 23 => 157 | 24 => 158 | 25 => 159 | 26 => 160 | 27 => 161 | 28 => 162 | 29 => 163 | 36 => 185 | 31 => 186 | 32 => 187 | 37 => 188 | 38 => 189 | 39 => 184 | 41 => 195 | n => n, fun | 27 => 30 | 29 => 9 | 3 => 3 | 32 => 184 | 26 => 30 | 0 => 0 | 44 => 197 | 46 => 188 | 4 => 4 | 36 => 216 | 35 => 215 | 41 => 220 | 5 => 5 | 9 => 9 | 53 => 234 | 57 => 238 | 63 => 242 | 64 => 243 | n => n, fun | n => n⟩
theorem It.sort : Go.Proofs.SlLaysM.n6 Tryz.prog It.sort_ren := {
  mixed := by kernel_rfl
  f6 := ⟨Tryz.f76.name, by decide, Tryz.func76.trans (congrArg some (by kernel_rfl))⟩
  f8 := Tryz.func130.trans (congrArg some (by kernel_rfl))
  f9 := ⟨Tryz.f129.name, by decide, Tryz.func129.trans (congrArg some (by kernel_rfl))⟩
  f19 := Tryz.func164.trans (congrArg some (by kernel_rfl))
  f20 := Tryz.func165.trans (congrArg some (by kernel_rfl))
  f21 := ⟨Tryz.f155.name, by decide, Tryz.func155.trans (congrArg some (by kernel_rfl))⟩
  f22 := ⟨Tryz.f156.name, by decide, Tryz.func156.trans (congrArg some (by kernel_rfl))⟩
  f23 := ⟨Tryz.f157.name, by decide, Tryz.func157.trans (congrArg some (by kernel_rfl))⟩
  f24 := ⟨Tryz.f158.name, by decide, Tryz.func158.trans (congrArg some (by kernel_rfl))⟩
  f25 := ⟨Tryz.f159.name, by decide, Tryz.func159.trans (congrArg some (by kernel_rfl))⟩
  f26 := ⟨Tryz.f160.name, by decide, Tryz.func160.trans (congrArg some (by kernel_rfl))⟩
  f27 := ⟨Tryz.f161.name, by decide, Tryz.func161.trans (congrArg some (by kernel_rfl))⟩
  f28 := ⟨Tryz.f162.name, by decide, Tryz.func162.trans (congrArg some (by kernel_rfl))⟩
  f29 := ⟨Tryz.f163.name, by decide, Tryz.func163.trans (congrArg some (by kernel_rfl))⟩
  f31 := Tryz.func186.trans (congrArg some (by kernel_rfl))
  f32 := Tryz.func187.trans (congrArg some (by kernel_rfl))
  f36 := ⟨Tryz.f185.name, by decide, Tryz.func185.trans (congrArg some (by kernel_rfl))⟩
  f37 := ⟨Tryz.f188.name, by decide, Tryz.func188.trans (congrArg some (by kernel_rfl))⟩
  f38 := ⟨Tryz.f189.name, by decide, Tryz.func189.trans (congrArg some (by kernel_rfl))⟩
  f39 := ⟨Tryz.f184.name, by decide, Tryz.func184.trans (congrArg some (by kernel_rfl))⟩
  f41 := ⟨Tryz.f195.name, by decide, Tryz.func195.trans (congrArg some (by kernel_rfl))⟩
  t0 := Tryz.underlying0
  a0 := Tryz.isAgg0
  z0 := Tryz.sizeOf0
  v0 := Tryz.zeroValue0
  t3 := Tryz.underlying3
  a3 := Tryz.isAgg3
  z3 := Tryz.sizeOf3
  v3 := Tryz.zeroValue3
  t4 := Tryz.underlying4
  a4 := Tryz.isAgg4
  z4 := Tryz.sizeOf4
  v4 := Tryz.zeroValue4
  t5 := Tryz.underlying5
  a5 := Tryz.isAgg5
  z5 := Tryz.sizeOf5
  v5 := Tryz.zeroValue5
  t9 := Tryz.underlying9
  a9 := Tryz.isAgg9
  z9 := Tryz.sizeOf9
  v9 := Tryz.zeroValue9
  t26 := Tryz.underlying30
  a26 := Tryz.isAgg30
  z26 := Tryz.sizeOf30
  v26 := Tryz.zeroValue30
  t27 := Tryz.underlying30
  a27 := Tryz.isAgg30
  z27 := Tryz.sizeOf30
  v27 := Tryz.zeroValue30
  t29 := Tryz.underlying9
  a29 := Tryz.isAgg9
  z29 := Tryz.sizeOf9
  v29 := Tryz.zeroValue9
  t32 := Tryz.underlying184
  a32 := Tryz.isAgg184
  z32 := Tryz.sizeOf184
  v32 := Tryz.zeroValue184
  t35 := Tryz.underlying215
  a35 := Tryz.isAgg215
  z35 := Tryz.sizeOf215
  v35 := Tryz.zeroValue215
  t36 := Tryz.underlying216
  a36 := Tryz.isAgg216
  z36 := Tryz.sizeOf216
  v36 := Tryz.zeroValue216
  t41 := Tryz.underlying220
  a41 := Tryz.isAgg220
  z41 := Tryz.sizeOf220
  v41 := Tryz.zeroValue220
  t44 := Tryz.underlying197
  a44 := Tryz.isAgg197
  z44 := Tryz.sizeOf197
  v44 := Tryz.zeroValue197
  t46 := Tryz.underlying188
  a46 := Tryz.isAgg188
  z46 := Tryz.sizeOf188
  v46 := Tryz.zeroValue188
  t53 := Tryz.underlying234
  a53 := Tryz.isAgg234
  z53 := Tryz.sizeOf234
  v53 := Tryz.zeroValue234
  t57 := Tryz.underlying238
  a57 := Tryz.isAgg238
  z57 := Tryz.sizeOf238
  v57 := Tryz.zeroValue238
  t63 := Tryz.underlying242
  a63 := Tryz.isAgg242
  z63 := Tryz.sizeOf242
  v63 := Tryz.zeroValue242
  t64 := Tryz.underlying243
  a64 := Tryz.isAgg243
  z64 := Tryz.sizeOf243
  v64 := Tryz.zeroValue243 }

end Go.Proofs.YtmhbjkoabbmfpaaGreat

namespace Go.Proofs.YtmhbjkoabbmfpaaGreat
open Go.RowKit Go.Maps Go.Sort Go.Shelf
set_option linter.unusedVariables false
set_option linter.unusedSimpArgs false

theorem bytesLess_iff : ∀ (a b : List UInt8), Op.bytesLess a b = true ↔ a < b
  | [], [] => by simp [Op.bytesLess]
  | [], _ :: _ => by simp [Op.bytesLess]
  | _ :: _, [] => by simp [Op.bytesLess]
  | x :: a, y :: b => by
    rw [List.cons_lt_cons_iff, ← bytesLess_iff a b]
    simp [Op.bytesLess]

theorem sorts38 (m : Nat) : AnyZ.SortsIn Tryz.prog It.sorted_ren Fence.wide m :=
  ⟨fun blk off cap ss W hH hblk hsz => callsIn_wide.2 (AnyM.slices_Sort_string It.sort blk off cap ss W hH hblk hsz), fun p cap W => callsIn_wide.2 (AnyM.slices_Sort_string_none It.sort p cap W)⟩

theorem pkeys_any (mb : Option Nat) (W : World) : Calls Tryz.prog 38 #[.map mb] W fun e w' => e = .returned (.func (.func 77) #[] #[.pointer (some ⟨W.heap.size, 0, none⟩)]) ∧ w' = W.alloc (.cells #[.map mb] 88) :=
  (callsIn_wide (n := 5)).1 (AnyZ.keys_in It.keys Fence.wide 5 trivial rfl mb W)

def setR (v : Value) : Option (DataW Unit × List MemPlace) := some (.lit (.bool true), [])

def ofB (b : List UInt8) : ByteArray := ⟨b.toArray⟩

theorem ofB_inj {a b : List UInt8} (h : ofB a = ofB b) : a = b := by
  unfold ofB at h
  have := congrArg (fun x : ByteArray => x.data.toList) h
  simpa using this

theorem ofB_of (k : ByteArray) : ofB k.data.toList = k := by cases k; simp [ofB]

theorem keys_perm {f : MapEntry → Lit × DataW Unit} {es : List MapEntry} {h : MapEntry → List UInt8} (hh : es.map (fun e => strOf (f e).1) = es.map h) : (strKeys (DataW.map ((es.map f).foldr DataW.insert []))).Perm (es.map h) := by
  rw [← hh]
  have := (WideShapes.sorted_perm (es.map f)).map (fun p : Lit × DataW Unit => strOf p.1)
  rw [List.map_map] at this
  exact this

theorem owns_set {W : World} {b n : Nat} {g : ByteArray → Option Value} (h : Mg W b n g) (hn : n ≤ maxLen) :
    ∃ D : DataW Unit, W.ownsMap Tryz.prog 9 setR b n D ∧ Maps.size D = n ∧ (strKeys D).Nodup ∧ ∀ x : List UInt8, x ∈ strKeys D ↔ (g (ofB x)).isSome = true := by
  obtain ⟨es, clock, hb, hst, hkeys, hs, hg⟩ := h
  have hrd : ∀ x ∈ es.toList, ∃ k : ByteArray, x.key = .string k ∧ WideElems.rd Tryz.prog 9 setR x = some (.string k.data.toList, .lit (.bool true)) := fun x hx => by
    obtain ⟨k, hk, hks⟩ := hkeys x hx
    exact ⟨k, hk, by simp [WideElems.rd, hk, keyStr hks, setR]⟩
  have hp := WideShapes.sorted_perm (es.toList.map (WideElems.rg Tryz.prog 9 setR))
  have hmap : es.toList.map (fun e => strOf (WideElems.rg Tryz.prog 9 setR e).1) = es.toList.map (fun e => strOf (match e.key with | .string k => .string k.data.toList | _ => .bool false)) := by
    refine List.map_congr_left fun e he => ?_
    obtain ⟨k, hk, hr⟩ := hrd e he
    rw [WideElems.rg_of hr, hk]
  have hpk : (strKeys (DataW.map ((es.toList.map (WideElems.rg Tryz.prog 9 setR)).foldr DataW.insert []))).Perm (es.toList.map (fun e => strOf (match e.key with | .string k => .string k.data.toList | _ => .bool false))) := keys_perm hmap
  obtain ⟨L, hL⟩ : ∃ L, (es.toList.map (WideElems.rg Tryz.prog 9 setR)).foldr DataW.insert [] = L := ⟨_, rfl⟩
  rw [hL] at hp hpk
  refine ⟨DataW.map L, ⟨es, clock, hb, ⟨by unfold maxLen at hn ⊢; omega, hst, fun x hx => by obtain ⟨k, _, hr⟩ := hrd x hx; exact ⟨_, hr⟩⟩, by omega, by rw [hL]⟩, ?_, ?_, fun x => ?_⟩
  · rw [Maps.size_eq, hp.length_eq, List.length_map]
    simpa using hs
  · rw [hpk.nodup_iff]
    have hpw := ((MapKept.stamped_iff _ _).1 hst).2.2
    refine List.pairwise_map.2 (hpw.imp_of_mem fun {p q} hp' hq' hne e => hne ?_)
    obtain ⟨k1, hk1, _⟩ := hrd p hp'
    obtain ⟨k2, hk2, _⟩ := hrd q hq'
    rw [hk1, hk2] at e ⊢
    simp only [strOf] at e
    have : k1 = k2 := by rw [← ofB_of k1, e, ofB_of k2]
    rw [this]
  · rw [hpk.mem_iff, List.mem_map]
    constructor
    · rintro ⟨e, he, hx⟩
      obtain ⟨k, hk, _⟩ := hrd e he
      rw [hk] at hx
      simp only [strOf] at hx
      subst hx
      rw [ofB_of]
      rw [(hg k e.val).2 ⟨e, he, hk, rfl⟩]
      rfl
    · intro h
      obtain ⟨v, hv⟩ := Option.isSome_iff_exists.1 h
      obtain ⟨e, he, hk, _⟩ := (hg _ _).1 hv
      refine ⟨e, he, ?_⟩
      rw [hk]
      simp [strOf, ofB]

set_option maxHeartbeats 1000000 in
theorem psortedM {W : World} {b n : Nat} {g : ByteArray → Option Value} (hM : Hid (Mg W b n g)) (hn : n ≤ 1100000) :
    Calls Tryz.prog 37 #[.func (.func 77) #[] #[.pointer (some ⟨W.heap.size, 0, none⟩)]] (W.alloc (.cells #[.map (some b)] 88)) fun e w' => ∃ v zs, e = .returned v ∧ Sw w' (W.heap.size + 1) v zs ∧ Ris zs ∧ (∀ x, x ∈ zs ↔ (g x).isSome = true) ∧ Below (W.heap.size + 1) (W.alloc (.cells #[.map (some b)] 88)) w' := by
  obtain ⟨D, hown, hsz, hnd, hmem⟩ := owns_set hM.out (by unfold maxLen; omega)
  have hbl := hown.lt
  have hseq : SeqGives Fence.wide 2 Tryz.prog 77 #[.pointer (some ⟨W.heap.size, 0, none⟩)] encStr (fun ss => ss.Perm (strKeys D)) (Maps.size D) (W.alloc (.cells #[.map (some b)] 88)) :=
    AnyZ.keys_gives (ρ := It.keys_ren) { It.keys with } Fence.wide _ trivial rfl (by omega) W.heap.size b n D _ (by simp) (by simp) (by
      obtain ⟨es, clock, hb, Ft, hs, hD⟩ := hown
      exact ⟨es, clock, (Below.heap_alloc _ _ b hbl).trans hb, Ft, hs, hD⟩)
  have cS := AnyZ.sorted_in It.sorted Fence.wide 5 trivial trivial trivial trivial rfl (by omega) (sorts38 _) (enters_of Tryz.func76 (by kernel_rfl) rfl) 77 #[.pointer (some ⟨W.heap.size, 0, none⟩)] trivial (enters_of Tryz.func77 (by kernel_rfl) rfl) _ _ (by rw [hsz]; unfold maxLen; omega) (by rw [hsz]; omega) _ hseq
  have cS2 := callsIn_wide.1 cS
  change Calls Tryz.prog 37 _ _ _ at cS2
  refine cS2.mono ?_
  rintro e w' ⟨v, ss, rfl, hP, hrow, _, hb⟩
  have hsort := List.mergeSort_perm ss (fun x y => decide (x ≤ y))
  have hle : (ss.mergeSort (fun x y => decide (x ≤ y))).length = ss.length := hsort.length_eq
  refine ⟨v, (ss.mergeSort (fun x y => decide (x ≤ y))).map ofB, rfl, ?_, ?_, fun x => ?_, by simpa using hb⟩
  · unfold Sw
    rw [List.length_map, hle, List.map_map]
    have : (Value.string ∘ ofB) = encStr := by funext x; simp [encStr, ofB]
    rw [this]
    have e1 : (W.alloc (.cells #[.map (some b)] 88)).heap.size = W.heap.size + 1 := by simp
    rw [e1] at hrow
    exact hrow
  · have tr : ∀ a b c : List UInt8, decide (a ≤ b) = true → decide (b ≤ c) = true → decide (a ≤ c) = true := fun a b c h1 h2 => by simp only [decide_eq_true_eq] at *; exact List.le_trans h1 h2
    have tot : ∀ a b : List UInt8, (decide (a ≤ b) || decide (b ≤ a)) = true := fun a b => by simp only [Bool.or_eq_true, decide_eq_true_eq]; exact List.le_total a b
    have hpw := List.pairwise_mergeSort (le := fun x y => decide (x ≤ y)) tr tot ss
    have hnd2 : (ss.mergeSort (fun x y => decide (x ≤ y))).Nodup := (hsort.trans hP).nodup_iff.2 hnd
    refine List.pairwise_map.2 ((hpw.and hnd2).imp fun {x y} h => ?_)
    obtain ⟨h1, h2⟩ := h
    have h3 : slt (ofB y) (ofB x) = false := by
      cases hq : slt (ofB y) (ofB x) with
      | false => rfl
      | true =>
        unfold slt at hq
        rw [bytesLess_iff] at hq
        simp only [decide_eq_true_eq] at h1
        have : (ofB y).toList < (ofB x).toList := hq
        rw [ByteArray.toList_eq, ByteArray.toList_eq] at this
        simp only [ofB] at this
        exact absurd this (List.not_lt.2 h1)
    cases hq : slt (ofB x) (ofB y) with
    | true => rfl
    | false => exact absurd (ofB_inj (slt_tri hq h3)) h2
  · rw [List.mem_map]
    constructor
    · rintro ⟨y, hy, rfl⟩
      exact (hmem y).1 (hP.mem_iff.1 (hsort.mem_iff.1 hy))
    · intro hx
      refine ⟨x.data.toList, hsort.mem_iff.2 (hP.mem_iff.2 ((hmem _).2 ?_)), ofB_of x⟩
      rw [ofB_of]
      exact hx

end Go.Proofs.YtmhbjkoabbmfpaaGreat
