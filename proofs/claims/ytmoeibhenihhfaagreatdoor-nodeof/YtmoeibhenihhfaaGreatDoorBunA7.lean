/- Put together by a program out of these texts of mine: POf, Ext, PAsk1, PAsk2, PAsk3, NRef3, NRef4, NStr2, NRef5, NPa. -/
import Derived.Maps.AppendAt
import Derived.Deep.QuietTactic
import Derived.BigQuiet
import Derived.Lib.OthersKept
import Derived.Test.YtmoeibhenihhfaaGreatDoorBunA2
import Derived.Test.YtmoeibhenihhfaaGreatDoorBunA3
import Derived.Test.YtmoeibhenihhfaaGreatDoorBunA4
import Derived.Test.YtmoeibhenihhfaaGreatDoorBunA5
import Derived.Test.YtmoeibhenihhfaaGreatDoorBunA6

/- The contract of the program's own node.Of, at trees within the law's bounds. -/
namespace Go.Proofs.YtmoeibhenihhfaaGreatDoor
open Go.RowKit
set_option linter.unusedVariables false
set_option linter.unusedSimpArgs false

/-- The call's own list of nodes. -/
def Nos (w : World) (base : Nat) (v : Value) (ts : List Tn) : Prop := w.ownsRow base 24 8 v ts.length (ts.flatMap Tn.cells)

theorem Nl.nos {w : World} {base : Nat} {v : Value} {us : List Tn} (h : Nl w base v us) : Nos w base v us := by
  refine ⟨flat8_len us, ?_⟩
  rcases h with ⟨rfl, rfl⟩ | ⟨g, rfl, h2, h3, h4, h5⟩
  · exact .inl ⟨rfl, rfl⟩
  · refine .inr ⟨g, us.length, _, rfl, h2, h4, Nat.le_refl _, by unfold maxLen; omega, by rw [List.size_toArray, flat8_len], ?_⟩
    simp only [List.toList_toArray]
    rw [List.take_of_length_le (by rw [flat8_len]; omega)]

theorem Nl.all {w : World} {base : Nat} {v : Value} {us : List Tn} (h : Nl w base v us) : ∀ u ∈ us, TnOk w u := by
  rcases h with ⟨_, rfl⟩ | ⟨g, _, h2, h3, h4, h5⟩
  · intro u hu; cases hu
  · exact fun u hu => (h5 u hu).1

/-- The call's own list is a list of nodes. -/
theorem Nos.kl {w : World} {base : Nat} {v : Value} {ts : List Tn} (h : Nos w base v ts) (hn : ts.length ≤ 1000000) (hall : ∀ t ∈ ts, TnOk w t) : ∃ ad cap, v = .slice ad ts.length cap ∧ Kl w ad cap ts := by
  rcases h.2 with ⟨rfl, h0⟩ | ⟨g, cap, cur, rfl, h2, h3, h4, h5, h6, h7⟩
  · refine ⟨none, 0, by rw [h0], by omega, by omega, fun _ => rfl, fun hp => by omega, fun i t hi => hall t (List.mem_of_getElem? hi)⟩
  · refine ⟨some ⟨g, 0, none⟩, cap, rfl, by omega, h4, fun e => (by cases e), fun hp => ⟨g, 0, rfl, one_lt h3, fun i t hi j u hj => ?_⟩, fun i t hi => hall t (List.mem_of_getElem? hi)⟩
    have hf := flat8c ts i t hi j u hj
    rw [← h7] at hf
    rw [Nat.zero_add]
    simp only [World.cell?, h3]
    have h8 : cur.toList[i * 8 + j]? = some u := by
      rw [List.getElem?_take] at hf
      split at hf
      · exact hf
      · cases hf
    simpa using h8

theorem wpList_append_nos {w : World} {ops : Array Oper} {rest : List Oper} {o : Oper} {f : Act} {Q : Exit → Act → World → Prop} (hgd : o.guard = none) (s x : Operand)
    (ho : o.op = .call { callee := .builtin .append, args := #[s, x], argTypes := #[22, 22] }) (base : Nat) (v : Value) (ts : List Tn) (t : Tn) (b cap : Nat)
    (hs : f.eval s = v) (hx : f.eval x = .slice (some ⟨b, 0, none⟩) 1 cap) (hown : Nos w base v ts)
    (hc : ∀ (j : Nat) (u : Value), t.cells[j]? = some u → w.cell? ⟨b, j, none⟩ = some u) (hn : ts.length + 1 ≤ 1000000) (hbase : base ≤ w.heap.size)
    (h : ∀ v' w', Nos w' base v' (ts ++ [t]) → Below base w w' → wpList Tryz.prog ops Q rest (f.put o.dst v') w') : wpList Tryz.prog ops Q (o :: rest) f w := by
  refine wpList_plain hgd fun K hK => ?_
  obtain ⟨i0, hi, hz0, hz1, hz2⟩ := info_parts Tryz.infoNode2
  obtain ⟨v', w', hrun, h1, h2, _, h3⟩ := run_append_own_at (P := Tryz.prog) w base 22 o.type 24 i0 _ 8 96 Tryz.underlying22 hi hz0 hz1 hz2 rfl (by decide) v ts.length _ hown ⟨b, 0, none⟩ 1 cap t.cells (by simp [cells8])
    (fun j u hj => by
      have hp : (⟨b, 0, none⟩ : Addr).add j = ⟨b, j, none⟩ := by unfold Addr.add; split <;> simp_all
      rw [hp]; exact hc j u hj)
    (fun u hu => by
      obtain ⟨_, _, _, _, _, _, _, _, _, _⟩ := t
      simp [Tn.cells] at hu
      rcases hu with rfl | rfl | rfl | rfl | rfl | rfl | rfl | rfl <;> rfl) (by unfold maxLen; omega) (by omega) hbase
  unfold Oper.wp
  simp [execOp, ho, resolve, invoke, builtin, hs, hx, hrun, Result.andThen]
  refine hK _ _ (h v' w' (by unfold Nos; simpa using h1) ((Below.refl _ _).grown h2 hbase (fun k hk => ?_)))
  exact (hown.lt k hk).1

set_option maxRecDepth 10000 in
set_option maxHeartbeats 4000000 in
theorem pof_any {w : World} {t : Tn} (h : TnOk w t) (hf : tfew t = true) (hd : tdeep t ≤ 64) (kind : Int) (hk : i64b kind) (W : World) (hT : Hid (TTab W)) (hB : Below w.heap.size w W) :
    Calls Tryz.prog 7 #[t.val, .int .i64 kind] W fun e W' => ∃ v us, e = .returned v ∧ Nos W' W.heap.size v us ∧ (∀ u ∈ us, TnOk W' u) ∧ tlikes us (t.kids.filter fun k => k.kind == kind) ∧ Below W.heap.size W W' := by
  have hnum := tfew_num hf
  have hdk : Hid (∀ k ∈ t.kids, tdeep k ≤ 64) := fun k hk => by
    obtain ⟨i, hi⟩ := List.getElem?_of_mem hk
    exact tdeep_kid hd hi
  replace h := h.under hB
  clear hB hT hf hd w
  obtain ⟨kd, text, n, m, a, pos, doc, ad, cap, kids⟩ := t
  have hkl : Kl W ad cap kids := h.kl
  rw [tnum, tbyt] at hnum
  have hfl := tnums_filter (fun k : Tn => k.kind == kind) kids
  have hlen := tnums_len kids
  have hflen : (kids.filter fun k => k.kind == kind).length ≤ kids.length := List.length_filter_le _ _
  obtain ⟨R, hR⟩ : ∃ R, R = kids.filter fun k => k.kind == kind := ⟨_, rfl⟩
  have hn1 : tnums R ≤ 65536 := by rw [hR]; omega
  have hb1 : tbyts R ≤ 2147483647 := by rw [hR]; omega
  have hkl400 : kids.length ≤ 400 := by have := tnums_pos kids; omega
  have HR : Hid (R = kids.filter fun k => k.kind == kind) := hR
  have hmem := hkl.hmem
  have HM : Hid _ := hmem
  have HAll : Hid (∀ t ∈ kids, TnOk W t) := fun t ht => by
    obtain ⟨i, hi⟩ := List.getElem?_of_mem ht
    exact hkl.hall i t hi
  have hk63 := hkl.hlen
  clear hkl h hmem hnum hfl hlen hflen hR
  show Calls Tryz.prog 7 #[.agg #[.int .i64 kd, .string (strOfNums text), .int .i64 n, .int .i64 m, .int .i64 a, .int .i64 pos, .string (strOfNums doc), .slice ad kids.length cap], .int .i64 kind] W _
  change Hid (∀ k ∈ kids, tdeep k ≤ 64) at hdk
  show Calls Tryz.prog _ _ _ (fun e W' => ∃ v us, e = .returned v ∧ Nos W' W.heap.size v us ∧ (∀ u ∈ us, TnOk W' u) ∧ tlikes us (kids.filter fun k => k.kind == kind) ∧ Below W.heap.size W W')
  have HBA : Hid (∀ T1 T2, Below W.heap.size W (W.alloc (.cells #[.int .i64 kd, .string T1, .int .i64 n, .int .i64 m, .int .i64 a, .int .i64 pos, .string T2, .slice ad kids.length cap] 24))) := fun _ _ => (Below.refl _ _).alloc (Nat.le_refl _) _
  generalize strOfNums text = T1
  generalize strOfNums doc = T2
  go_enter Tryz.func7, Tryz.ntmps7
  go_wp2
  go_loopw [5, 12] (fun v c wr => ∃ (k q : Nat) (va : Option Addr) (vc : Nat), v = .slice va q vc ∧ c = .int .i64 (k : Int) ∧ k ≤ kids.length ∧ q ≤ k ∧ Hid (q = ((kids.take k).filter fun k => k.kind == kind).length) ∧ Hid (Nos wr W.heap.size (.slice va q vc) ((kids.take k).filter fun k => k.kind == kind)) ∧ Hid (Below W.heap.size W wr)) (fun _ c _ => kids.length - (intOf c).toNat)
  case atStart => exact ⟨0, 0, none, 0, rfl, rfl, by omega, by omega, rfl, World.ownsRow_nil _ _ _ _, HBA.out _ _⟩
  case round =>
    obtain ⟨k, q, va, vc, rfl, rfl, hk, hqk, HQ, HN, HBw⟩ := hrel
    by_cases hkl2 : k < kids.length
    · obtain ⟨b, off, rfl, hlt, hc⟩ := HM.out (by omega)
      obtain ⟨⟨kd4, tx4, n4, m4, a4, p4, dc4, ad4, cap4, ks4⟩, hkid⟩ : ∃ t, kids[k]? = some t := ⟨kids[k]'hkl2, List.getElem?_eq_getElem hkl2⟩
      obtain ⟨c0, c1, c2, c3, c4, c5, c6, c7⟩ := kid_cells hlt HBw.out hc hkid
      have htk : kids.take (k + 1) = kids.take k ++ [.mk kd4 tx4 n4 m4 a4 p4 dc4 ad4 cap4 ks4] := by rw [List.take_add_one, hkid]; rfl
      by_cases hkk : kd4 = kind
      · subst hkk
        have e1 : (kd4 == kd4) = true := by simp
        have hft : (kids.take (k + 1)).filter (fun k => k.kind == kd4) = ((kids.take k).filter fun k => k.kind == kd4) ++ [.mk kd4 tx4 n4 m4 a4 p4 dc4 ad4 cap4 ks4] := by
          rw [htk, List.filter_append]
          simp [Tn.kind]
        have HFt : Hid ((kids.take (k + 1)).filter (fun k => k.kind == kd4) = ((kids.take k).filter fun k => k.kind == kd4) ++ [.mk kd4 tx4 n4 m4 a4 p4 dc4 ad4 cap4 ks4]) := hft
        have hAA : ∀ (U4 V4 : ByteArray), Below wr.heap.size wr ((wr.alloc (.cells #[.int .i64 kd4, .string U4, .int .i64 n4, .int .i64 m4, .int .i64 a4, .int .i64 p4, .string V4, .slice ad4 ks4.length cap4] 24)).alloc (.cells #[.int .i64 kd4, .string U4, .int .i64 n4, .int .i64 m4, .int .i64 a4, .int .i64 p4, .string V4, .slice ad4 ks4.length cap4] 24)) := fun _ _ => ((Below.refl _ _).alloc (Nat.le_refl _) _).alloc (by simp only [World.size_alloc]; omega) _
        have hrow : ∀ (j : Nat) (u : Value), (Tn.mk kd4 tx4 n4 m4 a4 p4 dc4 ad4 cap4 ks4).cells[j]? = some u → ((wr.alloc (.cells #[.int .i64 kd4, .string (strOfNums tx4), .int .i64 n4, .int .i64 m4, .int .i64 a4, .int .i64 p4, .string (strOfNums dc4), .slice ad4 ks4.length cap4] 24)).alloc (.cells #[.int .i64 kd4, .string (strOfNums tx4), .int .i64 n4, .int .i64 m4, .int .i64 a4, .int .i64 p4, .string (strOfNums dc4), .slice ad4 ks4.length cap4] 24)).cell? ⟨wr.heap.size + 1, j, none⟩ = some u := fun j u hj => by
          refine cell_of_row (cs := #[.int .i64 kd4, .string (strOfNums tx4), .int .i64 n4, .int .i64 m4, .int .i64 a4, .int .i64 p4, .string (strOfNums dc4), .slice ad4 ks4.length cap4]) (t := 24) (alloc_at _ _ (by simp)) j u ?_
          simpa [Tn.cells] using hj
        have HRow : Hid _ := hrow
        have hNA : ∀ U4 V4, Nos ((wr.alloc (.cells #[.int .i64 kd4, .string U4, .int .i64 n4, .int .i64 m4, .int .i64 a4, .int .i64 p4, .string V4, .slice ad4 ks4.length cap4] 24)).alloc (.cells #[.int .i64 kd4, .string U4, .int .i64 n4, .int .i64 m4, .int .i64 a4, .int .i64 p4, .string V4, .slice ad4 ks4.length cap4] 24)) W.heap.size (.slice va q vc) ((kids.take k).filter fun k => k.kind == kd4) := fun U4 V4 => own_below HN.out (hAA U4 V4)
        have HNA := hNA (strOfNums tx4) (strOfNums dc4)
        have HNA2 : Hid _ := HNA
        have hql : ((kids.take k).filter fun k => k.kind == kd4).length + 1 ≤ 1000000 := by rw [← HQ.out]; omega
        have hBn : Below W.heap.size W ((wr.alloc (.cells #[.int .i64 kd4, .string (strOfNums tx4), .int .i64 n4, .int .i64 m4, .int .i64 a4, .int .i64 p4, .string (strOfNums dc4), .slice ad4 ks4.length cap4] 24)).alloc (.cells #[.int .i64 kd4, .string (strOfNums tx4), .int .i64 n4, .int .i64 m4, .int .i64 a4, .int .i64 p4, .string (strOfNums dc4), .slice ad4 ks4.length cap4] 24)) := HBw.out.trans ((hAA _ _).mono HBw.out.size)
        have hbase : W.heap.size ≤ ((wr.alloc (.cells #[.int .i64 kd4, .string (strOfNums tx4), .int .i64 n4, .int .i64 m4, .int .i64 a4, .int .i64 p4, .string (strOfNums dc4), .slice ad4 ks4.length cap4] 24)).alloc (.cells #[.int .i64 kd4, .string (strOfNums tx4), .int .i64 n4, .int .i64 m4, .int .i64 a4, .int .i64 p4, .string (strOfNums dc4), .slice ad4 ks4.length cap4] 24)).heap.size := hBn.size
        have HBn : Hid _ := hBn
        have HBs : Hid _ := hbase
        have HQl : Hid _ := hql
        have HQ2 : Hid (q + 1 = ((kids.take (k + 1)).filter fun k => k.kind == kd4).length) := by show _ = _; rw [hft, List.length_append, HQ.out]; rfl
    
        clear hft htk hAA hrow hNA HNA hql hBn hbase hc hkid HQ
        go_wp2_with (at_builtin; refine wpList_append_nos rfl _ _ rfl W.heap.size (.slice va q vc) ((kids.take k).filter fun k => k.kind == kd4) (.mk kd4 tx4 n4 m4 a4 p4 dc4 ad4 cap4 ks4) (wr.heap.size + 1) 1 rfl rfl HNA2.out HRow.out HQl.out HBs.out ?_; intro v' w9 hN9 hB9; rw [← HFt.out] at hN9; obtain ⟨va9, vc9, hv9⟩ := own_slice hN9; rw [← HQ2.out] at hv9; subst hv9; have HN9 : Hid _ := hN9; have HB9 : Hid (Below W.heap.size W w9) := HBn.out.trans hB9; clear hN9 hB9 HNA2 HRow HQl HBs HBn HN HBw)
        go_roundw
        case rel => first | exact ⟨k + 1, q + 1, va9, vc9, rfl, by go_num, by omega, by omega, HQ2, HN9, HB9⟩ | ((repeat apply Exists.intro); exact ⟨⟨k + 1, q + 1, va9, vc9, rfl, by go_num, by omega, by omega, HQ2, HN9, HB9⟩, rfl⟩)
        case measure => simp [intOf]; omega
      · have e1 : (kd4 == kind) = false := by simpa using hkk
        have hft : (kids.take (k + 1)).filter (fun k => k.kind == kind) = (kids.take k).filter fun k => k.kind == kind := by
          rw [htk, List.filter_append]
          simp [Tn.kind, hkk]
        have hA : Below wr.heap.size wr (wr.alloc (.cells #[.int .i64 kd4, .string (strOfNums tx4), .int .i64 n4, .int .i64 m4, .int .i64 a4, .int .i64 p4, .string (strOfNums dc4), .slice ad4 ks4.length cap4] 24)) := (Below.refl _ _).alloc (Nat.le_refl _) _
        have HN2 : Hid (Nos (wr.alloc (.cells #[.int .i64 kd4, .string (strOfNums tx4), .int .i64 n4, .int .i64 m4, .int .i64 a4, .int .i64 p4, .string (strOfNums dc4), .slice ad4 ks4.length cap4] 24)) W.heap.size (.slice va q vc) ((kids.take (k + 1)).filter fun k => k.kind == kind)) := by
          show Nos _ _ _ _
          rw [hft]
          exact own_below HN.out hA
        have HBn : Hid (Below W.heap.size W (wr.alloc (.cells #[.int .i64 kd4, .string (strOfNums tx4), .int .i64 n4, .int .i64 m4, .int .i64 a4, .int .i64 p4, .string (strOfNums dc4), .slice ad4 ks4.length cap4] 24))) := HBw.out.trans (hA.mono HBw.out.size)
        have HQ2 : Hid (q = ((kids.take (k + 1)).filter fun k => k.kind == kind).length) := by show _ = _; rw [hft]; exact HQ.out
        clear hft htk hA hc hkid HQ hkk HN HBw
        generalize strOfNums tx4 = U4 at *
        generalize strOfNums dc4 = V4 at *
        go_wp2
        go_roundw
        case rel => first | exact ⟨k + 1, q, va, vc, rfl, by go_num, by omega, by omega, HQ2, HN2, HBn⟩ | ((repeat apply Exists.intro); exact ⟨⟨k + 1, q, va, vc, rfl, by go_num, by omega, by omega, HQ2, HN2, HBn⟩, rfl⟩)
        case measure => simp [intOf]; omega
    · obtain rfl : k = kids.length := by omega
      have hN := HN.out
      have hQ := HQ.out
      rw [List.take_length, ← HR.out] at hN hQ
      subst hQ
      have hallR : ∀ t ∈ R, TnOk wr t := fun t ht => by
        rw [HR.out] at ht
        exact (HAll.out t ((List.mem_filter.1 ht).1)).under HBw.out
      obtain ⟨ad9, cap9, hv9, hk9⟩ := hN.kl (by omega) hallR
      simp only [Value.slice.injEq, true_and] at hv9
      obtain ⟨rfl, rfl⟩ := hv9
      have Q1 : Hid _ := pbounded_any hk9 hb1 hn1
      have HK9 : Hid _ := hk9
      clear HN HQ hN hk9 hallR HM HAll
      go_wp2_with fail
      refine Calls.mono Q1.out ?_
      rintro e w2 ⟨rfl, h2⟩
      have Q2 : Hid _ := pcopied_any (HK9.out.under h2) hn1 hb1
      have HB2 : Hid (Below W.heap.size W w2) := HBw.out.trans (h2.mono HBw.out.size)
      clear h2 Q1 HK9 HBw
      go_wp2_with fail
      refine Calls.mono Q2.out ?_
      rintro e w3 ⟨v, us, rfl, h3, h4, h5⟩
      have H3 : Hid _ := And.intro h3 (And.intro h4 h5)
      clear h3 h4 h5
      go_wp2
      go_ret
      obtain ⟨h3, h4, h5⟩ := H3.out
      refine ⟨v, us, rfl, (h3.low HB2.out.size).nos, h3.all, ?_, HB2.out.trans (h5.mono HB2.out.size)⟩
      rw [← HR.out]
      refine bares_likes us R h4 (fun t ht => ?_)
      rw [HR.out] at ht
      exact hdk.out t ((List.mem_filter.1 ht).1)

end Go.Proofs.YtmoeibhenihhfaaGreatDoor

/- A region that draws its order, whose own operations only read what lay there ahead of it and whose calls leave that alone: one walk in the order of the text serves every order. -/
namespace Go.Proofs.YtmoeibhenihhfaaGreatDoor
open Go.RowKit

/-- A world that has more than W0 has, and all of that as it was. -/
structure Ext (W0 : World) where
  val : World
  ok : Below W0.heap.size W0 val

instance (W0 : World) : Nonempty (Ext W0) := ⟨⟨W0, Below.refl _ _⟩⟩

theorem wp_region_ext {P : Program} {id : Nat} {Q : Exit → Act → World → Prop} {a : Act} {w : World} {l : List Oper} (W0 : World) (h0 : Below W0.heap.size W0 w) (hm : P.follows .mixedOrders = true) (hB : Region.lexB .any l.toArray = true)
    (h : wpQuiet P l.toArray (fun w' => ∃ x : Ext W0, w' = x.val) (fun a' => ∀ w', (∃ x : Ext W0, w' = x.val) → Q .normal a' w') l a) : (Code.region id l.toArray true).wp P Q a w :=
  wp_region_quiet (C := fun w' => ∃ x : Ext W0, w' = x.val) hm hB ⟨⟨_, h0.drew⟩, rfl⟩ (by simpa using h)

theorem Ext.call {P : Program} {W0 : World} {f : FuncId} {args : Array Value} {v : Value} (q : ∀ V, Below W0.heap.size W0 V → Calls P f args V fun e W' => e = .returned v ∧ Below V.heap.size V W') (x : Ext W0) :
    Calls P f args x.val fun e w'' => e = .returned v ∧ ∃ y : Ext W0, w'' = y.val :=
  (q x.val x.ok).mono fun _ w'' ⟨he, hb⟩ => ⟨he, ⟨w'', x.ok.trans (hb.mono x.ok.size)⟩, rfl⟩

/-- .. of a callee that leaves the world as it is. -/
theorem Ext.call_same {P : Program} {W0 : World} {f : FuncId} {args : Array Value} {v : Value} (q : ∀ V, Calls P f args V fun e W' => e = .returned v ∧ V = W') (x : Ext W0) :
    Calls P f args x.val fun e w'' => e = .returned v ∧ ∃ y : Ext W0, w'' = y.val :=
  (q x.val).mono fun _ _ ⟨he, hb⟩ => ⟨he, x, hb.symm⟩

theorem Ext.cell {W0 : World} (x : Ext W0) {p : Addr} (hp : p.block < W0.heap.size) {v : Value} (h : W0.cell? p = some v) : x.val.cell? p = some v := (x.ok.cell hp).trans h

end Go.Proofs.YtmoeibhenihhfaaGreatDoor

/- The contracts of the program's own only, some, typed, and of the closures that they answer. -/
namespace Go.Proofs.YtmoeibhenihhfaaGreatDoor
open Go.RowKit
set_option linter.unusedVariables false
set_option linter.unusedSimpArgs false

/-- Numbers that lie in a block. -/
def Ib (w : World) (b : Nat) (zs : List Int) : Prop := ∀ j, j < zs.length → w.cell? ⟨b, 0 + j, none⟩ = some (.int .i64 (zs.getD j 0))

theorem Ib.of_block {w V : World} {b : Nat} {zs : List Int} (h : Ib w b zs) (hb : V.heap[b]? = w.heap[b]?) : Ib V b zs := fun j hj => by
  rw [← h j hj]; simp [World.cell?, hb]

set_option maxRecDepth 10000 in
set_option maxHeartbeats 1000000 in
theorem ponly1_any (t : Tn) (V : World) (g b c : Nat) (zs : List Int) (hz : zs.length ≤ 100) (hg : V.heap[g]? = some (.cells #[.slice (some ⟨b, 0, none⟩) zs.length c] 50 (0, 0))) (hi : Ib V b zs) (hb : b < V.heap.size) :
    Calls Tryz.prog 60 #[t.val, .pointer (some ⟨g, 0, none⟩)] V fun e V' => e = .returned (.bool (zs.contains t.kind)) ∧ Below V.heap.size V V' := by
  obtain ⟨kind, text, n, m, a, pos, doc, ad, cap, kids⟩ := t
  change Calls Tryz.prog 60 #[.agg #[.int .i64 kind, .string (strOfNums text), .int .i64 n, .int .i64 m, .int .i64 a, .int .i64 pos, .string (strOfNums doc), .slice ad kids.length cap], .pointer (some ⟨g, 0, none⟩)] V fun e V' => e = .returned (.bool (zs.contains kind)) ∧ Below V.heap.size V V'
  generalize strOfNums text = T1
  generalize strOfNums doc = T2
  have hc := one_cell_of hg
  have hlt := one_lt hg
  have HBA : Hid (Below V.heap.size V (V.alloc (.cells #[.int .i64 kind, .string T1, .int .i64 n, .int .i64 m, .int .i64 a, .int .i64 pos, .string T2, .slice ad kids.length cap] 24))) := (Below.refl _ _).alloc (Nat.le_refl _) _
  have q := Sh.slices_Contains_int b 0 zs.length c zs kind (V.alloc (.cells #[.int .i64 kind, .string T1, .int .i64 n, .int .i64 m, .int .i64 a, .int .i64 pos, .string T2, .slice ad kids.length cap] 24)) (Nat.le_refl _) (by omega) (hi.of_block (HBA.out.block _ hb))
  rw [List.take_length] at q
  generalize zs.contains kind = R at q ⊢
  generalize zs.length = N at *
  have Q : Hid _ := q
  clear q hi hg
  go_enter Tryz.func60, Tryz.ntmps60
  go_wp2_with fail
  refine Calls.mono Q.out ?_
  rintro e w1 ⟨rfl, rfl⟩
  go_wp2
  go_ret
  exact ⟨rfl, HBA.out⟩

set_option maxRecDepth 10000 in
set_option maxHeartbeats 1000000 in
theorem ponly2_any {V : World} {ad : Option Addr} {cap : Nat} {kids : List Tn} (hk : Kl V ad cap kids) (go : Nat) (kf : FuncId) (hin : Goin kf) (caps : Array Value) (p : Tn → Bool) (hg : V.heap[go]? = some (.cells #[.func (.func kf) #[] caps] 26 (0, 0)))
    (hf : ∀ (i : Nat) (t : Tn), kids[i]? = some t → ∀ U, Below V.heap.size V U → Calls Tryz.prog kf (#[t.val] ++ caps) U fun e U' => e = .returned (.bool (p t)) ∧ Below U.heap.size U U') :
    Calls Tryz.prog 62 #[.slice ad kids.length cap, .pointer (some ⟨go, 0, none⟩)] V fun e V' => e = .returned (.bool (kids.all p)) ∧ Below V.heap.size V V' := by
  have q := peach_ask hk kf hin caps p hf
  generalize kids.all p = R at q ⊢
  generalize kids.length = N at q ⊢
  have hc := one_cell_of hg
  have Q : Hid _ := q
  clear q hf hk hg hin
  go_enter Tryz.func62, Tryz.ntmps62
  go_wp2_with fail
  refine Calls.mono Q.out ?_
  rintro e w1 ⟨rfl, hb⟩
  go_wp2
  go_ret
  exact ⟨rfl, hb⟩

set_option maxRecDepth 10000 in
set_option maxHeartbeats 1000000 in
theorem ponly_any (W : World) (b c : Nat) (zs : List Int) (hz : zs.length ≤ 100) (hi : Ib W b zs) (hb : b < W.heap.size) (B : Nat) (hB : B ≤ b) :
    Calls Tryz.prog 36 #[.slice (some ⟨b, 0, none⟩) zs.length c] W fun e W' => ∃ f, e = .returned f ∧ AskL B W' f (fun l => l.all fun t => zs.contains t.kind) ∧ Below W.heap.size W W' := by
  have hmf : ∀ (fn : Fn) (first cap : Array Value) (w : World), (Instr.makeFunc fn first cap).run Tryz.prog w = .ok (.func fn first cap) w := fun _ _ _ _ => rfl
  have HBA : Hid (Below W.heap.size W ((W.alloc (.cells #[.slice (some ⟨b, 0, none⟩) zs.length c] 50)).alloc (.cells #[.func (.func 60) #[] #[.pointer (some ⟨W.heap.size, 0, none⟩)]] 26))) := ((Below.refl _ _).alloc (Nat.le_refl _) _).alloc (by simp only [World.size_alloc]; omega) _
  have fin : Hid (AskL B ((W.alloc (.cells #[.slice (some ⟨b, 0, none⟩) zs.length c] 50)).alloc (.cells #[.func (.func 60) #[] #[.pointer (some ⟨W.heap.size, 0, none⟩)]] 26)) (.func (.func 62) #[] #[.pointer (some ⟨W.heap.size + 1, 0, none⟩)]) (fun l => l.all fun t => zs.contains t.kind)) := by
    refine ⟨_, _, rfl, Tryz.call62, fun V ad cap kids hV hT hk hs => ?_⟩
    have b0 : V.heap[W.heap.size]? = _ := (hV.block _ (by omega) (by simp only [World.size_alloc]; omega)).trans (alloc_old (alloc_at W (.cells #[.slice (some ⟨b, 0, none⟩) zs.length c] 50) rfl))
    have b1 : V.heap[W.heap.size + 1]? = _ := (hV.block _ (by omega) (by simp only [World.size_alloc]; omega)).trans (alloc_at _ _ (by simp))
    have b2 : V.heap[b]? = W.heap[b]? := (hV.block _ hB (by simp only [World.size_alloc]; omega)).trans (HBA.out.block _ hb)
    refine ponly2_any hk (W.heap.size + 1) 60 Tryz.call60 #[.pointer (some ⟨W.heap.size, 0, none⟩)] (fun t => zs.contains t.kind) b1 (fun i t ht U hU => ?_)
    exact ponly1_any t U W.heap.size b c zs hz ((hU.block _ (one_lt b0)).trans b0) ((hi.of_block b2).of_block (hU.block _ (Nat.lt_of_lt_of_le hb (Nat.le_trans HBA.out.size hV.size)))) (Nat.lt_of_lt_of_le hb (Nat.le_trans HBA.out.size (Nat.le_trans hV.size hU.size)))
  generalize zs.length = N at *
  clear hi
  go_enter Tryz.func36, Tryz.ntmps36
  go_wp2
  go_ret
  exact ⟨_, rfl, fin.out, HBA.out⟩

end Go.Proofs.YtmoeibhenihhfaaGreatDoor

/- The contracts of the program's own some, and of the closure that it answers. -/
namespace Go.Proofs.YtmoeibhenihhfaaGreatDoor
open Go.RowKit
set_option linter.unusedVariables false
set_option linter.unusedSimpArgs false

set_option maxRecDepth 10000 in
set_option maxHeartbeats 1000000 in
theorem psome1_any {V : World} {ad : Option Addr} {cap : Nat} (N : Nat) (hN : (N : Int) ≤ 9223372036854775807) (g : Nat) (kf : FuncId) (hin : Goin kf) (caps : Array Value) (R : Bool) (hg : V.heap[g]? = some (.cells #[.func (.func kf) #[] caps] 33 (0, 0)))
    (hf : Calls Tryz.prog kf (#[.slice ad N cap] ++ caps) V fun e V' => e = .returned (.bool R) ∧ Below V.heap.size V V') :
    Calls Tryz.prog 68 #[.slice ad N cap, .pointer (some ⟨g, 0, none⟩)] V fun e V' => e = .returned (.bool (decide (0 < N) && R)) ∧ Below V.heap.size V V' := by
  have hc := one_cell_of hg
  have Q : Hid _ := hf
  have HB : Hid (Below V.heap.size V V) := Below.refl _ _
  clear hf hg
  unfold Goin at hin
  by_cases h0 : 0 < N
  · have e1 : (0 : Int) < (N : Int) := by omega
    rw [decide_eq_true h0, Bool.true_and]
    clear h0
    go_enter Tryz.func68, Tryz.ntmps68
    go_wp2_with fail
    refine Calls.mono Q.out ?_
    rintro e w1 ⟨rfl, hb⟩
    go_wp2
    go_ret
    exact ⟨rfl, hb⟩
  · obtain rfl : N = 0 := by omega
    clear Q
    go_enter Tryz.func68, Tryz.ntmps68
    go_wp2
    go_ret
    exact ⟨rfl, HB.out⟩

set_option maxRecDepth 10000 in
set_option maxHeartbeats 1000000 in
theorem psome_any (W : World) (kind : Int) (h0 : 0 ≤ kind) (h1 : kind ≤ 100) :
    Calls Tryz.prog 42 #[.int .i64 kind] W fun e W' => ∃ f, e = .returned f ∧ AskL W.heap.size W' f (fun l => decide (0 < l.length) && l.all fun t => [kind].contains t.kind) ∧ Below W.heap.size W W' := by
  have hmf : ∀ (fn : Fn) (first cap : Array Value) (w : World), (Instr.makeFunc fn first cap).run Tryz.prog w = .ok (.func fn first cap) w := fun _ _ _ _ => rfl
  have HBA : Hid (Below W.heap.size W (W.alloc (.cells #[.int .i64 kind] 3))) := (Below.refl _ _).alloc (Nat.le_refl _) _
  have Q : Hid _ := ponly_any (W.alloc (.cells #[.int .i64 kind] 3)) W.heap.size 1 [kind] (by simp) (fun j hj => by
    obtain rfl : j = 0 := by simp at hj; omega
    exact one_cell_of (alloc_at _ _ rfl)) (by simp) W.heap.size (Nat.le_refl _)
  go_enter Tryz.func42, Tryz.ntmps42
  go_wp2_with fail
  refine Calls.mono Q.out ?_
  rintro e w1 ⟨f, rfl, ⟨k, caps, rfl, hin, hask⟩, hb⟩
  have hb' : Below W.heap.size W w1 := HBA.out.trans (hb.mono HBA.out.size)
  have HB : Hid (Below W.heap.size W (w1.alloc (.cells #[.func (.func k) #[] caps] 33))) := hb'.alloc hb'.size _
  have fin : Hid (AskL W.heap.size (w1.alloc (.cells #[.func (.func k) #[] caps] 33)) (.func (.func 68) #[] #[.pointer (some ⟨w1.heap.size, 0, none⟩)]) (fun l => decide (0 < l.length) && l.all fun t => [kind].contains t.kind)) := by
    refine ⟨_, _, rfl, Tryz.call68, fun V ad cap kids hV hT hk hs => ?_⟩
    have b0 : V.heap[w1.heap.size]? = _ := (hV.block _ hb'.size (by simp only [World.size_alloc]; omega)).trans (alloc_at w1 _ rfl)
    exact psome1_any kids.length hk.hlen w1.heap.size k hin caps _ b0 (hask V ad cap kids ((Sin.of ((Below.refl _ _).alloc (Nat.le_refl _) _) (Nat.le_refl _)).trans hV) hT hk hs)
  clear Q hb hin hask hb'
  go_wp2
  go_ret
  exact ⟨_, rfl, fin.out, HB.out⟩

end Go.Proofs.YtmoeibhenihhfaaGreatDoor

/- The contracts of the program's own typed, and of the closure that it answers. -/
namespace Go.Proofs.YtmoeibhenihhfaaGreatDoor
open Go.RowKit
set_option linter.unusedVariables false
set_option linter.unusedSimpArgs false

theorem Kl.take {w : World} {ad : Option Addr} {cap : Nat} {kids : List Tn} (h : Kl w ad cap kids) (n : Nat) (hn : n ≤ kids.length) : Kl w ad cap (kids.take n) := by
  have hl : (kids.take n).length = n := by rw [List.length_take]; omega
  refine ⟨by have := h.hlen; omega, by have := h.hcap; omega, h.hnil, fun hp => ?_, fun i t hi => ?_⟩
  · obtain ⟨b, off, h1, h2, h3⟩ := h.hmem (by omega)
    refine ⟨b, off, h1, h2, fun i t hi => h3 i t ?_⟩
    rw [List.getElem?_take] at hi
    split at hi
    · exact hi
    · cases hi
  · refine h.hall i t ?_
    rw [List.getElem?_take] at hi
    split at hi
    · exact hi
    · cases hi

theorem Kl.drop {w : World} {b off : Nat} {cap : Nat} {kids : List Tn} (h : Kl w (some ⟨b, off, none⟩) cap kids) (n : Nat) (hn : n ≤ kids.length) : Kl w (some ⟨b, off + n * 8, none⟩) (cap - n) (kids.drop n) := by
  have hl : (kids.drop n).length = kids.length - n := List.length_drop ..
  refine ⟨by have := h.hlen; omega, by have := h.hcap; omega, by simp, fun hp => ?_, fun i t hi => ?_⟩
  · obtain ⟨b', off', h1, h2, h3⟩ := h.hmem (by omega)
    cases h1
    refine ⟨b, off + n * 8, rfl, h2, fun i t hi j u hj => ?_⟩
    rw [List.getElem?_drop] at hi
    have := h3 (n + i) t hi j u hj
    rw [show off + n * 8 + i * 8 + j = off + (n + i) * 8 + j by omega]
    exact this
  · rw [List.getElem?_drop] at hi
    exact h.hall _ t hi

theorem Kl.empty {w : World} {ad : Option Addr} {cap : Nat} (h : ad = none → cap = 0) : Kl w ad cap [] := ⟨by simp, by simp, h, fun hp => absurd hp (by simp), fun i t hi => by simp at hi⟩

set_option maxRecDepth 10000 in
set_option maxHeartbeats 4000000 in
theorem ptyped1_any {V : World} (b off cap N cnt : Nat) (hN : (N : Int) ≤ 9223372036854775807) (hcap : N ≤ cap) (hle : cnt ≤ N) (h9 : cnt ≤ 9) (h1 : 0 < cnt) (gc gt gp : Nat) (k1 k2 : FuncId) (hin1 : Goin k1) (hin2 : Goin k2) (caps1 caps2 : Array Value) (R1 R2 : Bool)
    (hgc : V.heap[gc]? = some (.cells #[.int .i64 (cnt : Int)] 3 (0, 0))) (hgt : V.heap[gt]? = some (.cells #[.func (.func k1) #[] caps1] 33 (0, 0))) (hgp : V.heap[gp]? = some (.cells #[.func (.func k2) #[] caps2] 33 (0, 0)))
    (hf1 : ∀ U, Below V.heap.size V U → Calls Tryz.prog k1 (#[.slice (some ⟨b, off, none⟩) cnt cap] ++ caps1) U fun e U' => e = .returned (.bool R1) ∧ Below U.heap.size U U')
    (hf2 : ∀ U, Below V.heap.size V U → Calls Tryz.prog k2 (#[.slice (if cap = cnt then some ⟨b, off, none⟩ else some ⟨b, off + cnt * 8, none⟩) (N - cnt) (cap - cnt)] ++ caps2) U fun e U' => e = .returned (.bool R2) ∧ Below U.heap.size U U') :
    Calls Tryz.prog 66 #[.slice (some ⟨b, off, none⟩) N cap, .pointer (some ⟨gc, 0, none⟩), .pointer (some ⟨gt, 0, none⟩), .pointer (some ⟨gp, 0, none⟩)] V fun e V' => e = .returned (.bool (R1 && R2)) ∧ Below V.heap.size V V' := by
  have c0 := fun x : Ext V => x.cell (one_lt hgc) (one_cell_of hgc)
  have c1 := fun x : Ext V => x.cell (one_lt hgt) (one_cell_of hgt)
  have c2 := fun x : Ext V => x.cell (one_lt hgp) (one_cell_of hgp)
  have Q1 : Hid _ := hf1
  have Q2 : Hid _ := hf2
  unfold Goin at hin1 hin2
  have e1 : (cnt : Int) ≤ (N : Int) := by omega
  clear hgc hgt hgp hf1 hf2
  cases R1 with
  | false =>
    go_enter Tryz.func66, Tryz.ntmps66
    go_wp2_with fail
    refine wp_region_ext V (Below.refl _ _) rfl (by kernel_rfl) ?_
    repeat (go_big_quiet_step (exact Ext.call (fun U hU => Q1.out U hU) _))
    refine wpQuiet_nil ?_
    rintro w5 ⟨⟨_, hb5⟩, rfl⟩
    have HB5 : Hid (Below V.heap.size V w5) := hb5
    clear hb5
    go_wp2
    go_ret
    exact ⟨rfl, HB5.out⟩
  | true =>
    go_enter Tryz.func66, Tryz.ntmps66
    go_wp2_with fail
    refine wp_region_ext V (Below.refl _ _) rfl (by kernel_rfl) ?_
    repeat (go_big_quiet_step (first | (exact Ext.call (fun U hU => Q1.out U hU) _) | (exact Ext.call (fun U hU => Q2.out U hU) _)))
    refine wpQuiet_nil ?_
    rintro w5 ⟨⟨_, hb5⟩, rfl⟩
    have HB5 : Hid (Below V.heap.size V w5) := hb5
    clear hb5
    go_wp2
    all_goals go_ret
    all_goals exact ⟨by simp, HB5.out⟩

set_option maxRecDepth 10000 in
set_option maxHeartbeats 4000000 in
theorem ptyped1_short {V : World} (ad : Option Addr) (cap N cnt : Nat) (hN : (N : Int) ≤ 9223372036854775807) (hle : ¬ cnt ≤ N) (h9 : cnt ≤ 9) (gc gt gp : Nat)
    (hgc : V.heap[gc]? = some (.cells #[.int .i64 (cnt : Int)] 3 (0, 0))) :
    Calls Tryz.prog 66 #[.slice ad N cap, .pointer (some ⟨gc, 0, none⟩), .pointer (some ⟨gt, 0, none⟩), .pointer (some ⟨gp, 0, none⟩)] V fun e V' => e = .returned (.bool false) ∧ Below V.heap.size V V' := by
  have c0 := fun x : Ext V => x.cell (one_lt hgc) (one_cell_of hgc)
  have e1 : decide (cnt ≤ N) = false := decide_eq_false hle
  clear hgc
  go_enter Tryz.func66, Tryz.ntmps66
  go_wp2_with fail
  refine wp_region_ext V (Below.refl _ _) rfl (by kernel_rfl) ?_
  repeat (go_big_quiet_step (fail))
  refine wpQuiet_nil ?_
  rintro w5 ⟨⟨_, hb5⟩, rfl⟩
  have HB5 : Hid (Below V.heap.size V w5) := hb5
  clear hb5
  go_wp2
  go_ret
  exact ⟨rfl, HB5.out⟩

/-- So many types, and options behind them. -/
def ptyp (cnt : Nat) (l : List Tn) : Bool := decide (cnt ≤ l.length) && (((l.take cnt).all fun t => [18].contains t.kind) && ((l.drop cnt).all fun t => [4].contains t.kind))

set_option maxRecDepth 10000 in
set_option maxHeartbeats 2000000 in
theorem ptyped_any (W : World) (cnt : Nat) (h1 : 0 < cnt) (h9 : cnt ≤ 9) :
    Calls Tryz.prog 39 #[.int .i64 (cnt : Int)] W fun e W' => ∃ f, e = .returned f ∧ AskL W.heap.size W' f (ptyp cnt) ∧ Below W.heap.size W W' := by
  have hmf : ∀ (fn : Fn) (first cap : Array Value) (w : World), (Instr.makeFunc fn first cap).run Tryz.prog w = .ok (.func fn first cap) w := fun _ _ _ _ => rfl
  have HBA : Hid (Below W.heap.size W ((W.alloc (.cells #[.int .i64 (cnt : Int)] 3)).alloc (.cells #[.int .i64 18] 3))) := ((Below.refl _ _).alloc (Nat.le_refl _) _).alloc (by simp only [World.size_alloc]; omega) _
  have Q : Hid _ := ponly_any ((W.alloc (.cells #[.int .i64 (cnt : Int)] 3)).alloc (.cells #[.int .i64 18] 3)) (W.heap.size + 1) 1 [18] (by simp) (fun j hj => by
    obtain rfl : j = 0 := by simp at hj; omega
    exact one_cell_of (alloc_at _ _ (by simp))) (by simp) W.heap.size (by omega)
  have Q2 : Hid (∀ w1, Below W.heap.size W w1 → _) := fun w1 (h1 : Below W.heap.size W w1) => ponly_any (w1.alloc (.cells #[.int .i64 4] 3)) w1.heap.size 1 [4] (by simp) (fun j hj => by
    obtain rfl : j = 0 := by simp at hj; omega
    exact one_cell_of (alloc_at _ _ rfl)) (by simp) W.heap.size h1.size
  go_enter Tryz.func39, Tryz.ntmps39
  go_wp2_with fail
  refine Calls.mono Q.out ?_
  rintro e w1 ⟨f, rfl, ⟨k, caps, rfl, hin, hask⟩, hb⟩
  have hb' : Below W.heap.size W w1 := HBA.out.trans (hb.mono HBA.out.size)
  have Q3 : Hid _ := Q2.out w1 hb'
  have b0 : w1.heap[W.heap.size]? = some (.cells #[.int .i64 (cnt : Int)] 3 (0, 0)) := (hb.block _ (by simp only [World.size_alloc]; omega)).trans (alloc_old (alloc_at _ _ rfl))
  have HB1 : Hid (Below W.heap.size W w1) := hb'
  have HI : Hid _ := And.intro hin (And.intro hask b0)
  clear Q Q2 hb hin hask hb' b0
  go_wp2_with fail
  refine Calls.mono Q3.out ?_
  rintro e w2 ⟨f, rfl, ⟨k2, caps2, rfl, hin2, hask2⟩, hb2⟩
  have hb2' : Below w1.heap.size w1 w2 := ((Below.refl _ _).alloc (Nat.le_refl _) _).trans (hb2.mono (by simp))
  have HB2 : Hid (Below W.heap.size W w2) := HB1.out.trans (hb2'.mono HB1.out.size)
  have HI2 : Hid _ := And.intro hin2 (And.intro hask2 hb2')
  clear Q3 hb2 hin2 hask2 hb2'
  go_wp2
  go_ret
  obtain ⟨hin, hask, b0⟩ := HI.out
  obtain ⟨hin2, hask2, hb2⟩ := HI2.out
  have hbe : Below w2.heap.size w2 ((w2.alloc (.cells #[.func (.func k) #[] caps] 33)).alloc (.cells #[.func (.func k2) #[] caps2] 33)) := ((Below.refl _ _).alloc (Nat.le_refl _) _).alloc (by simp only [World.size_alloc]; omega) _
  refine ⟨_, rfl, ⟨_, _, rfl, Tryz.call66, fun V ad cap kids hV hT hk hs => ?_⟩, HB2.out.trans (hbe.mono HB2.out.size)⟩
  have hbV := fun U (hU : Below V.heap.size V U) => (show Sin W.heap.size w2 U from (Sin.of hbe (Nat.le_refl _)).trans (hV.trans (Sin.of hU (Nat.le_refl _))))
  have c0 : V.heap[W.heap.size]? = some (.cells #[.int .i64 (cnt : Int)] 3 (0, 0)) := (hV.block _ (Nat.le_refl _) (Nat.lt_of_lt_of_le (one_lt b0) (Nat.le_trans hb2.size hbe.size))).trans ((hbe.block _ (Nat.lt_of_lt_of_le (one_lt b0) hb2.size)).trans ((hb2.block _ (one_lt b0)).trans b0))
  have c1 : V.heap[w2.heap.size]? = some (.cells #[.func (.func k) #[] caps] 33 (0, 0)) := (hV.block _ HB2.out.size (by simp only [World.size_alloc]; omega)).trans (alloc_old (alloc_at _ _ rfl))
  have c2 : V.heap[w2.heap.size + 1]? = some (.cells #[.func (.func k2) #[] caps2] 33 (0, 0)) := (hV.block _ (Nat.le_trans HB2.out.size (by omega)) (by simp only [World.size_alloc]; omega)).trans (alloc_at _ _ (by simp))
  by_cases hle : cnt ≤ kids.length
  · obtain ⟨b, off, rfl, _⟩ := hk.hmem (by omega)
    rw [show ptyp cnt kids = (((kids.take cnt).all fun t => [18].contains t.kind) && ((kids.drop cnt).all fun t => [4].contains t.kind)) by unfold ptyp; rw [decide_eq_true hle, Bool.true_and]]
    have hl1 : (kids.take cnt).length = cnt := by rw [List.length_take]; omega
    have hl2 : (kids.drop cnt).length = kids.length - cnt := List.length_drop ..
    refine ptyped1_any b off cap kids.length cnt hk.hlen hk.hcap hle h9 h1 W.heap.size w2.heap.size (w2.heap.size + 1) k k2 hin hin2 caps caps2 _ _ c0 c1 c2 (fun U hU => ?_) (fun U hU => ?_)
    · have := hask U (some ⟨b, off, none⟩) cap (kids.take cnt) ((Sin.of hb2 (Nat.le_refl _)).trans (hbV U hU)) (hT.below hU (Nat.le_refl _)) ((hk.take cnt hle).under hU) (fun i t hi => hs i t (by
        rw [List.getElem?_take] at hi
        split at hi
        · exact hi
        · cases hi))
      rw [hl1] at this
      exact this
    · have := hask2 U (if cap = cnt then some ⟨b, off, none⟩ else some ⟨b, off + cnt * 8, none⟩) (cap - cnt) (kids.drop cnt) (hbV U hU) (hT.below hU (Nat.le_refl _)) (by
        by_cases hcc : cap = cnt
        · rw [if_pos hcc]
          have : kids.drop cnt = [] := List.drop_of_length_le (by have := hk.hcap; omega)
          rw [this]
          exact Kl.empty (by simp)
        · rw [if_neg hcc]
          exact (hk.drop cnt hle).under hU) (fun i t hi => hs _ t (by rw [List.getElem?_drop] at hi; exact hi))
      rw [hl2] at this
      exact this
  · rw [show ptyp cnt kids = false by unfold ptyp; rw [decide_eq_false hle, Bool.false_and]]
    exact ptyped1_short ad cap kids.length cnt hk.hlen hle h9 W.heap.size w2.heap.size (w2.heap.size + 1) c0

end Go.Proofs.YtmoeibhenihhfaaGreatDoor

/- The contracts of the reference's own Parts, Full. -/
namespace Go.Proofs.YtmoeibhenihhfaaGreatDoor
open Go.RowKit
set_option linter.unusedVariables false
set_option linter.unusedSimpArgs false

theorem lpc_more (s : List Int) (f i : Nat) (h : f ≤ i) (hi : i < s.length) : lpc s f (i + 1) = lpc s f i ++ [s.getD i 0] := by
  unfold lpc
  rw [List.take_add_one, List.getElem?_eq_getElem hi, List.drop_append_of_le_length (by simp; omega)]
  simp [List.getD, hi]

theorem lpc_none (s : List Int) (i : Nat) : lpc s i i = [] := by unfold lpc; simp

theorem lpc_bd (s : List Int) (i k : Nat) (h : byts s) : byts (lpc s i k) := fun c hc => h c (List.mem_of_mem_take (List.mem_of_mem_drop hc))

theorem run_piece (s : List Int) (i k : Nat) (h1 : i ≤ k) (h2 : k ≤ s.length) : ∀ W, (Instr.slice 9 (.string (strOfNums s)) (some (.int .i64 (i : Int))) (some (.int .i64 (k : Int))) none).run Tryz.prog W = .ok (.string (strOfNums (lpc s i k))) W := fun W => by
  rw [run_cut (strOfNums s) i k _ _ rfl rfl h1 (by rw [strOfNums_size]; exact h2) W, str_cut]
  unfold lpc
  rw [List.drop_take]

theorem nsp_len : ∀ (s cur : List Int), (nsp cur s).length ≤ s.length + 1
  | [], cur => by simp [nsp]
  | c :: r, cur => by
    rw [nsp]
    split
    · have := nsp_len r []; simp only [List.length_cons]; omega
    · have := nsp_len r (cur ++ [c]); simp only [List.length_cons]; omega

theorem nsp_each : ∀ (s cur z : List Int), z ∈ nsp cur s → z.length ≤ cur.length + s.length
  | [], cur, z, h => by
    simp only [nsp, List.mem_cons, List.not_mem_nil, or_false] at h
    subst h; simp
  | c :: r, cur, z, h => by
    rw [nsp] at h
    by_cases k : c = 46
    · rw [if_pos k] at h
      rcases List.mem_cons.1 h with h | h
      · subst h; omega
      · have := nsp_each r [] z h; simp only [List.length_nil, List.length_cons] at this ⊢; omega
    · rw [if_neg k] at h
      have := nsp_each r (cur ++ [c]) z h
      simp only [List.length_append, List.length_cons, List.length_nil] at this ⊢
      omega

end Go.Proofs.YtmoeibhenihhfaaGreatDoor

/- The contracts of the reference's own Word, Keyword. -/
namespace Go.Proofs.YtmoeibhenihhfaaGreatDoor
open Go.RowKit
set_option linter.unusedVariables false
set_option linter.unusedSimpArgs false

/-- The words of the plain types, each at its type's number. -/
def nwords : List (List Int) := [[], [100, 111, 117, 98, 108, 101], [102, 108, 111, 97, 116], [105, 110, 116, 54, 52], [117, 105, 110, 116, 54, 52], [105, 110, 116, 51, 50], [102, 105, 120, 101, 100, 54, 52], [102, 105, 120, 101, 100, 51, 50], [98, 111, 111, 108], [115, 116, 114, 105, 110, 103], [], [], [98, 121, 116, 101, 115], [117, 105, 110, 116, 51, 50], [], [115, 102, 105, 120, 101, 100, 51, 50], [115, 102, 105, 120, 101, 100, 54, 52], [115, 105, 110, 116, 51, 50], [115, 105, 110, 116, 54, 52]]

/-- The other words with a meaning. -/
def nkeys : List (List Int) := [[109, 101, 115, 115, 97, 103, 101], [101, 110, 117, 109], [101, 120, 116, 101, 110, 100], [101, 120, 116, 101, 110, 115, 105, 111, 110, 115], [111, 112, 116, 105, 111, 110], [111, 110, 101, 111, 102], [109, 97, 112], [114, 101, 115, 101, 114, 118, 101, 100], [111, 112, 116, 105, 111, 110, 97, 108], [114, 101, 113, 117, 105, 114, 101, 100], [114, 101, 112, 101, 97, 116, 101, 100], [114, 112, 99], [115, 101, 114, 118, 105, 99, 101], [105, 109, 112, 111, 114, 116], [112, 97, 99, 107, 97, 103, 101], [115, 121, 110, 116, 97, 120], [115, 116, 114, 101, 97, 109], [114, 101, 116, 117, 114, 110, 115], [116, 111], [109, 97, 120], [112, 117, 98, 108, 105, 99]]

def nwf (s : List Int) : List (List Int) → Nat → Nat
  | [], _ => 0
  | z :: r, k => if z ≠ [] ∧ z = s then k else nwf s r (k + 1)

/-- The type of a plain type's word; 0: none. -/
def nword (s : List Int) : Nat := nwf s nwords 0

def nkey (s : List Int) : Bool := decide (s ∈ nkeys) || decide (nword s ≠ 0)

theorem nwords_bd : ∀ z ∈ nwords, byts z := by unfold byts; decide

theorem nkeys_bd : ∀ z ∈ nkeys, byts z := by unfold byts; decide

theorem lit_cell (W : World) (C : Array Value) (zs : List (List Int)) (hC : C.toList = zs.map scell) (k : Nat) (z : List Int) (hz : zs[k]? = some z) : (W.alloc (.cells C 9)).cell? ⟨W.heap.size, k, none⟩ = some (.string (strOfNums z)) := by
  rw [World.cell?_alloc_new, ← Array.getElem?_toList, hC, List.getElem?_map, hz]
  rfl

end Go.Proofs.YtmoeibhenihhfaaGreatDoor

/- The contracts of the reference's own Same, Synthetic. -/
namespace Go.Proofs.YtmoeibhenihhfaaGreatDoor
open Go.RowKit
set_option linter.unusedVariables false
set_option linter.unusedSimpArgs false

theorem nsyn_len (t : List (List Int)) : ∀ (f : Nat) (s : List Int), (nsyn t f s).length ≤ s.length + f
  | 0, s => by simp [nsyn]
  | f + 1, s => by
    rw [nsyn]
    split
    · have := nsyn_len t f (88 :: s); simp only [List.length_cons] at this; omega
    · have := nsyn_len t f s; omega

theorem nsyn_bd (t : List (List Int)) : ∀ (f : Nat) (s : List Int), byts s → byts (nsyn t f s)
  | 0, s, h => h
  | f + 1, s, h => by
    rw [nsyn]
    refine nsyn_bd t f _ ?_
    split
    · intro c hc
      rcases List.mem_cons.1 hc with rfl | hc
      · omega
      · exact h c hc
    · exact h

end Go.Proofs.YtmoeibhenihhfaaGreatDoor

/- The contract of the reference's own Places. -/
namespace Go.Proofs.YtmoeibhenihhfaaGreatDoor
open Go.RowKit
set_option linter.unusedVariables false
set_option linter.unusedSimpArgs false

def txtLen : Value → Nat
  | .string s => s.size
  | _ => 0

theorem njoin_len (a b : List Int) : (njoin a b).length ≤ a.length + b.length + 1 := by
  unfold njoin
  split
  · omega
  · simp; omega

theorem njoin_bd (a b : List Int) (ha : byts a) (hb : byts b) : byts (njoin a b) := by
  unfold njoin
  split
  · exact hb
  · intro c hc
    simp only [List.mem_append, List.mem_cons, List.not_mem_nil, or_false] at hc
    rcases hc with (hc | rfl) | hc
    · exact ha c hc
    · omega
    · exact hb c hc

theorem nparent_bd (s : List Int) (h : byts s) : byts (nparent s).1 ∧ byts (nparent s).2 := by
  unfold nparent
  split
  · exact ⟨fun c hc => by simp at hc, h⟩
  · exact ⟨fun c hc => h c (List.mem_of_mem_take hc), fun c hc => h c (List.mem_of_mem_drop hc)⟩

theorem nplc_more (name scope : List Int) (h : scope ≠ []) : nplc name scope.length scope = njoin scope name :: nplc name (nparent scope).1.length (nparent scope).1 := by
  have hl := nparent_lt scope h
  obtain ⟨m, hm⟩ : ∃ m, scope.length = m + 1 := ⟨scope.length - 1, by omega⟩
  rw [hm, nplc, if_neg h, nplc_fuel name m (nparent scope).1.length _ (by omega) (Nat.le_refl _)]

end Go.Proofs.YtmoeibhenihhfaaGreatDoor

/- The program's own layer 6: which signs a text has when it is ranged over; small, letter, digit, run, Ident. -/
namespace Go.Proofs.YtmoeibhenihhfaaGreatDoor
open Go.RowKit
set_option linter.unusedVariables false
set_option linter.unusedSimpArgs false

def NTab (_ : World) : Prop := True

theorem NTab.below {w w' : World} (h : NTab w) {B : Nat} (hb : Below B w w') (hB : w.heap.size ≤ B) : NTab w' := trivial

/-- A sign beyond the plain ones takes up bytes that are all beyond 127. -/
theorem dec_wide (S : ByteArray) (p : Nat) (h : p < S.size) (ha : 128 ≤ (S.get! (p + 0)).toNat) : p + (Utf8.decode S p).2 ≤ S.size ∧ ∀ j, j < (Utf8.decode S p).2 → 128 ≤ (S.get! (p + j)).toNat := by
  have one : ∀ j, j < 1 → 128 ≤ (S.get! (p + j)).toNat := fun j hj => by rw [show j = 0 by omega]; exact ha
  have hn : ¬ (S.get! (p + 0)).toNat < 128 := by omega
  simp only [Utf8.decode, hn, if_false]
  split
  · rename_i h1
    simp only [Bool.and_eq_true, decide_eq_true_eq, beq_iff_eq] at h1
    split
    · refine ⟨by show p + 2 ≤ _; omega, fun j hj => ?_⟩
      have hj : j < 2 := hj
      rcases (show j = 0 ∨ j = 1 by omega) with rfl | rfl <;> omega
    · exact ⟨by show p + 1 ≤ _; omega, one⟩
  · split
    · rename_i h1
      simp only [Bool.and_eq_true, decide_eq_true_eq, beq_iff_eq] at h1
      split
      · refine ⟨by show p + 3 ≤ _; omega, fun j hj => ?_⟩
        have hj : j < 3 := hj
        rcases (show j = 0 ∨ j = 1 ∨ j = 2 by omega) with rfl | rfl | rfl <;> omega
      · exact ⟨by show p + 1 ≤ _; omega, one⟩
    · split
      · rename_i h1
        simp only [Bool.and_eq_true, decide_eq_true_eq, beq_iff_eq] at h1
        split
        · refine ⟨by show p + 4 ≤ _; omega, fun j hj => ?_⟩
          have hj : j < 4 := hj
          rcases (show j = 0 ∨ j = 1 ∨ j = 2 ∨ j = 3 by omega) with rfl | rfl | rfl | rfl <;> omega
        · exact ⟨by show p + 1 ≤ _; omega, one⟩
      · exact ⟨by show p + 1 ≤ _; omega, one⟩

/-- The sign at place k of a text, and how many bytes it takes. -/
theorem dec_at (s : List Int) (hz : ∀ i, 0 ≤ s.getD i 0 ∧ s.getD i 0 ≤ 255) (k : Nat) (hk : k < s.length) :
    (s.getD k 0 < 128 ∧ ((Utf8.decode (strOfNums s) k).1 : Int) = s.getD k 0 ∧ (Utf8.decode (strOfNums s) k).2 = 1) ∨
    (128 ≤ s.getD k 0 ∧ 128 ≤ ((Utf8.decode (strOfNums s) k).1 : Int) ∧ ((Utf8.decode (strOfNums s) k).1 : Int) ≤ 2147483647 ∧ 1 ≤ (Utf8.decode (strOfNums s) k).2 ∧ k + (Utf8.decode (strOfNums s) k).2 ≤ s.length ∧ ∀ j, k ≤ j → j < k + (Utf8.decode (strOfNums s) k).2 → 128 ≤ s.getD j 0) := by
  have hsz := strOfNums_size s
  have hk' : k < (strOfNums s).size := by rw [hsz]; exact hk
  have hat := str_at s hz k hk'
  by_cases ha : ((strOfNums s)[k]'hk').toNat < 128
  · left
    rw [decode_ascii _ k hk' ha]
    exact ⟨by omega, hat, rfl⟩
  · right
    obtain ⟨h1, h2⟩ := decode_high _ k hk' (by omega)
    have h3 := decode_le (strOfNums s) k
    obtain ⟨h4, h5⟩ := dec_wide _ k hk' (by rw [get_at _ k hk']; omega)
    rw [hsz] at h4
    refine ⟨by omega, by omega, by omega, h2, h4, fun j hj1 hj2 => ?_⟩
    have := h5 (j - k) (by omega)
    rw [show k + (j - k) = j by omega] at this
    have hj' : j < (strOfNums s).size := by omega
    have e := get_at (strOfNums s) j hj'
    rw [Nat.add_zero] at e
    rw [e] at this
    have := str_at s hz j hj'
    omega

def nlet (c : Int) : Bool := decide ((97 ≤ c ∧ c ≤ 122) ∨ (65 ≤ c ∧ c ≤ 90) ∨ c = 95)

def nok (s : List Int) (i : Nat) : Bool := nlet (s.getD i 0) || (lnumb (s.getD i 0) && decide (0 < i))

theorem nident_nok (s : List Int) (h1 : 1 ≤ s.length) (h2 : s.length ≤ 200) : nident s = decide (∀ i, i < s.length → nok s i = true) := by
  rw [Bool.eq_iff_iff, decide_eq_true_eq]
  unfold nident
  simp only [Bool.and_eq_true, List.all_eq_true, decide_eq_true_eq, Bool.not_eq_true']
  constructor
  · rintro ⟨⟨ha, _⟩, hb⟩ i hi
    have := ha (s.getD i 0) (by rw [show s.getD i 0 = s[i] by simp [List.getD, hi]]; exact List.getElem_mem hi)
    unfold lletter at this
    unfold nok nlet lnumb
    simp only [decide_eq_true_eq] at this
    simp only [Bool.or_eq_true, Bool.and_eq_true, decide_eq_true_eq]
    by_cases h0 : i = 0
    · subst h0
      unfold lnumb at hb
      rw [decide_eq_false_iff_not] at hb
      omega
    · omega
  · intro h
    refine ⟨⟨fun c hc => ?_, ⟨h1, h2⟩⟩, ?_⟩
    · obtain ⟨i, hi, rfl⟩ := List.getElem_of_mem hc
      have := h i hi
      rw [show s[i] = s.getD i 0 by simp [List.getD, hi]]
      unfold nok nlet lnumb at this
      unfold lletter
      simp only [Bool.or_eq_true, Bool.and_eq_true, decide_eq_true_eq] at this ⊢
      omega
    · have := h 0 (by omega)
      unfold nok nlet at this
      unfold lnumb at this ⊢
      rw [decide_eq_false_iff_not]
      simp only [Bool.or_eq_true, Bool.and_eq_true, decide_eq_true_eq] at this
      omega

def nsml (c : Int) : Bool := decide (97 ≤ c ∧ c ≤ 122)

set_option maxHeartbeats 1000000 in
theorem psmall_any (c : Int) (w : World) (h0 : 0 ≤ c) (h1 : c ≤ 2147483647) :
    Calls Tryz.prog 83 #[.int .i32 c] w fun e w' => e = .returned (.bool (nsml c)) ∧ w = w' := by
  rcases (show (97 ≤ c ∧ c ≤ 122) ∨ (c < 97) ∨ (122 < c) by omega) with h | h | h
  · have E : Hid (nsml c = true) := decide_eq_true (by omega)
    obtain ⟨p1, p2⟩ := h
    go_enter Tryz.func83, Tryz.ntmps83
    go_wp2
    go_ret
    exact ⟨by rw [E.out]; first | rfl | exact ret_bool (by simp; omega), rfl⟩
  · have E : Hid (nsml c = false) := decide_eq_false (by omega)
    go_enter Tryz.func83, Tryz.ntmps83
    go_wp2
    go_ret
    exact ⟨by rw [E.out]; first | rfl | exact ret_bool (by simp; omega), rfl⟩
  · have E : Hid (nsml c = false) := decide_eq_false (by omega)
    have p1 : 97 ≤ c := by omega
    go_enter Tryz.func83, Tryz.ntmps83
    go_wp2
    go_ret
    exact ⟨by rw [E.out]; first | rfl | exact ret_bool (by simp; omega), rfl⟩

set_option maxHeartbeats 1000000 in
theorem pndigit_any (c : Int) (w : World) (h0 : 0 ≤ c) (h1 : c ≤ 2147483647) :
    Calls Tryz.prog 73 #[.int .i32 c] w fun e w' => e = .returned (.bool (lnumb c)) ∧ w = w' := by
  rcases (show (48 ≤ c ∧ c ≤ 57) ∨ (c < 48) ∨ (57 < c) by omega) with h | h | h
  · have E : Hid (lnumb c = true) := decide_eq_true (by omega)
    obtain ⟨p1, p2⟩ := h
    go_enter Tryz.func73, Tryz.ntmps73
    go_wp2
    go_ret
    exact ⟨by rw [E.out]; first | rfl | exact ret_bool (by simp; omega), rfl⟩
  · have E : Hid (lnumb c = false) := decide_eq_false (by omega)
    go_enter Tryz.func73, Tryz.ntmps73
    go_wp2
    go_ret
    exact ⟨by rw [E.out]; first | rfl | exact ret_bool (by simp; omega), rfl⟩
  · have E : Hid (lnumb c = false) := decide_eq_false (by omega)
    have p1 : 48 ≤ c := by omega
    go_enter Tryz.func73, Tryz.ntmps73
    go_wp2
    go_ret
    exact ⟨by rw [E.out]; first | rfl | exact ret_bool (by simp; omega), rfl⟩

set_option maxHeartbeats 1000000 in
theorem pnlet_any (c : Int) (w : World) (h0 : 0 ≤ c) (h1 : c ≤ 2147483647) :
    Calls Tryz.prog 72 #[.int .i32 c] w fun e w' => e = .returned (.bool (nlet c)) ∧ w = w' := by
  by_cases k95 : c = 95
  · have E : Hid (nlet c = true) := decide_eq_true (by omega)
    subst k95
    go_enter Tryz.func72, Tryz.ntmps72
    go_wp2
    go_ret
    exact ⟨by rw [E.out]; first | rfl | exact ret_bool (by simp; omega), rfl⟩
  have e95 : (c == 95) = false := by simpa using k95
  have q := fun W => psmall_any c W h0 h1
  rcases (show (97 ≤ c ∧ c ≤ 122) ∨ (65 ≤ c ∧ c ≤ 90) ∨ (c < 65) ∨ (90 < c ∧ c < 97) ∨ (122 < c) by omega) with h | h | h | h | h
  · have E : Hid (nlet c = true) := decide_eq_true (by omega)
    rw [show nsml c = true from decide_eq_true h] at q
    have Q : Hid _ := q
    clear q h k95
    go_enter Tryz.func72, Tryz.ntmps72
    go_wp2_with fail
    refine Calls.mono (Q.out _) ?_
    rintro e w1 ⟨rfl, rfl⟩
    go_wp2
    go_ret
    exact ⟨by rw [E.out]; first | rfl | exact ret_bool (by simp; omega), rfl⟩
  · have E : Hid (nlet c = true) := decide_eq_true (by omega)
    rw [show nsml c = false from decide_eq_false (by omega)] at q
    obtain ⟨p1, p2⟩ := h
    have Q : Hid _ := q
    clear q k95
    go_enter Tryz.func72, Tryz.ntmps72
    go_wp2_with fail
    refine Calls.mono (Q.out _) ?_
    rintro e w1 ⟨rfl, rfl⟩
    go_wp2
    go_ret
    exact ⟨by rw [E.out]; first | rfl | exact ret_bool (by simp; omega), rfl⟩
  · have E : Hid (nlet c = false) := decide_eq_false (by omega)
    rw [show nsml c = false from decide_eq_false (by omega)] at q
    have Q : Hid _ := q
    clear q k95
    go_enter Tryz.func72, Tryz.ntmps72
    go_wp2_with fail
    refine Calls.mono (Q.out _) ?_
    rintro e w1 ⟨rfl, rfl⟩
    go_wp2
    go_ret
    exact ⟨by rw [E.out]; first | rfl | exact ret_bool (by simp; omega), rfl⟩
  · have E : Hid (nlet c = false) := decide_eq_false (by omega)
    rw [show nsml c = false from decide_eq_false (by omega)] at q
    have p1 : 65 ≤ c := by omega
    have p2 : 90 < c := h.1
    have Q : Hid _ := q
    clear q k95 h
    go_enter Tryz.func72, Tryz.ntmps72
    go_wp2_with fail
    refine Calls.mono (Q.out _) ?_
    rintro e w1 ⟨rfl, rfl⟩
    go_wp2
    go_ret
    exact ⟨by rw [E.out]; first | rfl | exact ret_bool (by simp; omega), rfl⟩
  · have E : Hid (nlet c = false) := decide_eq_false (by omega)
    rw [show nsml c = false from decide_eq_false (by omega)] at q
    have p1 : 65 ≤ c := by omega
    have p2 : 90 < c := by omega
    have Q : Hid _ := q
    clear q k95 h
    go_enter Tryz.func72, Tryz.ntmps72
    go_wp2_with fail
    refine Calls.mono (Q.out _) ?_
    rintro e w1 ⟨rfl, rfl⟩
    go_wp2
    go_ret
    exact ⟨by rw [E.out]; first | rfl | exact ret_bool (by simp; omega), rfl⟩

end Go.Proofs.YtmoeibhenihhfaaGreatDoor
