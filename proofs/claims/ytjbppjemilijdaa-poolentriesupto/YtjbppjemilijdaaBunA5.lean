/- Put together by a program out of these texts of mine: WTk2, WTk3, RdMath, YRs, YRd, WFl. -/
import Derived.Deep.Cut
import Derived.Maps.AppendAt
import Derived.RangeFuncNested
import Derived.RangeFuncBox
import Derived.RangeFuncBound
import Derived.RangeFuncCalls
import Derived.RangeFuncLeaves
import Derived.Shelf.Abstract
import Derived.Shelf.RegionOpen
import Derived.WalkKit
import Derived.OwnWalkIn
import Derived.TacticsInMore
import Derived.LoopNIn
import Derived.LoopIn
import Derived.Test.YtjbppjemilijdaaBunA2
import Derived.Test.YtjbppjemilijdaaBunA3
import Derived.Test.YtjbppjemilijdaaBunA4

/- The program's own wire.Take. -/
namespace Go.Proofs.Ytjbppjemilijdaa
open Go.RowKit
set_option linter.unusedVariables false
set_option linter.unusedSimpArgs false

theorem pwo_any (u kd : Int) (hkd : kindOk kd = true) (a : Option Addr) (len cap : Nat) (zs : List Int) (w : World) (hbs : Hid (Bs w a len cap zs)) (HL : Hid (len ≤ 2000000)) :
    Calls Try.prog 51 #[.agg #[.int .i64 u, .int .i64 kd, .int .u64 0, .slice none 0 0], .slice a len cap] w fun e w' => ∃ a3 n3 c3, e = woEnd u kd (wwo kd zs) (.slice a3 n3 c3) ∧ Below w.heap.size w w' := by
  have up : ∀ {e : Ending} {w' : World}, e = woEnd u kd (wwo kd zs) (.slice none 0 0) ∧ Below w.heap.size w w' → ∃ a3 n3 c3, e = woEnd u kd (wwo kd zs) (.slice a3 n3 c3) ∧ Below w.heap.size w w' := fun h => ⟨none, 0, 0, h.1, h.2⟩
  have hz := hbs.out.1
  have hlc := hbs.out.2.2.2.1
  rcases kind_cases hkd with rfl | rfl | rfl | rfl
  · rcases tk_ways zs hbs.out.mem with h | ⟨x, k, h, t0, t1, m0, m1, m2⟩
    · exact (pw0_none u a len cap zs w hbs h).mono fun _ _ h => up h
    · exact (pw0_ok u a len cap zs w hbs x k h).mono fun _ _ h => up h
  · by_cases h : len < 8
    · exact (pw1_short u a len cap zs w hbs h).mono fun _ _ h => up h
    · exact (pw1_ok u a len cap zs w hbs (by omega)).mono fun _ _ h => up h
  · rcases tk_ways zs hbs.out.mem with h | ⟨x, k, h, t0, t1, m0, m1, m2⟩
    · exact (pw2_none u a len cap zs w hbs h).mono fun _ _ h => up h
    · by_cases hx : (len : Int) - (k : Int) < x
      · exact (pw2_short u a len cap zs w hbs x k h (by omega) hx).mono fun _ _ h => up h
      · obtain ⟨X, rfl⟩ : ∃ X : Nat, x = (X : Int) := ⟨x.toNat, by omega⟩
        obtain ⟨b, off, rfl, _, _⟩ := hbs.out.2.2.2.2.2 (by omega)
        by_cases hc : k < cap
        · exact pw2_in u b off len cap zs w hbs X k h (by omega) (by omega) hc HL
        · have e1 : len = k := by omega
          have e2 : cap = k := by omega
          have e3 : X = 0 := by omega
          subst e3
          rw [e1, e2] at hbs ⊢
          exact pw2_edge u b off k zs w hbs h (by rw [e1] at HL; exact HL)
  · by_cases h : len < 4
    · exact (pw5_short u a len cap zs w hbs h).mono fun _ _ h => up h
    · exact (pw5_ok u a len cap zs w hbs (by omega)).mono fun _ _ h => up h

theorem wtake_tag (zs : List Int) (h : ¬ (wtag zs).2.2.2 = 0) : wtake zs = .no (wtag zs).2.2.2 := by
  unfold wtake wtag at *
  split
  · rename_i h1
    simp only [h1, if_true] at h ⊢
    split
    · rename_i h2
      simp [h2] at h
    · rfl
  · rename_i h1
    simp only [h1, if_false] at h ⊢

theorem wtake_worth (zs : List Int) (hb : ∀ c ∈ zs, 0 ≤ c ∧ c ≤ 255) (h : (wtag zs).2.2.2 = 0) : kindOk (wtag zs).2.1 = true ∧ ∃ m : Nat, (wtag zs).2.2.1 = (m : Int) ∧ 0 < m ∧ m ≤ zs.length ∧
    (wtake zs).err = (wwo (wtag zs).2.1 (zs.drop m)).2.2 ∧ ((wwo (wtag zs).2.1 (zs.drop m)).2.2 = 0 → (wtake zs).num = (wtag zs).1 ∧ (wtake zs).kind = (wtag zs).2.1 ∧ (wtake zs).n = (wwo (wtag zs).2.1 (zs.drop m)).1 ∧ (wtake zs).used = (m : Int) + (wwo (wtag zs).2.1 (zs.drop m)).2.1) ∧
    (¬ (wwo (wtag zs).2.1 (zs.drop m)).2.2 = 0 → wtake zs = .no (wwo (wtag zs).2.1 (zs.drop m)).2.2) := by
  rcases tk_ways zs hb with h' | ⟨tag, m, h', t0, t1, m0, m1, m2⟩
  · exfalso; unfold wtag at h; rw [h'] at h; simp at h
  cases hok : tagOk tag with
  | false => exfalso; unfold wtag at h; rw [h'] at h; simp [hok] at h
  | true =>
    have e : wtag zs = (tag / 8, tag % 8, (m : Int), 0) := by unfold wtag; rw [h']; simp [hok]
    have e2 : wtake zs = wworth tag m (zs.drop m) := by unfold wtake; rw [h']; simp [hok]
    have hk : kindOk (tag % 8) = true := by
      simp only [tagOk, Bool.and_eq_true] at hok
      exact hok.2
    rw [e, e2]
    refine ⟨hk, m, rfl, m0, m1, ?_⟩
    simp only
    generalize zs.drop m = r
    rcases kind_cases hk with e3 | e3 | e3 | e3 <;> rw [e3] <;> unfold wworth wwo <;> rw [e3] <;> (try dsimp only) <;> (repeat' split) <;> simp_all [Tkn.no] <;> (try omega)

theorem tagEnd_no (zs : List Int) (h : ¬ (wtag zs).2.2.2 = 0) : wtag zs = (0, 0, 0, (wtag zs).2.2.2) := by
  unfold wtag at *
  repeat' split at h
  all_goals simp_all

set_option maxHeartbeats 1000000 in
theorem pwt_no (a : Option Addr) (len cap : Nat) (zs : List Int) (w : World) (hbs : Hid (Bs w a len cap zs)) (er : Int) (her : (er != 0) = true) (HE : Hid (wtag zs = (0, 0, 0, er))) :
    Calls Try.prog 30 #[.slice a len cap] w fun e w' => e = fldEnd (.no er) none 0 0 ∧ Below w.heap.size w w' := by
  have q := fun o => ptag_any a len cap zs _ (show Hid _ from hbs.out.below ((Below.refl _ _).alloc (Nat.le_refl _) o) (Nat.le_refl _))
  rw [HE.out] at q
  have Q : Hid _ := q
  clear q
  go_enter Try.func30, Try.ntmps30
  go_wp2_with fail
  refine Calls.mono (Q.out _) ?_
  rintro e w' ⟨rfl, hb⟩
  rw [show tagEnd (0, 0, 0, er) = .returned (.tuple #[.agg #[.int .i64 0, .int .i64 0, .int .u64 0, .slice none 0 0], .int .i64 0, .int .i64 er]) from rfl]
  have e2 := (heap_alloc_new w (.cells #[.int .i64 0, .int .i64 0, .int .u64 0, .slice none 0 0] 52))
  rw [← hb.block _ (by simp)] at e2
  obtain ⟨s0, s1, s2, s3, f0⟩ := block_cells e2
  have hs1 : w.heap.size < w'.heap.size := by have := hb.size; simp at this; omega
  have HB : Hid (Below w.heap.size w w') := ((Below.refl _ _).alloc (Nat.le_refl _) _).trans (hb.mono (by simp))
  clear hb e2
  go_wp2
  refine bodyPost_ret (v := .tuple #[.agg #[.int .i64 0, .int .i64 0, .int .u64 0, .slice none 0 0], .int .i64 0, .int .i64 er]) (by simp [results, Try.results30, go_sem, s0, s1, s2, s3, hs1]) rfl ⟨rfl, ?_⟩
  exact ((((HB.out.setCell (Nat.le_refl _) _).setCell (Nat.le_refl _) _).setCell (Nat.le_refl _) _).setCell (Nat.le_refl _) _).alloc (by simp; omega) _

/-- What Take keeps in its two boxes. -/
theorem tk_boxes {w w' : World} {u kd : Int} (hb : Below (w.alloc (.cells #[.int .i64 0, .int .i64 0, .int .u64 0, .slice none 0 0] 52)).heap.size (w.alloc (.cells #[.int .i64 0, .int .i64 0, .int .u64 0, .slice none 0 0] 52)) w') :
    ∃ W : World, w'.alloc (.cells #[.int .i64 u, .int .i64 kd, .int .u64 0, .slice none 0 0] 52) = W ∧ W.heap[w.heap.size]? = some (.cells #[.int .i64 0, .int .i64 0, .int .u64 0, .slice none 0 0] 52) ∧
      W.heap[w'.heap.size]? = some (.cells #[.int .i64 u, .int .i64 kd, .int .u64 0, .slice none 0 0] 52) ∧ Below w.heap.size w W ∧ w.heap.size < w'.heap.size ∧ w'.heap.size < W.heap.size := by
  have hs1 : w.heap.size < w'.heap.size := by have := hb.size; simp at this; omega
  refine ⟨_, rfl, ?_, heap_alloc_new _ _, (((Below.refl _ _).alloc (Nat.le_refl _) _).trans (hb.mono (by simp))).alloc (Nat.le_of_lt hs1) _, hs1, by simp⟩
  rw [Below.heap_alloc _ _ _ hs1, hb.block _ (by simp)]
  exact heap_alloc_new _ _

set_option maxRecDepth 100000 in
set_option maxHeartbeats 2000000 in
theorem pwt_ok (b off len cap : Nat) (zs : List Int) (w : World) (hbs : Hid (Bs w (some ⟨b, off, none⟩) len cap zs)) (HL : Hid (len ≤ 2000000)) (u kd : Int) (hkd : Hid (kindOk kd = true)) (m : Nat) (hm : m ≤ len) (HE : Hid (wtag zs = (u, kd, (m : Int), 0))) (A : Option Addr) (HA : Hid (A = if cap = m then some ⟨b, off, none⟩ else some ⟨b, off + m, none⟩)) (hsl : ∀ w, (Instr.slice 28 (.slice (some ⟨b, off, none⟩) len cap) (some (.int .i64 (m : Int))) none none).run Try.prog w = .ok (.slice A (len - m) (cap - m)) w) (N U : Int) (hU : 0 ≤ U ∧ U ≤ 4000000) (hm2 : (m : Int) ≤ 2000000) (HO : Hid (wwo kd (zs.drop m) = (N, U, 0))) :
    Calls Try.prog 30 #[.slice (some ⟨b, off, none⟩) len cap] w fun e w' => ∃ a3 n3 c3, e = fldEnd ⟨u, kd, N, [], (m : Int) + U, 0⟩ a3 n3 c3 ∧ Below w.heap.size w w' := by
  have q := fun o => ptag_any (some ⟨b, off, none⟩) len cap zs _ (show Hid _ from hbs.out.below ((Below.refl _ _).alloc (Nat.le_refl _) o) (Nat.le_refl _))
  rw [HE.out] at q
  have Q : Hid _ := q
  clear q
  have hlc := hbs.out.2.2.2.1
  have R : Hid (∀ V, Below w.heap.size w V → Calls Try.prog 51 #[.agg #[.int .i64 u, .int .i64 kd, .int .u64 0, .slice none 0 0], .slice A (len - m) (cap - m)] V fun e w' => ∃ a3 n3 c3, e = woEnd u kd (N, U, 0) (.slice a3 n3 c3) ∧ Below V.heap.size V w') := fun V hV => by
    have c := hbs.out.cut m len hm (Nat.le_refl _)
    rw [List.take_of_length_le (by rw [hbs.out.1]; omega)] at c
    rw [← HO.out]
    refine pwo_any u kd hkd.out A (len - m) (cap - m) (zs.drop m) V ?_ (show len - m ≤ 2000000 by have := HL.out; omega)
    rw [HA.out]
    refine (Bs.below ?_ hV (Nat.le_refl _))
    split
    · rename_i h
      rw [if_pos h] at c
      exact c
    · rename_i h
      rw [if_neg h] at c
      have : (⟨b, off, none⟩ : Addr).add m = ⟨b, off + m, none⟩ := by unfold Addr.add; split <;> simp_all
      simpa [this] using c
  clear HA HO
  go_enter Try.func30, Try.ntmps30
  go_wp2_with fail
  refine Calls.mono (Q.out _) ?_
  rintro e w2 ⟨rfl, hb⟩
  rw [show tagEnd (u, kd, (m : Int), 0) = .returned (.tuple #[.agg #[.int .i64 u, .int .i64 kd, .int .u64 0, .slice none 0 0], .int .i64 (m : Int), .int .i64 0]) from rfl]
  obtain ⟨W, hW, k0, k1, kb, ks, kt⟩ := tk_boxes (u := u) (kd := kd) hb
  clear hb Q
  have K0 : Hid _ := k0
  have K1 : Hid _ := k1
  have KB : Hid _ := kb
  have HW : Hid _ := hW
  clear k0 k1 kb hW
  go_upto_region 4 with fail
  rw [HW.out]
  clear HW
  obtain ⟨d0, d1, d2, d3, df⟩ := block_cells K1.out
  have c0 := fun x : Ext W => x.cell (p := ⟨w2.heap.size, 0, none⟩) kt d0
  have c1 := fun x : Ext W => x.cell (p := ⟨w2.heap.size, 1, none⟩) kt d1
  have c2 := fun x : Ext W => x.cell (p := ⟨w2.heap.size, 2, none⟩) kt d2
  have c3 := fun x : Ext W => x.cell (p := ⟨w2.heap.size, 3, none⟩) kt d3
  clear d0 d1 d2 d3 df
  refine wp_region_then W 4 8 rfl (Below.refl _ _) (by kernel_rfl) (by kernel_rfl) (by kernel_rfl) (by kernel_rfl) ?_
  simp only [List.take]
  repeat (go_big_quiet_step (fail))
  refine wpQuiet_nil ?_
  rintro w3 ⟨⟨_, hb3⟩, rfl⟩
  have R3 : Hid _ := R.out w3 (KB.out.trans (hb3.mono (by have := KB.out.size; omega)))
  have K03 : Hid _ := (hb3.block _ (by omega)).trans K0.out
  have K13 : Hid _ := (hb3.block _ kt).trans K1.out
  have KB3 : Hid _ := KB.out.trans (hb3.mono KB.out.size)
  have hs3 : w2.heap.size < w3.heap.size := by have := hb3.size; omega
  clear hb3 K0 K1 KB R c0 c1 c2 c3
  refine wpAny_force (i := 4) (by kernel_rfl) rfl ?_
  intro Q' hQ' hPn
  have HQ : Hid _ := hQ'
  clear hQ' hPn
  go_wp2_with fail
  refine Calls.mono R3.out ?_
  rintro e w4 ⟨a3, n3, c3, rfl, hb4⟩
  rw [show woEnd u kd (N, U, 0) (.slice a3 n3 c3) = .returned (.tuple #[.agg #[.int .i64 u, .int .i64 kd, .int .u64 N, .slice a3 n3 c3], .int .i64 U, .int .i64 0]) from by unfold woEnd; simp]
  have K04 : Hid _ := (hb4.block _ (by omega)).trans K03.out
  have K14 : Hid _ := (hb4.block _ (by omega)).trans K13.out
  have KB4 : Hid (Below w.heap.size w w4) := KB3.out.trans (hb4.mono (by have := KB3.out.size; omega))
  have hs4 : w2.heap.size < w4.heap.size := by have := hb4.size; omega
  clear hb4 K03 K13 KB3 R3 hs3
  obtain ⟨s0, s1, s2, s3, sf⟩ := block_cells K04.out
  obtain ⟨r0, r1, r2, r3, rf⟩ := block_cells K14.out
  have hne : ¬ w2.heap.size = w.heap.size := by omega
  have hne' : ¬ w.heap.size = w2.heap.size := by omega
  go_wp2
  refine HQ.out _ _ ?_
  clear HQ
  refine wpAny_take (i := 5) (v := ?_) rfl (by kernel_rfl) (by kernel_rfl) (by kernel_rfl) (fun _ _ _ h => h) (Or.inl ⟨by rfl, ?_⟩) ?_
  rotate_left
  · intro w
    go_simp
    try with_reducible rfl
  refine wpAny_take (i := 6) (v := ?_) rfl (by kernel_rfl) (by kernel_rfl) (by kernel_rfl) (fun _ _ _ h => h) (Or.inl ⟨by rfl, ?_⟩) ?_
  rotate_left
  · intro w
    go_simp
    try with_reducible rfl
  refine wpAny_take (i := 7) (v := ?_) rfl (by kernel_rfl) (by kernel_rfl) (by kernel_rfl) (fun _ _ _ h => h) (Or.inl ⟨by rfl, ?_⟩) ?_
  rotate_left
  · intro w
    go_simp
    try with_reducible rfl
  refine wpAny_take (i := 8) (v := ?_) rfl (by kernel_rfl) (by kernel_rfl) (by kernel_rfl) (fun _ _ _ h => h) (Or.inl ⟨by rfl, ?_⟩) ?_
  rotate_left
  · intro w
    go_simp
    try with_reducible rfl
  refine wpAny_force (i := 9) (by kernel_rfl) rfl ?_
  intro Q' hQ' hPn
  have HQ : Hid _ := hQ'
  clear hQ' hPn
  go_wp2
  refine HQ.out _ _ ?_
  clear HQ
  refine wpAny_force (i := 10) (by kernel_rfl) rfl ?_
  intro Q' hQ' hPn
  have HQ : Hid _ := hQ'
  clear hQ' hPn
  go_wp2
  refine HQ.out _ _ ?_
  clear HQ
  refine wpAny_force (i := 11) (by kernel_rfl) rfl ?_
  intro Q' hQ' hPn
  have HQ : Hid _ := hQ'
  clear hQ' hPn
  go_wp2
  refine HQ.out _ _ ?_
  clear HQ
  refine wpAny_end (by kernel_rfl) ?_
  go_wp2
  refine bodyPost_ret (v := .tuple #[.agg #[.int .i64 u, .int .i64 kd, .int .u64 N, .slice a3 n3 c3], .int .i64 ((m : Int) + U), .int .i64 0]) (by simp [results, Try.results30, go_sem, s0, s1, s2, s3, r0, r1, r2, r3, hne, hne']) rfl ⟨a3, n3, c3, rfl, ?_⟩
  exact (((((((KB4.out.setCell (Nat.le_of_lt ks) _).setCell (Nat.le_of_lt ks) _).setCell (Nat.le_of_lt ks) _).setCell (Nat.le_of_lt ks) _).setCell (Nat.le_refl _) _).setCell (Nat.le_refl _) _).setCell (Nat.le_refl _) _).setCell (Nat.le_refl _) _

set_option maxRecDepth 100000 in
set_option maxHeartbeats 2000000 in
theorem pwt_bad (b off len cap : Nat) (zs : List Int) (w : World) (hbs : Hid (Bs w (some ⟨b, off, none⟩) len cap zs)) (HL : Hid (len ≤ 2000000)) (u kd : Int) (hkd : Hid (kindOk kd = true)) (m : Nat) (hm : m ≤ len) (HE : Hid (wtag zs = (u, kd, (m : Int), 0))) (A : Option Addr) (HA : Hid (A = if cap = m then some ⟨b, off, none⟩ else some ⟨b, off + m, none⟩)) (hsl : ∀ w, (Instr.slice 28 (.slice (some ⟨b, off, none⟩) len cap) (some (.int .i64 (m : Int))) none none).run Try.prog w = .ok (.slice A (len - m) (cap - m)) w) (N U : Int) (Er : Int) (her : (Er != 0) = true) (HO : Hid (wwo kd (zs.drop m) = (N, U, Er))) :
    Calls Try.prog 30 #[.slice (some ⟨b, off, none⟩) len cap] w fun e w' => e = fldEnd (.no Er) none 0 0 ∧ Below w.heap.size w w' := by
  have q := fun o => ptag_any (some ⟨b, off, none⟩) len cap zs _ (show Hid _ from hbs.out.below ((Below.refl _ _).alloc (Nat.le_refl _) o) (Nat.le_refl _))
  rw [HE.out] at q
  have Q : Hid _ := q
  clear q
  have hlc := hbs.out.2.2.2.1
  have R : Hid (∀ V, Below w.heap.size w V → Calls Try.prog 51 #[.agg #[.int .i64 u, .int .i64 kd, .int .u64 0, .slice none 0 0], .slice A (len - m) (cap - m)] V fun e w' => ∃ a3 n3 c3, e = woEnd u kd (N, U, Er) (.slice a3 n3 c3) ∧ Below V.heap.size V w') := fun V hV => by
    have c := hbs.out.cut m len hm (Nat.le_refl _)
    rw [List.take_of_length_le (by rw [hbs.out.1]; omega)] at c
    rw [← HO.out]
    refine pwo_any u kd hkd.out A (len - m) (cap - m) (zs.drop m) V ?_ (show len - m ≤ 2000000 by have := HL.out; omega)
    rw [HA.out]
    refine (Bs.below ?_ hV (Nat.le_refl _))
    split
    · rename_i h
      rw [if_pos h] at c
      exact c
    · rename_i h
      rw [if_neg h] at c
      have : (⟨b, off, none⟩ : Addr).add m = ⟨b, off + m, none⟩ := by unfold Addr.add; split <;> simp_all
      simpa [this] using c
  clear HA HO
  go_enter Try.func30, Try.ntmps30
  go_wp2_with fail
  refine Calls.mono (Q.out _) ?_
  rintro e w2 ⟨rfl, hb⟩
  rw [show tagEnd (u, kd, (m : Int), 0) = .returned (.tuple #[.agg #[.int .i64 u, .int .i64 kd, .int .u64 0, .slice none 0 0], .int .i64 (m : Int), .int .i64 0]) from rfl]
  obtain ⟨W, hW, k0, k1, kb, ks, kt⟩ := tk_boxes (u := u) (kd := kd) hb
  clear hb Q
  have K0 : Hid _ := k0
  have K1 : Hid _ := k1
  have KB : Hid _ := kb
  have HW : Hid _ := hW
  clear k0 k1 kb hW
  go_upto_region 4 with fail
  rw [HW.out]
  clear HW
  obtain ⟨d0, d1, d2, d3, df⟩ := block_cells K1.out
  have c0 := fun x : Ext W => x.cell (p := ⟨w2.heap.size, 0, none⟩) kt d0
  have c1 := fun x : Ext W => x.cell (p := ⟨w2.heap.size, 1, none⟩) kt d1
  have c2 := fun x : Ext W => x.cell (p := ⟨w2.heap.size, 2, none⟩) kt d2
  have c3 := fun x : Ext W => x.cell (p := ⟨w2.heap.size, 3, none⟩) kt d3
  clear d0 d1 d2 d3 df
  refine wp_region_then W 4 8 rfl (Below.refl _ _) (by kernel_rfl) (by kernel_rfl) (by kernel_rfl) (by kernel_rfl) ?_
  simp only [List.take]
  repeat (go_big_quiet_step (fail))
  refine wpQuiet_nil ?_
  rintro w3 ⟨⟨_, hb3⟩, rfl⟩
  have R3 : Hid _ := R.out w3 (KB.out.trans (hb3.mono (by have := KB.out.size; omega)))
  have K03 : Hid _ := (hb3.block _ (by omega)).trans K0.out
  have K13 : Hid _ := (hb3.block _ kt).trans K1.out
  have KB3 : Hid _ := KB.out.trans (hb3.mono KB.out.size)
  have hs3 : w2.heap.size < w3.heap.size := by have := hb3.size; omega
  clear hb3 K0 K1 KB R c0 c1 c2 c3
  refine wpAny_force (i := 4) (by kernel_rfl) rfl ?_
  intro Q' hQ' hPn
  have HQ : Hid _ := hQ'
  clear hQ' hPn
  go_wp2_with fail
  refine Calls.mono R3.out ?_
  rintro e w4 ⟨a3, n3, c3, rfl, hb4⟩
  rw [show woEnd u kd (N, U, Er) (.slice a3 n3 c3) = .returned (.tuple #[.agg #[.int .i64 0, .int .i64 0, .int .u64 0, .slice none 0 0], .int .i64 0, .int .i64 Er]) from by unfold woEnd; rw [if_neg (by simpa using her)]]
  have K04 : Hid _ := (hb4.block _ (by omega)).trans K03.out
  have K14 : Hid _ := (hb4.block _ (by omega)).trans K13.out
  have KB4 : Hid (Below w.heap.size w w4) := KB3.out.trans (hb4.mono (by have := KB3.out.size; omega))
  have hs4 : w2.heap.size < w4.heap.size := by have := hb4.size; omega
  clear hb4 K03 K13 KB3 R3 hs3
  obtain ⟨s0, s1, s2, s3, sf⟩ := block_cells K04.out
  obtain ⟨r0, r1, r2, r3, rf⟩ := block_cells K14.out
  have hne : ¬ w2.heap.size = w.heap.size := by omega
  have hne' : ¬ w.heap.size = w2.heap.size := by omega
  go_wp2
  refine HQ.out _ _ ?_
  clear HQ
  refine wpAny_take (i := 5) (v := ?_) rfl (by kernel_rfl) (by kernel_rfl) (by kernel_rfl) (fun _ _ _ h => h) (Or.inl ⟨by rfl, ?_⟩) ?_
  rotate_left
  · intro w
    go_simp
    try with_reducible rfl
  refine wpAny_take (i := 6) (v := ?_) rfl (by kernel_rfl) (by kernel_rfl) (by kernel_rfl) (fun _ _ _ h => h) (Or.inl ⟨by rfl, ?_⟩) ?_
  rotate_left
  · intro w
    go_simp
    try with_reducible rfl
  refine wpAny_take (i := 7) (v := ?_) rfl (by kernel_rfl) (by kernel_rfl) (by kernel_rfl) (fun _ _ _ h => h) (Or.inl ⟨by rfl, ?_⟩) ?_
  rotate_left
  · intro w
    go_simp
    try with_reducible rfl
  refine wpAny_take (i := 8) (v := ?_) rfl (by kernel_rfl) (by kernel_rfl) (by kernel_rfl) (fun _ _ _ h => h) (Or.inl ⟨by rfl, ?_⟩) ?_
  rotate_left
  · intro w
    go_simp
    try with_reducible rfl
  refine wpAny_force (i := 9) (by kernel_rfl) rfl ?_
  intro Q' hQ' hPn
  have HQ : Hid _ := hQ'
  clear hQ' hPn
  go_wp2
  refine HQ.out _ _ ?_
  clear HQ
  refine wpAny_force (i := 10) (by kernel_rfl) rfl ?_
  intro Q' hQ' hPn
  have HQ : Hid _ := hQ'
  clear hQ' hPn
  go_wp2
  refine HQ.out _ _ ?_
  clear HQ
  refine wpAny_force (i := 11) (by kernel_rfl) rfl ?_
  intro Q' hQ' hPn
  have HQ : Hid _ := hQ'
  clear hQ' hPn
  go_wp2
  refine HQ.out _ _ ?_
  clear HQ
  refine wpAny_end (by kernel_rfl) ?_
  go_wp2
  refine bodyPost_ret (v := .tuple #[.agg #[.int .i64 0, .int .i64 0, .int .u64 0, .slice none 0 0], .int .i64 0, .int .i64 Er]) (by simp [results, Try.results30, go_sem, s0, s1, s2, s3, r0, r1, r2, r3, hne, hne']) rfl ⟨rfl, ?_⟩
  exact (((((((KB4.out.setCell (Nat.le_of_lt ks) _).setCell (Nat.le_of_lt ks) _).setCell (Nat.le_of_lt ks) _).setCell (Nat.le_of_lt ks) _).setCell (Nat.le_refl _) _).setCell (Nat.le_refl _) _).setCell (Nat.le_refl _) _).setCell (Nat.le_refl _) _

end Go.Proofs.Ytjbppjemilijdaa

/- The program's own wire.Take, whatever the bytes. -/
namespace Go.Proofs.Ytjbppjemilijdaa
open Go.RowKit
set_option linter.unusedVariables false
set_option linter.unusedSimpArgs false

theorem wwo_used (kd : Int) (zs : List Int) (hb : ∀ c ∈ zs, 0 ≤ c ∧ c ≤ 255) (h : (wwo kd zs).2.2 = 0) : 0 ≤ (wwo kd zs).2.1 ∧ (wwo kd zs).2.1 ≤ zs.length := by
  unfold wwo at *
  rcases tk_ways zs hb with h' | ⟨x, k, h', t0, t1, m0, m1, m2⟩
  · rw [h'] at h ⊢
    repeat' split
    all_goals simp_all
    all_goals omega
  · rw [h'] at h ⊢
    repeat' split
    all_goals simp_all
    all_goals omega

theorem run_cut_from (b off len cap m : Nat) (hm : m ≤ len) (w : World) :
    (Instr.slice 28 (.slice (some ⟨b, off, none⟩) len cap) (some (.int .i64 (m : Int))) none none).run Try.prog w = .ok (.slice (if cap = m then some ⟨b, off, none⟩ else some ⟨b, off + m, none⟩) (len - m) (cap - m)) w := by
  rw [run_slice_l (P := Try.prog) (w := w) 28 (some ⟨b, off, none⟩) len cap (by kernel_rfl) .i64 (m : Int) (by omega) (by omega)]
  have hsz : (sizeOf (Try.prog.elem 28)).run Try.prog w = .ok 1 w := by kernel_rfl
  rw [hsz]
  have hadd : (⟨b, off, none⟩ : Addr).add m = ⟨b, off + m, none⟩ := by unfold Addr.add; split <;> simp_all
  simp only [Result.andThen, sliced, Int.toNat_natCast]
  by_cases h : cap = m
  · subst h
    simp
  · have h' : ¬ cap - m = 0 ∨ True := .inr trivial
    simp [h, hadd]
    try omega

/-- The program's Take, whatever the bytes. -/
theorem pwt_any (a : Option Addr) (len cap : Nat) (zs : List Int) (w : World) (hbs : Hid (Bs w a len cap zs)) (HL : Hid (len ≤ 2000000)) :
    Calls Try.prog 30 #[.slice a len cap] w fun e w' => ∃ a3 n3 c3, e = fldEnd (wtake zs) a3 n3 c3 ∧ Below w.heap.size w w' := by
  have hz := hbs.out.1
  by_cases h0 : (wtag zs).2.2.2 = 0
  · obtain ⟨hk, m, hm, m0, m1, he, hy, hn⟩ := wtake_worth zs hbs.out.mem h0
    obtain ⟨b, off, rfl, _, _⟩ := hbs.out.2.2.2.2.2 (by omega)
    have hE : wtag zs = ((wtag zs).1, (wtag zs).2.1, (m : Int), 0) := by
      rw [← hm, ← h0]
    by_cases h1 : (wwo (wtag zs).2.1 (zs.drop m)).2.2 = 0
    · obtain ⟨e1, e2, e3, e4⟩ := hy h1
      have hU := wwo_used (wtag zs).2.1 (zs.drop m) (fun c hc => hbs.out.mem c (List.mem_of_mem_drop hc)) h1
      have hL := HL.out
      have hdl : (zs.drop m).length ≤ len := by simp [hz]
      refine (pwt_ok b off len cap zs w hbs HL _ _ hk m (by omega) hE _ rfl (run_cut_from b off len cap m (by omega)) (wwo (wtag zs).2.1 (zs.drop m)).1 (wwo (wtag zs).2.1 (zs.drop m)).2.1 ⟨hU.1, by omega⟩ (by omega) (show _ = _ by rw [← h1])).mono ?_
      rintro e w' ⟨a3, n3, c3, rfl, hb⟩
      refine ⟨a3, n3, c3, ?_, hb⟩
      unfold fldEnd
      rw [e1, e2, e3, e4, he, h1]
    · have h2 := hn h1
      refine (pwt_bad b off len cap zs w hbs HL _ _ hk m (by omega) hE _ rfl (run_cut_from b off len cap m (by omega)) (wwo (wtag zs).2.1 (zs.drop m)).1 (wwo (wtag zs).2.1 (zs.drop m)).2.1 (wwo (wtag zs).2.1 (zs.drop m)).2.2 (by simpa using h1) (show _ = _ from rfl)).mono ?_
      rintro e w' ⟨rfl, hb⟩
      exact ⟨none, 0, 0, by rw [h2], hb⟩
  · have h1 := wtake_tag zs h0
    refine (pwt_no a len cap zs w hbs _ (by simpa using h0) (tagEnd_no zs h0)).mono ?_
    rintro e w' ⟨rfl, hb⟩
    exact ⟨none, 0, 0, by rw [h1], hb⟩

end Go.Proofs.Ytjbppjemilijdaa

/- The plain mathematics of reading fields from the wire: no Go text in sight. -/
namespace Go.Proofs.Ytjbppjemilijdaa
open Go.RowKit

def Tkn.core (t : Tkn) : Int × Int × Int × List Int := (t.num, t.kind, t.n, t.zs)

theorem uf_bd8 (l : List Int) (hb : ∀ c ∈ l, 0 ≤ c ∧ c ≤ 255) (hl : l.length ≤ 8) : 0 ≤ uf l ∧ uf l ≤ 18446744073709551615 := by
  have h := uf_bd l hb
  have hp : (256 : Int) ^ l.length ≤ 256 ^ 8 := by
    have h := Nat.pow_le_pow_right (show 1 ≤ 256 by decide) hl
    have e : (256 : Int) ^ l.length = ((256 ^ l.length : Nat) : Int) := (Int.natCast_pow 256 l.length).symm
    rw [e, show (256 : Int) ^ 8 = ((256 ^ 8 : Nat) : Int) from rfl]
    exact Int.ofNat_le.mpr h
  have e8 : (256 : Int) ^ 8 = 18446744073709551616 := by decide
  omega

/-- A field that was taken: its numbers fit their kinds, it takes a byte or more, and no more than there are. -/
theorem wtake_good (zs : List Int) (hb : ∀ c ∈ zs, 0 ≤ c ∧ c ≤ 255) (h : (wtake zs).err = 0) :
    (-9223372036854775808 ≤ (wtake zs).num ∧ (wtake zs).num ≤ 9223372036854775807) ∧ (-9223372036854775808 ≤ (wtake zs).kind ∧ (wtake zs).kind ≤ 9223372036854775807) ∧ (0 ≤ (wtake zs).n ∧ (wtake zs).n ≤ 18446744073709551615) ∧
      ∃ u : Nat, (wtake zs).used = (u : Int) ∧ 0 < u ∧ u ≤ zs.length := by
  rcases tk_ways zs hb with h0 | ⟨tag, m, h0, t0, t1, m0, m1, m2⟩
  · unfold wtake at h; rw [h0] at h; simp [Tkn.no] at h
  · by_cases hok : tagOk tag = true
    · have hw : wtake zs = wworth tag m (zs.drop m) := by unfold wtake; rw [h0]; simp [hok]
      rw [hw] at h ⊢
      simp only [tagOk, Bool.and_eq_true, decide_eq_true_eq] at hok
      obtain ⟨⟨g1, g2⟩, g3⟩ := hok
      have hdl : (zs.drop m).length = zs.length - m := by simp
      have hdb : ∀ c ∈ zs.drop m, 0 ≤ c ∧ c ≤ 255 := fun c hc => hb c (List.mem_of_mem_drop hc)
      rcases kind_cases g3 with hk | hk | hk | hk
      · rcases tk_ways (zs.drop m) hdb with h' | ⟨x, k, h', x0, x1, k0, k1, k2⟩
        · simp [wworth, hk, h', Tkn.no] at h
        · have e : wworth tag m (zs.drop m) = ⟨tag / 8, 0, x, [], (m : Int) + (k : Int), 0⟩ := by simp [wworth, hk, h']
          rw [e]
          exact ⟨by show _ ≤ tag / 8 ∧ tag / 8 ≤ _; omega, by dsimp only; decide, ⟨x0, x1⟩, m + k, by simp, by omega, by omega⟩
      · by_cases hs : zs.length - m < 8
        · simp [wworth, hk, hdl, hs, Tkn.no] at h
        · have e : wworth tag m (zs.drop m) = ⟨tag / 8, 1, uf ((zs.drop m).take 8), [], (m : Int) + 8, 0⟩ := by simp only [wworth, hk, if_true, hdl]; rw [if_neg hs]
          rw [e]
          exact ⟨by show _ ≤ tag / 8 ∧ tag / 8 ≤ _; omega, by dsimp only; decide, uf_bd8 _ (fun c hc => hdb c (List.mem_of_mem_take hc)) (by simp; omega), m + 8, by simp, by omega, by omega⟩
      · rcases tk_ways (zs.drop m) hdb with h' | ⟨x, k, h', x0, x1, k0, k1, k2⟩
        · simp [wworth, hk, h', Tkn.no] at h
        · by_cases hx : x ≤ ((zs.drop m).length : Int) - (k : Int)
          · have e : wworth tag m (zs.drop m) = ⟨tag / 8, 2, 0, ((zs.drop m).take ((k : Int) + x).toNat).drop k, (m : Int) + (k : Int) + x, 0⟩ := by
              simp only [wworth, hk, h', if_pos hx, Int.toNat_natCast]
              rfl
            rw [e]
            exact ⟨by show _ ≤ tag / 8 ∧ tag / 8 ≤ _; omega, by dsimp only; decide, by dsimp only; decide, m + k + x.toNat, by show (m : Int) + (k : Int) + x = _; omega, by omega, by omega⟩
          · exfalso
            have e : wworth tag m (zs.drop m) = .no 21 := by
              simp only [wworth, hk, h', if_neg hx]
              rfl
            rw [e] at h
            simp [Tkn.no] at h
      · by_cases hs : zs.length - m < 4
        · exfalso
          have e : wworth tag m (zs.drop m) = .no 21 := by simp only [wworth, hk, hdl]; rw [if_neg (by omega), if_pos trivial, if_pos hs]
          rw [e] at h
          simp [Tkn.no] at h
        · have e : wworth tag m (zs.drop m) = ⟨tag / 8, 5, uf ((zs.drop m).take 4), [], (m : Int) + 4, 0⟩ := by simp only [wworth, hk, hdl]; rw [if_neg (by omega), if_pos trivial, if_neg hs]
          rw [e]
          exact ⟨by show _ ≤ tag / 8 ∧ tag / 8 ≤ _; omega, by dsimp only; decide, uf_bd8 _ (fun c hc => hdb c (List.mem_of_mem_take hc)) (by simp; omega), m + 4, by simp, by omega, by omega⟩
    · unfold wtake at h; rw [h0] at h; simp [hok, Tkn.no] at h

/-- The fields that bytes are; else the place and the number of the first error. -/
def wread : Nat → List Int → Int → List (Int × Int × Int × List Int) × Int × Int
  | 0, _, _ => ([], 0, 0)
  | f + 1, zs, at_ =>
    if zs = [] then ([], 0, 0)
    else if (wtake zs).err = 0 then
      (if (wread f (zs.drop (wtake zs).used.toNat) (at_ + (wtake zs).used)).2.2 = 0 then ((wtake zs).core :: (wread f (zs.drop (wtake zs).used.toNat) (at_ + (wtake zs).used)).1, 0, 0)
      else wread f (zs.drop (wtake zs).used.toNat) (at_ + (wtake zs).used))
    else ([], at_, (wtake zs).err)

/-- Fields that were read, ahead of the rest. -/
def rjoin (ds : List (Int × Int × Int × List Int)) (q : List (Int × Int × Int × List Int) × Int × Int) : List (Int × Int × Int × List Int) × Int × Int :=
  if q.2.2 = 0 then (ds ++ q.1, 0, 0) else q

theorem rjoin_step (ds : List (Int × Int × Int × List Int)) (f : Nat) (zs : List Int) (p : Int) (hz : zs ≠ []) (h : (wtake zs).err = 0) :
    rjoin ds (wread (f + 1) zs p) = rjoin (ds ++ [(wtake zs).core]) (wread f (zs.drop (wtake zs).used.toNat) (p + (wtake zs).used)) := by
  rw [wread, if_neg hz, if_pos h]
  unfold rjoin
  by_cases he : (wread f (zs.drop (wtake zs).used.toNat) (p + (wtake zs).used)).2.2 = 0
  · rw [if_pos he, if_pos rfl, if_pos he]
    simp
  · rw [if_neg he, if_neg he, if_neg he]

theorem rjoin_bad (ds : List (Int × Int × Int × List Int)) (f : Nat) (zs : List Int) (p : Int) (hz : zs ≠ []) (h : ¬ (wtake zs).err = 0) :
    rjoin ds (wread (f + 1) zs p) = ([], p, (wtake zs).err) := by
  rw [wread, if_neg hz, if_neg h]
  unfold rjoin
  rw [if_neg h]

theorem rjoin_end (ds : List (Int × Int × Int × List Int)) (f : Nat) (p : Int) : rjoin ds (wread f [] p) = (ds, 0, 0) := by
  cases f with
  | zero => simp [wread, rjoin]
  | succ f => simp [wread, rjoin]

theorem rjoin_nil (q : List (Int × Int × Int × List Int) × Int × Int) (h : q.2.2 = 0 → q.2.1 = 0) : rjoin [] q = q := by
  obtain ⟨l, p, e⟩ := q
  unfold rjoin
  by_cases he : e = 0
  · have := h he
    simp only at this
    subst he this
    simp
  · rw [if_neg he]

theorem wread_zero : ∀ (f : Nat) (zs : List Int) (p : Int), (wread f zs p).2.2 = 0 → (wread f zs p).2.1 = 0
  | 0, zs, p, _ => rfl
  | f + 1, zs, p, h => by
    rw [wread] at h ⊢
    split
    · rfl
    · split
      · split
        · rfl
        · rename_i h1 h2 h3
          rw [if_neg h1, if_pos h2, if_neg h3] at h
          exact absurd h h3
      · rename_i h1 h2
        rw [if_neg h1, if_neg h2] at h
        exact absurd h h2

end Go.Proofs.Ytjbppjemilijdaa

/- A slice of fields (api.Raw) that is read: where it lies and what it holds ('Rs'); the law's own 'few'. -/
namespace Go.Proofs.Ytjbppjemilijdaa
open Go.RowKit

/-- A field in memory: its numbers, where its bytes lie, and what they are. -/
structure Rw where
  num : Int
  kind : Int
  n : Int
  a : Option Addr
  len : Nat
  cap : Nat
  zs : List Int

def Rw.ok (w : World) (r : Rw) : Prop :=
  (-9223372036854775808 ≤ r.num ∧ r.num ≤ 9223372036854775807) ∧ (-9223372036854775808 ≤ r.kind ∧ r.kind ≤ 9223372036854775807) ∧ (0 ≤ r.n ∧ r.n ≤ 18446744073709551615) ∧ Bs w r.a r.len r.cap r.zs

/-- The slice at a, of len fields, holds rs in the world w. -/
def Rs (w : World) (a : Option Addr) (len cap : Nat) (rs : List Rw) : Prop :=
  rs.length = len ∧ (len : Int) ≤ 9223372036854775807 ∧ len ≤ cap ∧ (a = none → cap = 0) ∧ (∀ r ∈ rs, r.ok w) ∧
    (0 < len → ∃ b off, a = some ⟨b, off, none⟩ ∧ b < w.heap.size ∧ ∀ i r, rs[i]? = some r →
      w.cell? ⟨b, off + i * 4, none⟩ = some (.int .i64 r.num) ∧ w.cell? ⟨b, off + i * 4 + 1, none⟩ = some (.int .i64 r.kind) ∧ w.cell? ⟨b, off + i * 4 + 2, none⟩ = some (.int .u64 r.n) ∧ w.cell? ⟨b, off + i * 4 + 3, none⟩ = some (.slice r.a r.len r.cap))

theorem Rw.ok.below {w w' : World} {r : Rw} (h : r.ok w) {B : Nat} (hb : Below B w w') (hB : w.heap.size ≤ B) : r.ok w' := ⟨h.1, h.2.1, h.2.2.1, h.2.2.2.below hb hB⟩

theorem Rs.below {w w' : World} {a : Option Addr} {len cap : Nat} {rs : List Rw} (h : Rs w a len cap rs) {B : Nat} (hb : Below B w w') (hB : w.heap.size ≤ B) : Rs w' a len cap rs := by
  obtain ⟨h1, h2, h3, h4, h5, h6⟩ := h
  refine ⟨h1, h2, h3, h4, fun r hr => (h5 r hr).below hb hB, fun hp => ?_⟩
  obtain ⟨b, off, rfl, hlt, hc⟩ := h6 hp
  refine ⟨b, off, rfl, Nat.lt_of_lt_of_le hlt hb.size, fun i r hr => ?_⟩
  obtain ⟨c0, c1, c2, c3⟩ := hc i r hr
  have hbB : b < B := by omega
  exact ⟨(hb.cell (p := ⟨b, off + i * 4, none⟩) hbB).trans c0, (hb.cell (p := ⟨b, off + i * 4 + 1, none⟩) hbB).trans c1, (hb.cell (p := ⟨b, off + i * 4 + 2, none⟩) hbB).trans c2, (hb.cell (p := ⟨b, off + i * 4 + 3, none⟩) hbB).trans c3⟩



end Go.Proofs.Ytjbppjemilijdaa

/- The contract of the document's own answer for reading fields (the reference's Read), over the turned text. -/
namespace Go.Proofs.Ytjbppjemilijdaa
open Go.RowKit

def Rw.cells (r : Rw) : List Value := [.int .i64 r.num, .int .i64 r.kind, .int .u64 r.n, .slice r.a r.len r.cap]
def Rw.core (r : Rw) : Int × Int × Int × List Int := (r.num, r.kind, r.n, r.zs)

/-- The call's own list of fields: v owns their cells; each one's bytes lie from base on, and not in the list's own row. -/
def Ro (w : World) (base : Nat) (v : Value) (rs : List Rw) : Prop :=
  w.ownsRow base 52 4 v rs.length (rs.flatMap Rw.cells) ∧ ∀ r ∈ rs, r.ok w ∧ ∀ x, 0 < r.len → r.a = some x → base ≤ x.block ∧ v.ownBlock ≠ some x.block

theorem Bs.grown {w w' : World} {row : Option Nat} {a : Option Addr} {len cap : Nat} {zs : List Int} (h : Bs w a len cap zs) (hg : w.grownBy w' row) (hne : ∀ x, 0 < len → a = some x → row ≠ some x.block) : Bs w' a len cap zs := by
  obtain ⟨h1, h2, h3, h4, h5, h6⟩ := h
  refine ⟨h1, h2, h3, h4, h5, fun hp => ?_⟩
  obtain ⟨b, off, rfl, hlt, hc⟩ := h6 hp
  exact ⟨b, off, rfl, Nat.lt_of_lt_of_le hlt hg.size, fun i hi => hg.cell (hc i hi) (fun e => hne _ hp rfl e.symm)⟩

theorem Bs.blk {w : World} {a : Option Addr} {len cap : Nat} {zs : List Int} (h : Bs w a len cap zs) : ∀ x, 0 < len → a = some x → x.block < w.heap.size := by
  intro x hp hx
  obtain ⟨b, off, e, hlt, _⟩ := h.2.2.2.2.2 hp
  rw [hx] at e
  simp at e
  subst e
  exact hlt

theorem Ro.below {w w' : World} {base : Nat} {v : Value} {rs : List Rw} (h : Ro w base v rs) (hb : Below w.heap.size w w') : Ro w' base v rs :=
  ⟨h.1.kept (row := none) ⟨hb.os, hb.tape, hb.output, hb.size, fun k hk _ => hb.block k hk⟩ (by cases hv : v.ownBlock <;> simp), fun r hr => ⟨(h.2 r hr).1.below hb (Nat.le_refl _), (h.2 r hr).2⟩⟩

/-- One field more. -/
theorem Ro.push {w w' : World} {base : Nat} {v v' : Value} {rs : List Rw} {r : Rw} (h : Ro w base v rs) (hr : r.ok w) (hf : ∀ x, 0 < r.len → r.a = some x → base ≤ x.block ∧ v.ownBlock ≠ some x.block)
    (hown : w'.ownsRow base 52 4 v' (rs.length + 1) (rs.flatMap Rw.cells ++ r.cells)) (hg : w.grownBy w' v.ownBlock) (hat : v'.ownBlock = v.ownBlock ∨ v'.ownBlock = some w.heap.size) : Ro w' base v' (rs ++ [r]) := by
  refine ⟨by simpa using hown, ?_⟩
  have one : ∀ q : Rw, q.ok w → (∀ x, 0 < q.len → q.a = some x → base ≤ x.block ∧ v.ownBlock ≠ some x.block) → q.ok w' ∧ ∀ x, 0 < q.len → q.a = some x → base ≤ x.block ∧ v'.ownBlock ≠ some x.block := by
    intro q ok hq
    refine ⟨⟨ok.1, ok.2.1, ok.2.2.1, ok.2.2.2.grown hg (fun x hl hx => (hq x hl hx).2)⟩, fun x hl hx => ⟨(hq x hl hx).1, ?_⟩⟩
    rcases hat with e | e
    · rw [e]; exact (hq x hl hx).2
    · rw [e]
      intro e2
      have := ok.2.2.2.blk x hl hx
      simp at e2
      omega
  intro q hq
  rcases List.mem_append.1 hq with hq | hq
  · exact one q (h.2 q hq).1 (h.2 q hq).2
  · simp at hq
    subst hq
    exact one q hr hf

theorem flat4 : ∀ (rs : List Rw) (i : Nat) (r : Rw), rs[i]? = some r → ∀ j, j < 4 → (rs.flatMap Rw.cells)[i * 4 + j]? = r.cells[j]?
  | [], i, r, h, _, _ => by simp at h
  | q :: rs, 0, r, h, j, hj => by
    simp at h
    subst h
    simp only [List.flatMap_cons]
    rw [List.getElem?_append_left (by simp [Rw.cells]; omega)]
    simp
  | q :: rs, i + 1, r, h, j, hj => by
    simp only [List.getElem?_cons_succ] at h
    simp only [List.flatMap_cons]
    rw [List.getElem?_append_right (by simp [Rw.cells]; omega), show (i + 1) * 4 + j - q.cells.length = i * 4 + j by simp [Rw.cells]; omega]
    exact flat4 rs i r h j hj

/-- The call's own list, read. -/
theorem Rs.of_own {w : World} {base : Nat} {a : Option Addr} {len cap : Nat} {rs : List Rw} (h : Ro w base (.slice a len cap) rs) : Rs w a len cap rs := by
  obtain ⟨ho, hr⟩ := h
  rcases ho.2 with ⟨he, hn⟩ | ⟨g, c, cur, he, hg, hh, h1, h2, h3, h4⟩
  · simp at he
    obtain ⟨rfl, rfl, rfl⟩ := he
    exact ⟨hn, by omega, Nat.le_refl _, fun _ => rfl, fun r hm => (hr r hm).1, fun h => absurd h (by omega)⟩
  · simp at he
    obtain ⟨rfl, rfl, rfl⟩ := he
    refine ⟨rfl, by unfold maxLen at h2; omega, h1, fun h => by simp at h, fun r hm => (hr r hm).1, fun _ => ⟨g, 0, rfl, (ho.lt g rfl).2, fun i r hi => ?_⟩⟩
    have hil : i < rs.length := (List.getElem?_eq_some_iff.1 hi).1
    have c := fun j (hj : j < 4) => (ho.cellAt (i * 4 + j) (by omega)).trans (flat4 rs i r hi j hj)
    have c0 := c 0 (by omega)
    have c1 := c 1 (by omega)
    have c2 := c 2 (by omega)
    have c3 := c 3 (by omega)
    simp [Rw.cells] at c0 c1 c2 c3
    simp only [Nat.zero_add]
    exact ⟨c0, c1, c2, c3⟩

theorem Try.infoRaw : (Try.prog.info? 52).map (fun i => (i.zero, i.size, i.bytes)) = some (some (.agg #[.int .i64 0, .int .i64 0, .int .u64 0, .slice none 0 0]), 4, 48) := by kernel_rfl

theorem new4 (w : World) (o : Obj) (x0 x1 x2 x3 : Value) (t : TypeId) : ∀ (j : Nat) (u : Value), [x0, x1, x2, x3][j]? = some u → ((w.alloc o).alloc (.cells #[x0, x1, x2, x3] t)).cell? (({ block := w.heap.size + 1, off := 0 } : Addr).add j) = some u := by
  intro j u hj
  match j, hj with
  | 0, hj => simp at hj; subst hj; simp [Addr.add]
  | 1, hj => simp at hj; subst hj; simp [Addr.add]
  | 2, hj => simp at hj; subst hj; simp [Addr.add]
  | 3, hj => simp at hj; subst hj; simp [Addr.add]

theorem one4 (u k n : Int) (a : Option Addr) (l c : Nat) : ∀ v, v ∈ [Value.int .i64 u, .int .i64 k, .int .u64 n, .slice a l c] → v.oneCell' = true := by
  intro v hv
  simp at hv
  rcases hv with rfl | rfl | rfl | rfl <;> rfl

theorem two_alloc (w : World) (o1 o2 : Obj) : Below w.heap.size w ((w.alloc o1).alloc o2) := ((Below.refl _ _).alloc (Nat.le_refl _) _).alloc (by simp) _

set_option maxHeartbeats 400000 in
theorem rrd_none (a : Option Addr) (cap : Nat) (w : World) :
    Calls Try.prog 14 #[.slice a 0 cap] w fun e w' => e = .returned (.tuple #[.slice none 0 0, .int .i64 0, .int .i64 0]) ∧ Below w.heap.size w w' := by
  go_enter Try.func14, Try.ntmps14
  go_wp2
  refine wp_loop_rounds 1 ?_
  rw [rounds_succ]
  go_wp2
  go_ret3
  exact ⟨rfl, Below.refl _ _⟩

set_option maxHeartbeats 2000000 in
theorem rrd_some (a : Option Addr) (len cap : Nat) (zs : List Int) (w : World) (hbs : Hid (Bs w a len cap zs)) (hl6 : len ≤ 2000000) :
    Calls Try.prog 14 #[.slice a len cap] w fun e w' => ∃ v rs, e = .returned (.tuple #[v, .int .i64 (wread len zs 0).2.1, .int .i64 (wread len zs 0).2.2]) ∧ rs.map Rw.core = (wread len zs 0).1 ∧ Ro w' w.heap.size v rs ∧ Below w.heap.size w w' := by
  obtain ⟨i0, hi, hz0, hz1, hz2⟩ := info_parts Try.infoRaw
  have hlc := hbs.out.2.2.2.1
  have hzl : Hid (zs.length = len) := hbs.out.1
  go_enter Try.func14, Try.ntmps14
  go_wp2
  go_loopw [5, 6] (fun v i wr => ∃ (k f : Nat) (rs : List Rw), k ≤ len ∧ i = .int .i64 (k : Int) ∧ Hid (len - k ≤ f) ∧ Hid (rjoin (rs.map Rw.core) (wread f (zs.drop k) (k : Int)) = wread len zs 0) ∧ rs.length ≤ k ∧ Hid (Ro wr w.heap.size v rs) ∧ Below w.heap.size w wr) (fun _ i _ => len - (intOf i).toNat)
  case atStart => exact ⟨0, len, [], Nat.zero_le _, rfl, Nat.le_refl _, rjoin_nil _ (wread_zero _ _ _), Nat.le_refl _, ⟨World.ownsRow_nil _ _ _ _, by simp⟩, Below.refl _ _⟩
  case round =>
    obtain ⟨k, f, rs, hk, rfl, HF, HJ, hrl, HR, hb⟩ := hrel
    have hbz := hb.size
    by_cases hlk : k < len
    · obtain ⟨f', rfl⟩ : ∃ f', f = f' + 1 := ⟨f - 1, by have := HF.out; omega⟩
      have hkc : ¬ cap = k := by omega
      have B0 := hbs.out.below hb (Nat.le_refl _)
      have B1 := B0.rest k (by omega) (by omega)
      have hne : zs.drop k ≠ [] := by
        intro e
        have := congrArg List.length e
        simp [hzl.out] at this
        omega
      have q := rwt_any _ _ _ _ _ B1 (by omega)
      have G : Hid _ := wtake_good (zs.drop k) B1.mem
      have S : Hid _ := rjoin_step (rs.map Rw.core) f' (zs.drop k) (k : Int) hne
      have E : Hid _ := rjoin_bad (rs.map Rw.core) f' (zs.drop k) (k : Int) hne
      have hdl : Hid ((zs.drop k).length = len - k) := by show _ = _; simp [hzl.out]
      have hdd : Hid (∀ u, (zs.drop k).drop u = zs.drop (k + u)) := by intro u; rw [List.drop_drop]
      generalize wtake (zs.drop k) = t at q G S E
      obtain ⟨tu, tk_, tn, tz, us, er⟩ := t
      have Q : Hid _ := q
      clear q B0 B1
      by_cases her : er = 0
      · subst her
        obtain ⟨bu, bk, bn, u, eu, u0, ul⟩ := G.out rfl
        simp only at eu bu bk bn
        subst eu
        rw [hdl.out] at ul
        have S' := S.out rfl
        simp only [Int.toNat_natCast, hdd.out] at S'
        have HJ' : Hid (rjoin (rs.map Rw.core ++ [(tu, tk_, tn, tz)]) (wread f' (zs.drop (k + u)) ((k + u : Nat) : Int)) = wread len zs 0) := by
          show _ = _
          rw [← HJ.out, S']
          simp [Tkn.core]
        clear S S' G E HJ hne
        go_wp2_with fail
        refine Calls.mono Q.out ?_
        rintro e w2 ⟨a3, l3, c3, rfl, hb2, hbs3, hfr⟩
        rw [show fldEnd ⟨tu, tk_, tn, tz, (u : Int), 0⟩ a3 l3 c3 = .returned (.tuple #[.agg #[.int .i64 tu, .int .i64 tk_, .int .u64 tn, .slice a3 l3 c3], .int .i64 (u : Int), .int .i64 0]) from rfl]
        have hs2 := hb2.size
        have D2 : Hid (Below w.heap.size w w2) := hb.trans (hb2.mono hbz)
        have RW : Hid (∀ o1 o2, Ro ((w2.alloc o1).alloc o2) w.heap.size u5 rs) := fun o1 o2 => (HR.out.below hb2).below (two_alloc w2 o1 o2)
        have OK : Hid (∀ o1 o2, Rw.ok ((w2.alloc o1).alloc o2) ⟨tu, tk_, tn, a3, l3, c3, tz⟩) := fun o1 o2 => ⟨bu, bk, bn, hbs3.below (two_alloc w2 o1 o2) (Nat.le_refl _)⟩
        have FR : Hid (∀ x, 0 < l3 → a3 = some x → w.heap.size ≤ x.block ∧ u5.ownBlock ≠ some x.block) := by
          intro x hl hx
          have h1 := hfr x hl hx
          refine ⟨by omega, fun e => ?_⟩
          have := (HR.out.1.lt _ e).2
          omega
        have hM1 : rs.length + 1 ≤ maxLen := by unfold maxLen; omega
        have hM2 : (rs.length + 1) * 48 ≤ 140737488355328 := by omega
        have HZ : Hid (∀ o1 o2, w.heap.size ≤ ((w2.alloc o1).alloc o2).heap.size) := by intro o1 o2; simp; omega
        clear hbs3 hfr HR hb2 hb
        go_wp2_with (at_builtin; refine wpList_append_own_at _ rfl _ _ 47 rfl w.heap.size 52 i0 (.agg #[.int .i64 0, .int .i64 0, .int .u64 0, .slice none 0 0]) 4 48 Try.underlying47 hi hz0 hz1 hz2 rfl (by decide) _ rs.length _ rfl (RW.out _ _).1 ⟨w2.heap.size + 1, 0, none⟩ 1 1 [.int .i64 tu, .int .i64 tk_, .int .u64 tn, .slice a3 l3 c3] rfl rfl (new4 _ _ _ _ _ _ _) (one4 _ _ _ _ _ _) hM1 hM2 (HZ.out _ _) ?_; intro v4 w4 hown4 hgrow4 hnil4 hat4; have RP := Ro.push (v := u5) (v' := v4) (r := ⟨tu, tk_, tn, a3, l3, c3, tz⟩) (RW.out (.cells #[.int .i64 tu, .int .i64 tk_, .int .u64 tn, .slice a3 l3 c3] 52) (.cells #[.int .i64 tu, .int .i64 tk_, .int .u64 tn, .slice a3 l3 c3] 52)) (OK.out (.cells #[.int .i64 tu, .int .i64 tk_, .int .u64 tn, .slice a3 l3 c3] 52) (.cells #[.int .i64 tu, .int .i64 tk_, .int .u64 tn, .slice a3 l3 c3] 52)) FR.out hown4 hgrow4 hat4; have D4 : Hid (Below w.heap.size w w4) := (D2.out.trans ((two_alloc w2 (.cells #[.int .i64 tu, .int .i64 tk_, .int .u64 tn, .slice a3 l3 c3] 52) (.cells #[.int .i64 tu, .int .i64 tk_, .int .u64 tn, .slice a3 l3 c3] 52)).mono D2.out.size)).grown hgrow4 (HZ.out (.cells #[.int .i64 tu, .int .i64 tk_, .int .u64 tn, .slice a3 l3 c3] 52) (.cells #[.int .i64 tu, .int .i64 tk_, .int .u64 tn, .slice a3 l3 c3] 52)) (fun j hj => ((RW.out (.cells #[.int .i64 tu, .int .i64 tk_, .int .u64 tn, .slice a3 l3 c3] 52) (.cells #[.int .i64 tu, .int .i64 tk_, .int .u64 tn, .slice a3 l3 c3] 52)).1.lt j hj).1); have HRP : Hid (Ro w4 w.heap.size v4 (rs ++ [⟨tu, tk_, tn, a3, l3, c3, tz⟩])) := RP; clear RP hown4 hgrow4 hnil4 hat4)
        go_roundw
        case rel => exact ⟨k + u, f', rs ++ [⟨tu, tk_, tn, a3, l3, c3, tz⟩], by omega, by go_num, (by have := HF.out; show len - (k + u) ≤ f'; omega), (by show rjoin _ _ = _; rw [List.map_append]; exact HJ'.out), (by simp; omega), HRP, D4.out⟩
        case measure => simp [intOf]; omega
      · have her' : (er != 0) = true := by simpa using her
        have E' := E.out her
        have HJ' : Hid (wread len zs 0 = ([], (k : Int), er)) := by show _ = _; rw [← HJ.out, E']
        clear S G E E' HJ hne
        go_wp2_with fail
        refine Calls.mono Q.out ?_
        rintro e w2 ⟨a3, l3, c3, rfl, hb2, _, _⟩
        rw [show fldEnd ⟨tu, tk_, tn, tz, us, er⟩ a3 l3 c3 = .returned (.tuple #[.agg #[.int .i64 tu, .int .i64 tk_, .int .u64 tn, .slice a3 l3 c3], .int .i64 us, .int .i64 er]) from rfl]
        have D2 : Hid (Below w.heap.size w w2) := hb.trans (hb2.mono hbz)
        clear hb2 HR
        go_wp2
        go_ret3
        refine ⟨.slice none 0 0, [], ?_, ?_, ⟨World.ownsRow_nil _ _ _ _, by simp⟩, D2.out.alloc D2.out.size _⟩
        · rw [HJ'.out]; rfl
        · rw [HJ'.out]; rfl
    · obtain rfl : k = len := by omega
      have HJ' : Hid (wread k zs 0 = (rs.map Rw.core, 0, 0)) := by
        show _ = _
        rw [← HJ.out, List.drop_eq_nil_of_le (by rw [hzl.out]; omega), rjoin_end]
      clear HJ
      go_wp2
      go_ret3
      refine ⟨u5, rs, ?_, ?_, HR.out, hb⟩
      · rw [HJ'.out]; rfl
      · rw [HJ'.out]

end Go.Proofs.Ytjbppjemilijdaa

/- The program's own wire.fields: what is taken, place by place. -/
namespace Go.Proofs.Ytjbppjemilijdaa
open Go.RowKit Go.Shelf
set_option linter.unusedVariables false
set_option linter.unusedSimpArgs false

attribute [local go_sem] Oper.semAt_some

/-- What a round is handed. -/
structure Tx where
  at' : Int
  num : Int
  kind : Int
  n : Int
  a : Option Addr
  l : Nat
  c : Nat
  err : Int

def Tx.vals (x : Tx) : Array Value := #[.int .i64 x.at', .agg #[.int .i64 x.num, .int .i64 x.kind, .int .u64 x.n, .slice x.a x.l x.c, .int .i64 x.err]]

def Tx.core (x : Tx) : Int × Int × Int × Int × Int := (x.at', x.num, x.kind, x.n, x.err)

/-- All rounds that there are. -/
def sq : Nat → List Int → Int → List (Int × Int × Int × Int × Int)
  | 0, _, _ => []
  | _ + 1, [], _ => []
  | f + 1, c :: r, p => (p, (wtake (c :: r)).num, (wtake (c :: r)).kind, (wtake (c :: r)).n, (wtake (c :: r)).err) :: (if (wtake (c :: r)).err = 0 then sq f ((c :: r).drop (wtake (c :: r)).used.toNat) (p + (wtake (c :: r)).used) else [])

theorem sq_step (f : Nat) (zs : List Int) (p : Int) (h : zs ≠ []) (he : (wtake zs).err = 0) : sq (f + 1) zs p = (p, (wtake zs).num, (wtake zs).kind, (wtake zs).n, (wtake zs).err) :: sq f (zs.drop (wtake zs).used.toNat) (p + (wtake zs).used) := by
  cases zs with
  | nil => exact absurd rfl h
  | cons c r => rw [sq, if_pos he]

theorem sq_last (f : Nat) (zs : List Int) (p : Int) (h : zs ≠ []) (he : ¬ (wtake zs).err = 0) : sq (f + 1) zs p = [(p, (wtake zs).num, (wtake zs).kind, (wtake zs).n, (wtake zs).err)] := by
  cases zs with
  | nil => exact absurd rfl h
  | cons c r => rw [sq, if_neg he]

theorem sq_nil (f : Nat) (p : Int) : sq f [] p = [] := by cases f <;> rfl

/-- What a round that goes on keeps. -/
def Kq (n0 B : Nat) (W W' : World) : Prop := Below n0 W W' ∧ W'.heap[B]? = W.heap[B]?

theorem Kq.refl (n0 B : Nat) (W : World) : Kq n0 B W W := ⟨Below.refl _ _, rfl⟩

theorem Kq.trans {n0 B : Nat} {W W1 W2 : World} (h : Kq n0 B W W1) (k : Kq n0 B W1 W2) : Kq n0 B W W2 := ⟨h.1.trans k.1, k.2.trans h.2⟩

theorem Kq.of_below {n0 B : Nat} {W W' : World} (h : Below W.heap.size W W') (hn : n0 ≤ W.heap.size) (hB : B < W.heap.size) : Kq n0 B W W' := ⟨h.mono hn, h.block _ hB⟩

theorem Kq.cell {n0 B : Nat} {W W' : World} (h : Kq n0 B W W') {v : Value} (hc : W.cell? ⟨B, 0, none⟩ = some v) : W'.cell? ⟨B, 0, none⟩ = some v := by
  rw [← hc]
  exact World.cell?_of_block h.2

theorem Bs.keep {W W' : World} {n0 : Nat} {a : Option Addr} {len cap : Nat} {zs : List Int} (h : Bs W a len cap zs) (hb : Below n0 W W') (hl : ∀ x, 0 < len → a = some x → x.block < n0) : Bs W' a len cap zs := by
  obtain ⟨h1, h2, h3, h4, h5, h6⟩ := h
  refine ⟨h1, h2, h3, h4, h5, fun hp => ?_⟩
  obtain ⟨b, off, rfl, hlt, hc⟩ := h6 hp
  have hbn : b < n0 := hl _ hp rfl
  exact ⟨b, off, rfl, Nat.lt_of_lt_of_le hlt hb.size, fun i hi => (hb.cell (p := ⟨b, off + i, none⟩) hbn).trans (hc i hi)⟩

set_option maxRecDepth 100000 in
set_option maxHeartbeats 2000000 in
theorem pfl1_in (l Bn n0 : Nat) (a : Option Addr) (len cap : Nat) (zs : List Int) (J Jx : List Tx → World → Prop) (HL : Hid (len ≤ 2000000))
    (W : World) (hJa : AbidesFrom W.heap.size J) (hn0 : n0 ≤ W.heap.size) (hBl : Bn < W.heap.size)
    (hY : ∀ pre x W, J pre W → pre.length < len → YieldAt Fence.wide (3 - 1) Try.prog l x.vals W fun e W' =>
      (e = .returned (.bool true) ∧ J (pre ++ [x]) W' ∧ Kq n0 Bn W W') ∨ (e = .returned (.bool false) ∧ Jx (pre ++ [x]) W'))
    (hBn : W.cell? ⟨Bn, 0, none⟩ = some (.slice a len cap)) (hbs : Bs W a len cap zs) (hbl : ∀ x, 0 < len → a = some x → x.block < n0) (h0 : J [] W) :
    CallsIn Fence.wide 3 Try.prog 29 #[.func (.yield l) #[] #[], .pointer (some ⟨Bn, 0, none⟩)] W fun e W' => (∃ v, e = .returned v) ∧
      ((∃ ys : List Tx, ys.map Tx.core = sq len zs 0 ∧ J ys W') ∨ (∃ pre : List Tx, pre.map Tx.core <+: sq len zs 0 ∧ Jx pre W')) := by
  refine callsIn_of_wp Try.func29 rfl trivial ?_ rfl
  simp only [Try.ntmps29, List.size_toArray, List.length_cons, List.length_nil, Nat.reduceAdd, Nat.reduceSub, Array.replicate_succ, Array.replicate_zero, List.push_toArray, List.append_toArray, List.nil_append, List.cons_append]
  gi_wp2
  have HBS : Hid (Bs W a len cap zs) := hbs
  have HBN : Hid _ := hBn
  have HY : Hid _ := hY
  have HJA : Hid _ := hJa
  have HBL : Hid _ := hbl
  have hlc := hbs.2.2.2.1
  have hll := hbs.2.1
  have hzl : Hid (zs.length = len) := hbs.1
  clear hbs hBn hY hJa hbl
  gi_loopw [3] (fun v wr => ∃ (k f : Nat) (pre : List Tx), k ≤ len ∧ v = .int .i64 (k : Int) ∧ Hid (len - k ≤ f) ∧ Hid (pre.map Tx.core ++ sq f (zs.drop k) (k : Int) = sq len zs 0) ∧ pre.length ≤ k ∧ Hid (J pre wr) ∧ Hid (Kq n0 Bn W wr) ∧ W.heap.size ≤ wr.heap.size) (fun v _ => len - (intOf v).toNat)
  case atStart => exact ⟨0, len, [], Nat.zero_le _, rfl, Nat.le_refl _, rfl, Nat.le_refl _, h0, Kq.refl _ _ _, Nat.le_refl _⟩
  case round =>
    obtain ⟨k, f, pre, hk, rfl, HF, HS, hpl, HJ, HK, hsz⟩ := hrel
    have hc := HK.out.cell HBN.out
    by_cases hlk : k < len
    · obtain ⟨f', rfl⟩ : ∃ f', f = f' + 1 := ⟨f - 1, by have := HF.out; omega⟩
      have hkc : ¬ cap = k := by omega
      have B0 := Bs.keep HBS.out HK.out.1 HBL.out
      obtain ⟨b, off, rfl, _, _⟩ := B0.2.2.2.2.2 (by omega)
      have B1 := B0.rest k (by omega) (by omega)
      have hadd : (⟨b, off, none⟩ : Addr).add k = ⟨b, off + k, none⟩ := by unfold Addr.add; split <;> simp_all
      simp only [Option.map_some, hadd] at B1
      have hne : zs.drop k ≠ [] := by
        intro e
        have := congrArg List.length e
        simp [hzl.out] at this
        omega
      have G : Hid _ := wtake_good (zs.drop k) B1.mem
      have Q : Hid _ := pwt_any _ _ _ _ _ (show Hid _ from B1) (show len - k ≤ 2000000 by have := HL.out; omega)
      have ST : Hid _ := sq_step f' (zs.drop k) (k : Int) hne
      have SL : Hid _ := sq_last f' (zs.drop k) (k : Int) hne
      have hdl : Hid ((zs.drop k).length = len - k) := by show _ = _; simp [hzl.out]
      have hdd : Hid (∀ u, (zs.drop k).drop u = zs.drop (k + u)) := by intro u; rw [List.drop_drop]
      clear B0 B1 hadd hne
      generalize wtake (zs.drop k) = t at Q G ST SL
      obtain ⟨tu, tk_, tn, tz, us, er⟩ := t
      by_cases her : er = 0
      · subst her
        obtain ⟨bu, bk, bn, u, eu, u0, ul⟩ := G.out rfl
        subst eu
        rw [hdl.out] at ul
        have S' := ST.out rfl
        simp only [Int.toNat_natCast, hdd.out] at S'
        have HS' : Hid ((pre.map Tx.core ++ [((k : Int), tu, tk_, tn, 0)]) ++ sq f' (zs.drop (k + u)) ((k + u : Nat) : Int) = sq len zs 0) := by
          show _ = _
          rw [← HS.out, S', List.append_assoc]
          simp
        clear ST SL S' G HS
        gi_wp2_with fail
        refine ⟨trivial, ?_⟩
        refine CallsIn.mono (callsIn_wide.2 Q.out) ?_
        rintro e w2 ⟨a3, n3, c3, rfl, hb2⟩
        rw [show fldEnd ⟨tu, tk_, tn, tz, (u : Int), 0⟩ a3 n3 c3 = .returned (.tuple #[.agg #[.int .i64 tu, .int .i64 tk_, .int .u64 tn, .slice a3 n3 c3], .int .i64 (u : Int), .int .i64 0]) from rfl]
        have hbz : wr.heap.size ≤ w2.heap.size := hb2.size
        have J2 : Hid (J pre (w2.alloc (.cells #[.int .i64 tu, .int .i64 tk_, .int .u64 tn, .slice a3 n3 c3] 52))) :=
          HJA.out pre wr _ none HJ.out (grown_of_below (hb2.alloc hb2.size _)) (fun r e => by cases e)
        have K2 : Hid (Kq n0 Bn W (w2.alloc (.cells #[.int .i64 tu, .int .i64 tk_, .int .u64 tn, .slice a3 n3 c3] 52))) :=
          HK.out.trans (Kq.of_below (hb2.alloc hb2.size _) (by omega) (by omega))
        obtain ⟨fn, tmps, assign, body, hy, hR⟩ := HY.out pre ⟨(k : Int), tu, tk_, tn, a3, n3, c3, 0⟩ _ J2.out (by omega)
        dsimp only [Tx.vals] at hy
        have HR : Hid _ := hR
        clear hR hb2 Q HJ HK J2
        gi_wp2
        refine RoundIn.mono HR.out ?_
        rintro e W3 (⟨rfl, hJ3, hk3⟩ | ⟨rfl, hJx3⟩)
        · gi_wp2
          go_roundw
          case rel => exact ⟨k + u, f', pre ++ [⟨(k : Int), tu, tk_, tn, a3, n3, c3, 0⟩], by omega, by go_num, (show len - (k + u) ≤ f' by have := HF.out; omega), (show _ = _ by simpa [Tx.core] using HS'.out), by simp; omega, (show J _ W3 from hJ3), K2.out.trans hk3, by have := hk3.1.size; simp at this; omega⟩
          case measure => simp [intOf]; omega
        · gi_wp2
          refine bodyPost_ret (results_none rfl _ _ _) rfl ?_
          refine ⟨⟨_, rfl⟩, .inr ⟨_, ?_, hJx3⟩⟩
          rw [← HS'.out]
          simp [Tx.core]
      · have her' : (er != 0) = true := by simpa using her
        have HS' : Hid ((pre.map Tx.core ++ [((k : Int), tu, tk_, tn, er)]) = sq len zs 0) := by
          show _ = _
          rw [← HS.out, SL.out her]
        clear ST SL G HS
        gi_wp2_with fail
        refine ⟨trivial, ?_⟩
        refine CallsIn.mono (callsIn_wide.2 Q.out) ?_
        rintro e w2 ⟨a3, n3, c3, rfl, hb2⟩
        rw [show fldEnd ⟨tu, tk_, tn, tz, us, er⟩ a3 n3 c3 = .returned (.tuple #[.agg #[.int .i64 tu, .int .i64 tk_, .int .u64 tn, .slice a3 n3 c3], .int .i64 us, .int .i64 er]) from rfl]
        have hbz : wr.heap.size ≤ w2.heap.size := hb2.size
        have J2 : Hid (J pre (w2.alloc (.cells #[.int .i64 tu, .int .i64 tk_, .int .u64 tn, .slice a3 n3 c3] 52))) :=
          HJA.out pre wr _ none HJ.out (grown_of_below (hb2.alloc hb2.size _)) (fun r e => by cases e)
        have K2 : Hid (Kq n0 Bn W (w2.alloc (.cells #[.int .i64 tu, .int .i64 tk_, .int .u64 tn, .slice a3 n3 c3] 52))) :=
          HK.out.trans (Kq.of_below (hb2.alloc hb2.size _) (by omega) (by omega))
        obtain ⟨fn, tmps, assign, body, hy, hR⟩ := HY.out pre ⟨(k : Int), tu, tk_, tn, a3, n3, c3, er⟩ _ J2.out (by omega)
        dsimp only [Tx.vals] at hy
        have HR : Hid _ := hR
        clear hR hb2 Q HJ HK J2
        gi_wp2
        refine RoundIn.mono HR.out ?_
        rintro e W3 (⟨rfl, hJ3, hk3⟩ | ⟨rfl, hJx3⟩)
        · gi_wp2
          refine bodyPost_ret (results_none rfl _ _ _) rfl ?_
          exact ⟨⟨_, rfl⟩, .inl ⟨_, by rw [← HS'.out]; simp [Tx.core], hJ3⟩⟩
        · gi_wp2
          refine bodyPost_ret (results_none rfl _ _ _) rfl ?_
          exact ⟨⟨_, rfl⟩, .inr ⟨_, by rw [← HS'.out]; simp [Tx.core], hJx3⟩⟩
    · have hkl : k = len := by omega
      have E : Hid (sq f (zs.drop k) (k : Int) = []) := by
        show _ = _
        rw [List.drop_eq_nil_of_le (by rw [hzl.out]; omega)]
        exact sq_nil _ _
      gi_wp2
      go_end0
      exact ⟨⟨_, rfl⟩, .inl ⟨pre, by rw [← HS.out, E.out]; simp, HJ.out⟩⟩

end Go.Proofs.Ytjbppjemilijdaa
