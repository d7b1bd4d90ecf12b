/- Put together by a program out of these texts of mine: JRe2, JPub, HQue, HVis, HVis2, JVis, JVis2. -/
import Derived.Deep.RegionLaw
import Derived.Test.YtcnjjhdmnagkgaaGreatDoorBunC7
import Derived.Test.YtcnjjhdmnagkgaaGreatDoorBunC8

namespace Go.Proofs.YtcnjjhdmnagkgaaGreatDoor
open Go.RowKit
set_option linter.unusedVariables false
set_option linter.unusedSimpArgs false

theorem Mg.count {w : World} {b n : Nat} {g : ByteArray → Option Value} (h : Mg w b n g) {T : List ByteArray} (hT : ∀ k v, g k = some v → k ∈ T) : n ≤ T.length := by
  obtain ⟨es, clock, hb, hst, hkeys, hn, hg⟩ := h
  have hpw := ((MapKept.stamped_iff _ _).1 hst).2.2
  have := nodup_le (es.toList.map fun e => match e.key with | .string k => k | _ => ⟨#[]⟩) T (List.pairwise_map.2 (hpw.imp_of_mem fun {p q} hp hq hne e => hne (by
    obtain ⟨k1, h1, _⟩ := hkeys p hp
    obtain ⟨k2, h2, _⟩ := hkeys q hq
    rw [h1, h2] at e ⊢
    simp only at e
    rw [e]))) (fun x hx => by
    obtain ⟨e, he, rfl⟩ := List.mem_map.1 hx
    obtain ⟨k, hk, _⟩ := hkeys e he
    rw [hk]
    exact hT k e.val ((hg k _).2 ⟨e, he, hk, rfl⟩))
  rw [List.length_map] at this
  have h9 : es.toList.length = es.size := Array.length_toList
  omega

theorem Dfs.all {next : ByteArray → List ByteArray} {zs S' : List ByteArray} (h : Dfs next zs [] S') (x : ByteArray) : x ∈ S' ↔ Rch next zs x := by
  constructor
  · intro hx
    exact (h.from_ x hx).resolve_left (by simp)
  · intro hx
    exact hx.least (P := fun x => x ∈ S') h.met (fun x hx y hy => h.shut x hx (by simp) y hy)

theorem Rch.within {next : ByteArray → List ByteArray} {zs : List ByteArray} {l : List Un} (hl : Lead next l) {x : ByteArray} (h : Rch next zs x) : x ∈ zs ++ l.flatMap fun u => next u.path := by
  cases h with
  | seed h => simp [h]
  | step h hy =>
    rename_i y
    rcases hl y with ⟨u, hu, hup⟩ | h0
    · refine List.mem_append.2 (.inr (List.mem_flatMap.2 ⟨u, hu, ?_⟩))
      rw [hup]
      exact hy
    · rw [h0] at hy
      simp at hy

def rwait (v : Option Value) : Nat := match v with | some (.slice _ n _) => n | _ => 0

theorem Rc.start {W : World} {fv v : Value} :
    Rc W ((((((W.alloc (.cells #[fv] 154)).alloc (.map #[] 0)).alloc (.cells #[.map (some (W.heap.size + 1))] 160)).alloc (.cells #[v] 40)).alloc (.cells #[.func (.func 111) #[] #[.pointer (some ⟨W.heap.size + 3, 0, none⟩), .pointer (some ⟨W.heap.size + 2, 0, none⟩), .pointer (some ⟨W.heap.size + 4, 0, none⟩), .pointer (some ⟨W.heap.size, 0, none⟩)]] 188)).setCell ⟨W.heap.size + 3, 0, none⟩ (.slice none 0 0)) W.heap.size fv [] ∧
    ((((W.alloc (.cells #[fv] 154)).alloc (.map #[] 0)).alloc (.cells #[.map (some (W.heap.size + 1))] 160)).alloc (.cells #[v] 40)).heap[W.heap.size + 3]? = some (.cells #[v] 40 (0, 0)) := by
  obtain ⟨A1, hA1⟩ : ∃ A1, W.alloc (.cells #[fv] 154) = A1 := ⟨_, rfl⟩
  obtain ⟨A2, hA2⟩ : ∃ A2, A1.alloc (.map #[] 0) = A2 := ⟨_, rfl⟩
  obtain ⟨A3, hA3⟩ : ∃ A3, A2.alloc (.cells #[.map (some (W.heap.size + 1))] 160) = A3 := ⟨_, rfl⟩
  obtain ⟨A4, hA4⟩ : ∃ A4, A3.alloc (.cells #[v] 40) = A4 := ⟨_, rfl⟩
  obtain ⟨A5, hA5⟩ : ∃ A5, A4.alloc (.cells #[.func (.func 111) #[] #[.pointer (some ⟨W.heap.size + 3, 0, none⟩), .pointer (some ⟨W.heap.size + 2, 0, none⟩), .pointer (some ⟨W.heap.size + 4, 0, none⟩), .pointer (some ⟨W.heap.size, 0, none⟩)]] 188) = A5 := ⟨_, rfl⟩
  rw [hA1, hA2, hA3, hA4, hA5]
  have s1 : A1.heap.size = W.heap.size + 1 := by rw [← hA1]; simp
  have s2 : A2.heap.size = W.heap.size + 2 := by rw [← hA2]; simp [s1]
  have s3 : A3.heap.size = W.heap.size + 3 := by rw [← hA3]; simp [s2]
  have s4 : A4.heap.size = W.heap.size + 4 := by rw [← hA4]; simp [s3]
  have b1 : Below W.heap.size W A1 := by rw [← hA1]; exact (Below.refl _ _).alloc (Nat.le_refl _) _
  have b2 : Below A1.heap.size A1 A2 := by rw [← hA2]; exact (Below.refl _ _).alloc (Nat.le_refl _) _
  have b3 : Below A2.heap.size A2 A3 := by rw [← hA3]; exact (Below.refl _ _).alloc (Nat.le_refl _) _
  have b4 : Below A3.heap.size A3 A4 := by rw [← hA4]; exact (Below.refl _ _).alloc (Nat.le_refl _) _
  have b5 : Below A4.heap.size A4 A5 := by rw [← hA5]; exact (Below.refl _ _).alloc (Nat.le_refl _) _
  have n1 : A1.heap[W.heap.size]? = some (.cells #[fv] 154 (0, 0)) := by rw [← hA1]; exact heap_alloc_new _ _
  have n2 : Mg A2 (W.heap.size + 1) 0 (fun _ => none) := by rw [← hA2, ← s1]; exact Mg.made A1
  have n3 : A3.heap[W.heap.size + 2]? = some (.cells #[.map (some (W.heap.size + 1))] 160 (0, 0)) := by rw [← hA3, ← s2]; exact heap_alloc_new _ _
  have n4 : A4.heap[W.heap.size + 3]? = some (.cells #[v] 40 (0, 0)) := by rw [← hA4, ← s3]; exact heap_alloc_new _ _
  have n5 : A5.heap[W.heap.size + 4]? = some (.cells #[.func (.func 111) #[] #[.pointer (some ⟨W.heap.size + 3, 0, none⟩), .pointer (some ⟨W.heap.size + 2, 0, none⟩), .pointer (some ⟨W.heap.size + 4, 0, none⟩), .pointer (some ⟨W.heap.size, 0, none⟩)]] 188 (0, 0)) := by rw [← hA5, ← s4]; exact heap_alloc_new _ _
  have b45 : Below A3.heap.size A3 A5 := b4.trans (b5.mono b4.size)
  have b35 : Below A2.heap.size A2 A5 := b3.trans (b45.mono b3.size)
  have b25 : Below A1.heap.size A1 A5 := b2.trans (b35.mono b2.size)
  have b15 : Below W.heap.size W A5 := b1.trans (b25.mono b1.size)
  have n45 := (b5.block _ (by omega)).trans n4
  have oth : ∀ k, k ≠ W.heap.size + 3 → (A5.setCell ⟨W.heap.size + 3, 0, none⟩ (.slice none 0 0)).heap[k]? = A5.heap[k]? := fun k hk => heap_setCell_other _ _ _ _ (by simpa using hk)
  have hgr : A5.grownBy (A5.setCell ⟨W.heap.size + 3, 0, none⟩ (.slice none 0 0)) (some (W.heap.size + 3)) := ⟨rfl, rfl, rfl, by simp, fun k _ hk => oth k (fun e => hk (by rw [e]))⟩
  refine ⟨⟨(oth _ (by omega)).trans ((b25.block _ (by omega)).trans n1), ⟨0, (((n2.below b35 (by omega)).congr (fun x => by simp [gset, hin])).kept hgr (by simp))⟩, (oth _ (by omega)).trans ((b45.block _ (by omega)).trans n3), ?_, (oth _ (by omega)).trans n5, b15.setCell (p := ⟨W.heap.size + 3, 0, none⟩) (by simp) _⟩, n4⟩
  rw [blk_set n45 0 _]
  simp

def Rst (W wr : World) (fv : Value) (a : Option Addr) (n c : Nat) (next : ByteArray → List ByteArray) (zs : List ByteArray) : Prop :=
  (wr.heap[W.heap.size + 3]? = some (.cells #[.slice a n c] 40 (0, 0)) ∧ wr.cell? ⟨W.heap.size + 4, 0, none⟩ = some (.func (.func 111) #[] #[.pointer (some ⟨W.heap.size + 3, 0, none⟩), .pointer (some ⟨W.heap.size + 2, 0, none⟩), .pointer (some ⟨W.heap.size + 4, 0, none⟩), .pointer (some ⟨W.heap.size, 0, none⟩)]) ∧ Rc W (wr.setCell ⟨W.heap.size + 3, 0, none⟩ (.slice none 0 0)) W.heap.size fv [] ∧ Below W.heap.size W wr) ∨
  (∃ S', Rc W wr W.heap.size fv S' ∧ Dfs next zs [] S')

set_option maxRecDepth 10000 in
set_option maxHeartbeats 4000000 in
theorem preachW_any {W : World} {kf ub : Nat} {next : ByteArray → List ByteArray} {l : List Un} {a : Option Addr} {n c : Nat} {zs : List ByteArray} (hin0 : GoinJ kf) (hLd : Hid (Leads W W.heap.size kf ub next)) (hNx : Hid (∀ p, ∀ y ∈ next p, Tsm y)) (hlead : Hid (Lead next l)) (hll : Hid (l.length ≤ 900)) (hT : Hid ((zs ++ l.flatMap fun u => next u.path).length ≤ 1000000)) (hS : Hid (Sb W a n c zs)) (hz : Hid (∀ z ∈ zs, Tsm z)) (hn : 0 < n) :
    Calls Tryz.prog 74 #[.slice a n c, .func (.func kf) #[] #[.pointer (some ⟨ub, 0, none⟩)]] W fun e W' => ∃ v ys, e = .returned v ∧ Sw W' W.heap.size v ys ∧ Ris ys ∧ (∀ x, x ∈ ys ↔ Rch next zs x) ∧ Below W.heap.size W W' := by
  have hmf : ∀ (fn : Fn) (first cap : Array Value) (w : World), (Instr.makeFunc fn first cap).run Tryz.prog w = .ok (.func fn first cap) w := fun _ _ _ _ => rfl
  have hmm := @run_makeMap Tryz.prog
  obtain ⟨fv, hfv⟩ : ∃ fv, fv = Value.func (.func kf) #[] #[.pointer (some ⟨ub, 0, none⟩)] := ⟨_, rfl⟩
  have e5 : (((((W.alloc (.cells #[.func (.func kf) #[] #[.pointer (some ⟨ub, 0, none⟩)]] 154)).alloc (.map #[] 0)).alloc (.cells #[.map (some (W.heap.size + 1))] 160)).alloc (.cells #[.slice a n c] 40)).alloc (.cells #[.nilFunc] 188)).heap[W.heap.size + 1 + 1 + 1 + 1]? = some (.cells #[.nilFunc] 188 (0, 0)) := by
    have := heap_alloc_new ((((W.alloc (.cells #[.func (.func kf) #[] #[.pointer (some ⟨ub, 0, none⟩)]] 154)).alloc (.map #[] 0)).alloc (.cells #[.map (some (W.heap.size + 1))] 160)).alloc (.cells #[.slice a n c] 40)) (.cells #[.nilFunc] 188)
    simpa using this
  obtain ⟨c5, f5, g5⟩ := box_cell e5
  clear e5
  have hn3 := hS.out.h63
  go_enter Tryz.func74, Tryz.ntmps74
  go_wp2
  go_loopw [8] (fun v wr => Hid (Rst W wr (.func (.func kf) #[] #[.pointer (some ⟨ub, 0, none⟩)]) a n c next zs)) (fun _ wr => rwait (wr.cell? ⟨W.heap.size + 3, 0, none⟩))
  case atStart =>
    obtain ⟨r1, r2⟩ := Rc.start (W := W) (fv := .func (.func kf) #[] #[.pointer (some ⟨ub, 0, none⟩)]) (v := .slice a n c)
    refine .inl ⟨?_, ?_, r1, ?_⟩
    · rw [Below.heap_alloc _ _ _ (by simp)]
      exact r2
    · have h9 := r1.be
      rw [heap_setCell_other _ _ _ _ (by simp)] at h9
      exact (box_cell h9).1
    · exact (((((Below.refl _ W).alloc (Nat.le_refl _) _).alloc (by simp) _).alloc (by simp; omega) _).alloc (by simp; omega) _).alloc (by simp; omega) _
  case round =>
    rcases hrel.out with ⟨hb, he, hR, hB⟩ | ⟨S', hR, hD⟩
    · obtain ⟨x1, x2, x3⟩ := box_cell hb
      have Q : Hid _ := preach_any hin0 hLd hNx hlead (l.length + 1) a n c zs 0 [] _ (hS.out.below ((hB.setCell (p := ⟨W.heap.size + 3, 0, none⟩) (by simp) (.slice none 0 0)))) hz hR (.inr (by have := ucnt_le l []; omega)) ⟨by omega, by have := hll.out; omega⟩
      have y1 : (wr.setCell ⟨W.heap.size + 3, 0, none⟩ (.slice none 0 0)).cell? ⟨W.heap.size + 4, 0, none⟩ = some (.func (.func 111) #[] #[.pointer (some ⟨W.heap.size + 3, 0, none⟩), .pointer (some ⟨W.heap.size + 2, 0, none⟩), .pointer (some ⟨W.heap.size + 4, 0, none⟩), .pointer (some ⟨W.heap.size, 0, none⟩)]) := (box_cell hR.be).1
      have hgt : ((n : Int) > 0) := by omega
      clear hb hB hR hrel
      go_wp2_with fail
      refine Calls.mono Q.out ?_
      rintro e w1 ⟨rfl, S', hR1, _, hD1⟩
      have HR1 : Hid _ := And.intro hR1 hD1
      have HMs : Hid (rwait (w1.cell? ⟨W.heap.size + 3, 0, none⟩) = 0) := by
        show _ = _
        rw [(box_cell hR1.bw).1]
        rfl
      have HMr : Hid (rwait (wr.cell? ⟨W.heap.size + 3, 0, none⟩) = n) := by
        show _ = _
        rw [x1]
        rfl
      clear hR1 hD1 Q
      go_wp2
      go_roundw
      case rel => first | exact .inr ⟨S', HR1.out.1, HR1.out.2⟩ | ((repeat apply Exists.intro); exact ⟨.inr ⟨S', HR1.out.1, HR1.out.2⟩, rfl⟩)
      case measure => have h8 := HMs.out; have h9 := HMr.out; omega
    · obtain ⟨x1, x2, x3⟩ := box_cell hR.bw
      obtain ⟨m1, m2, m3⟩ := box_cell hR.bm
      obtain ⟨nn, hM⟩ := hR.mm
      have hcnt := hM.count (T := zs ++ l.flatMap fun u => next u.path) (fun k v hk => by
        unfold gset at hk
        split at hk
        · rename_i h; exact ((hD.all k).1 ((hin_iff _ _).1 h)).within hlead.out
        · cases hk)
      have QS : Hid _ := psorted_any hM (by have := hT.out; omega)
      have HR1 : Hid _ := And.intro hR hD
      clear hR hD hM hrel hcnt
      go_wp2_with fail
      refine Calls.mono (pkeys_any _ _) ?_
      rintro e w1 ⟨rfl, rfl⟩
      go_wp2_with fail
      refine Calls.mono QS.out ?_
      rintro e w2 ⟨v, ys, rfl, hs2, hris, hmem, hb2⟩
      have QC : Hid _ := pcopied_any (W := w2) (base := wr.heap.size + 1) (v := v) (zs := ys) hs2 (fun z hz1 => by
        have h7 := (HR1.out.2.all z).1 ((hmem z).1 hz1)
        exact h7.least (P := fun x => Tsm x) hz.out (fun x _ y hy => hNx.out x y hy)) (by have := hb2.size; simp at this; show _ ≤ _; omega)
      have HY : Hid _ := And.intro hris hmem
      have HB2 : Hid (Below W.heap.size W w2) := by
        have h7 := HR1.out.1.size
        exact (HR1.out.1.below.trans ((Below.refl _ wr).alloc (by omega) _)).trans (hb2.mono (by omega))
      have HWl : Hid (W.heap.size ≤ wr.heap.size + 1) := by have h7 := HR1.out.1.size; show _ ≤ _; omega
      clear hs2 hris hmem hb2 QS
      go_wp2_with fail
      refine Calls.mono QC.out ?_
      rintro e w3 ⟨rfl, hs3, hb3⟩
      have HS3 : Hid _ := hs3
      have HB3 : Hid (Below W.heap.size W w3) := HB2.out.trans (hb3.mono HWl.out)
      clear hs3 hb3 QC
      go_wp2
      go_ret
      exact ⟨v, ys, rfl, Sw.base HS3.out HWl.out, HY.out.1, fun x => (HY.out.2 x).trans (HR1.out.2.all x), HB3.out⟩

def upub1 (ds : List ByteArray) (n : Int) : List ByteArray := if 0 ≤ n ∧ n < (ds.length : Int) then [ds.getD n.toNat default] else []

theorem upubs_eq (u : Un) : upubs u = u.pub.flatMap (upub1 u.deps) := by
  unfold upubs
  induction u.pub with
  | nil => rfl
  | cons n r ih =>
    rw [List.flatMap_cons, ← ih, List.filter_cons]
    unfold upub1
    by_cases h : 0 ≤ n ∧ n < (u.deps.length : Int)
    · rw [if_pos h, if_pos (by simpa using h)]; rfl
    · rw [if_neg h, if_neg (by simpa using h)]; rfl

theorem flat_takeJ {ds : List ByteArray} {l : List Int} {k : Nat} {z : Int} (h : l[k]? = some z) : (l.take (k + 1)).flatMap (upub1 ds) = (l.take k).flatMap (upub1 ds) ++ upub1 ds z := by
  rw [take_snoc h, List.flatMap_append]
  simp

theorem flat_lenJ (ds : List ByteArray) : ∀ l : List Int, (l.flatMap (upub1 ds)).length ≤ l.length
  | [] => by simp
  | z :: l => by
    rw [List.flatMap_cons, List.length_append, List.length_cons]
    have := flat_lenJ ds l
    have h1 : (upub1 ds z).length ≤ 1 := by unfold upub1; split <;> simp
    omega

set_option maxRecDepth 10000 in
set_option maxHeartbeats 4000000 in
theorem ppub_any {w : World} (p : ByteArray) (da pa : Option Addr) (dc pc : Nat) (ds : List ByteArray) (ps : List Int) (hD : Hid (Sb w da ds.length dc ds)) (hN : Hid (Sn w pa ps.length pc ps)) (hl : ps.length ≤ 1000) (W : World) (hB : Hid (Below w.heap.size w W)) :
    Calls Tryz.prog 76 #[.agg #[.string p, .slice da ds.length dc, .slice pa ps.length pc]] W fun e W' => ∃ v, e = .returned v ∧ Sw W' W.heap.size v (ps.flatMap (upub1 ds)) ∧ Below W.heap.size W W' := by
  obtain ⟨h1, h2, h3, h4, h6⟩ := hD.out.below hB.out
  obtain ⟨m1, m2, m3, m4, m5, m6⟩ := hN.out.below hB.out
  have H6 : Hid _ := h6
  have M6 : Hid _ := m6
  have M5 : Hid _ := m5
  clear h1 m1 h6 m6 m5 hD hN hB
  go_enter Tryz.func76, Tryz.ntmps76
  go_wp2
  go_loopw [3, 9] (fun vl v wr => ∃ (k : Nat), v = .int .i64 (k : Int) ∧ k ≤ ps.length ∧ Hid (Sw wr (W.heap.size + 1) vl ((ps.take k).flatMap (upub1 ds))) ∧ Hid (Below (W.heap.size + 1) (W.alloc (.cells #[.string p, .slice da ds.length dc, .slice pa ps.length pc] 104)) wr)) (fun _ v _ => ps.length - (intOf v).toNat)
  case atStart => exact ⟨0, rfl, by omega, (by show Sw _ _ _ _; exact Sw.nil _ _), Below.refl _ _⟩
  case round =>
    obtain ⟨k, rfl, hk, HS, HB⟩ := hrel
    have hbs := HB.out.size
    simp at hbs
    have c1 := HB.out.cell (p := ⟨W.heap.size, 1, none⟩) (by simp)
    rw [World.cell?_alloc_new] at c1
    simp at c1
    have hgl : W.heap.size < wr.heap.size := by omega
    obtain ⟨oa, oc, hv⟩ := HS.out.slice
    subst hv
    by_cases hkl : k < ps.length
    · obtain ⟨b, off, rfl, hlt, hc⟩ := M6.out (by omega)
      obtain ⟨z, hz⟩ : ∃ z, ps[k]? = some z := ⟨ps[k]'hkl, List.getElem?_eq_getElem hkl⟩
      have hBW : Below W.heap.size W wr := ((Below.refl _ W).alloc (Nat.le_refl _) _).trans (HB.out.mono (by omega))
      have hcell := (hBW.cell hlt).trans (hc k z hz)
      have hlt2 : b < wr.heap.size := Nat.lt_of_lt_of_le hlt hBW.size
      obtain ⟨z0, z1⟩ := M5.out z (List.mem_of_getElem? hz)
      have HF : Hid _ := flat_takeJ (ds := ds) hz
      by_cases hq : 0 ≤ z ∧ z < (ds.length : Int)
      · obtain ⟨b2, off2, rfl, hlt3, hc2⟩ := H6.out (by omega)
        obtain ⟨d, hd⟩ : ∃ d, ds[z.toNat]? = some d := ⟨ds[z.toNat]'(by omega), List.getElem?_eq_getElem (by omega)⟩
        have hcell2 := (hBW.cell hlt3).trans (hc2 z.toNat d hd)
        have hlt4 : b2 < wr.heap.size := Nat.lt_of_lt_of_le hlt3 hBW.size
        have HF2 : Hid ((ps.take (k + 1)).flatMap (upub1 ds) = (ps.take k).flatMap (upub1 ds) ++ [d]) := by
          show _ = _
          rw [HF.out]
          unfold upub1
          rw [if_pos hq]
          simp [List.getD, hd]
        have HA : Hid (Below wr.heap.size wr (wr.alloc (.cells #[.string d] 9))) := (Below.refl _ _).alloc (Nat.le_refl _) _
        have HSA : Hid (Sw (wr.alloc (.cells #[.string d] 9)) (W.heap.size + 1) (.slice oa ((ps.take k).flatMap (upub1 ds)).length oc) ((ps.take k).flatMap (upub1 ds))) := HS.out.below HA.out
        have HCp : Hid _ := text_cell wr d
        have HOl : Hid (((ps.take k).flatMap (upub1 ds)).length + 1 ≤ 1000000) := by
          show _ ≤ _
          have h8 := flat_lenJ ds (ps.take k)
          rw [List.length_take] at h8
          omega
        have HBs : Hid (W.heap.size + 1 ≤ (wr.alloc (.cells #[.string d] 9)).heap.size) := by show _ ≤ _; simp; omega
        obtain ⟨hq1, hq2⟩ := hq
        clear hc hz hc2 hd hBW HF
        generalize (ps.take k).flatMap (upub1 ds) = ls at HS HSA HOl HF2
        go_wp2_with (at_builtin; refine wpList_append_sw rfl _ _ rfl (W.heap.size + 1) (.slice oa ls.length oc) ls d wr.heap.size 1 rfl rfl HSA.out HCp.out HOl.out HBs.out ?_; intro v' w3 hN3 hg3 hat3; have HB3 : Hid (Below (W.heap.size + 1) (W.alloc (.cells #[.string p, .slice (some ⟨b2, off2, none⟩) ds.length dc, .slice (some ⟨b, off, none⟩) ps.length pc] 104)) w3) := (HB.out.trans (HA.out.mono (by omega))).grown hg3 (by have := HA.out.size; omega) (fun k hk => by have := (own_at HSA.out hk).1; omega); obtain ⟨va, vc, hv⟩ := hN3.slice; rw [List.length_append, List.length_singleton] at hv; subst hv; have HS3 : Hid (Sw w3 (W.heap.size + 1) (.slice va (ls.length + 1) vc) ((ps.take (k + 1)).flatMap (upub1 ds))) := (HF2.out ▸ hN3); clear hN3 hg3 hat3)
        go_roundw
        case rel => first | exact ⟨k + 1, by go_num, by omega, HS3, HB3⟩ | ((repeat apply Exists.intro); exact ⟨⟨k + 1, by go_num, by omega, HS3, HB3⟩, rfl⟩)
        case measure => simp [intOf]; omega
      · have HS2 : Hid (Sw wr (W.heap.size + 1) (.slice oa ((ps.take k).flatMap (upub1 ds)).length oc) ((ps.take (k + 1)).flatMap (upub1 ds))) := by
          show Sw _ _ _ _
          rw [HF.out]
          unfold upub1
          rw [if_neg hq, List.append_nil]
          exact HS.out
        clear hc hz hBW HF HS
        by_cases hq1 : 0 ≤ z
        · have hq2 : ¬ z < (ds.length : Int) := fun h => hq ⟨hq1, h⟩
          clear hq
          go_wp2
          go_roundw
          case rel => first | exact ⟨k + 1, by go_num, by omega, HS2, HB⟩ | ((repeat apply Exists.intro); exact ⟨⟨k + 1, by go_num, by omega, HS2, HB⟩, rfl⟩)
          case measure => simp [intOf]; omega
        · clear hq
          go_wp2
          go_roundw
          case rel => first | exact ⟨k + 1, by go_num, by omega, HS2, HB⟩ | ((repeat apply Exists.intro); exact ⟨⟨k + 1, by go_num, by omega, HS2, HB⟩, rfl⟩)
          case measure => simp [intOf]; omega
    · obtain rfl : k = ps.length := by omega
      have HS2 : Hid (Sw wr (W.heap.size + 1) (.slice oa ((ps.take ps.length).flatMap (upub1 ds)).length oc) (ps.flatMap (upub1 ds))) := by
        have := HS.out
        rw [List.take_length] at this ⊢
        exact this
      have HBW : Hid (Below W.heap.size W wr) := ((Below.refl _ W).alloc (Nat.le_refl _) _).trans (HB.out.mono (by omega))
      clear HS
      go_wp2
      go_ret
      exact ⟨_, rfl, HS2.out.base (by omega), HBW.out⟩

def Sq (w : World) (base : Nat) (v : Value) (zs : List ByteArray) : Prop :=
  (v = .slice none 0 0 ∧ zs = []) ∨ ∃ g o cap cur, v = .slice (some ⟨g, o, none⟩) zs.length cap ∧ base ≤ g ∧ w.heap[g]? = some (.cells cur 9 (0, 0)) ∧ zs.length ≤ cap ∧ o + cap ≤ cur.size ∧ cap ≤ maxLen ∧ (cur.toList.drop o).take zs.length = zs.map Value.string

theorem Sq.of_own {w : World} {base : Nat} {v : Value} {zs : List ByteArray} (h : Sw w base v zs) : Sq w base v zs := by
  rcases h.2 with ⟨he, hn⟩ | ⟨g, c, cur, he, hg, hh, h1, h2, h3, h4⟩
  · exact .inl ⟨he, List.eq_nil_of_length_eq_zero hn⟩
  · exact .inr ⟨g, 0, c, cur, he, hg, hh, h1, by omega, h2, by simpa using h4⟩

theorem Sq.slice {w : World} {base : Nat} {v : Value} {zs : List ByteArray} (h : Sq w base v zs) : ∃ a c, v = .slice a zs.length c := by
  rcases h with ⟨h, rfl⟩ | ⟨g, o, cap, cur, h, _⟩
  · exact ⟨_, _, h⟩
  · exact ⟨_, _, h⟩

theorem run_append_room_at {P : Program} (w : World) (t ty e : TypeId) (i : TypeInfo) (ht : P.underlying t = some (.slice e)) (hi : P.info? e = some i)
    (g o sLen sCap : Nat) (cur : Array Value) (hg : w.heap[g]? = some (.cells cur e (0, 0)))
    (a : Addr) (m c : Nat) (news : List Value) (hl : news.length = m * i.size) (hnews : ∀ j u, news[j]? = some u → w.cell? (a.add j) = some u) (h1 : ∀ u ∈ news, u.oneCell' = true)
    (hroom : sLen + m ≤ sCap) (hfit : o + sLen * i.size + news.length ≤ cur.size) :
    (Builtin.append_ #[t, t] ty #[.slice (some ⟨g, o, none⟩) sLen sCap, .slice (some a) m c]).run P w =
      .ok (.slice (some ⟨g, o, none⟩) (sLen + m) sCap) (w.setRow g (cur.toList.take (o + sLen * i.size) ++ news ++ cur.toList.drop (o + sLen * i.size + news.length)).toArray) := by
  have hf := run_firstCells_some (P := P) w i.size m a m c news hl hnews
  have hst := run_storeCells_at P g (o + sLen * i.size) e news 0 cur w hg (by simpa using hfit) h1
  simp only [Nat.add_zero] at hst
  have hadd : (⟨g, o, none⟩ : Addr).add (sLen * i.size) = ⟨g, o + sLen * i.size, none⟩ := by unfold Addr.add; split <;> simp_all
  simp [Builtin.append_, run_underlying ht, sizeOf, typeInfo, hi, Builtin.lenOf, hroom, hf, hadd, hst]

theorem run_append_sq {w : World} {base : Nat} {v : Value} {zs : List ByteArray} (h : Sq w base v zs) (ty : TypeId) (ad : Addr) (m c : Nat) (news : List ByteArray) (hl : news.length = m) (hnews : ∀ (j : Nat) (z : ByteArray), news[j]? = some z → w.cell? (ad.add j) = some (.string z)) (hn : zs.length + m ≤ 1000000) (hbase : base ≤ w.heap.size) :
    ∃ v' w', (Builtin.append_ #[40, 40] ty #[v, .slice (some ad) m c]).run Tryz.prog w = .ok v' w' ∧ Sq w' base v' (zs ++ news) ∧ w.grownBy w' v.ownBlock ∧ (v'.ownBlock = v.ownBlock ∨ v'.ownBlock = some w.heap.size) := by
  obtain ⟨i0, hi, hz0, hz1, hz2⟩ := info_parts Tryz.infoStr2
  have hnw : ∀ (j : Nat) (u : Value), (news.map Value.string)[j]? = some u → w.cell? (ad.add j) = some u := by
    intro j u hj
    rw [List.getElem?_map] at hj
    cases hq : news[j]? with
    | none => rw [hq] at hj; cases hj
    | some z =>
      rw [hq] at hj
      cases hj
      exact hnews j z hq
  have h1 : ∀ u ∈ news.map Value.string, u.oneCell' = true := by
    intro u hu
    obtain ⟨z, _, rfl⟩ := List.mem_map.1 hu
    rfl
  rcases h with ⟨rfl, rfl⟩ | ⟨g, o, cap, cur, rfl, hb, hg, hc, hoc, hcm, htk⟩
  · obtain ⟨v', w', hr, h2, h3, _, h4⟩ := run_append_own_at (P := Tryz.prog) w base 40 ty 9 i0 _ 1 16 Tryz.underlying40 hi hz0 hz1 hz2 rfl (by decide) (.slice none 0 0) 0 [] (World.ownsRow_nil _ _ _ _) ad m c (news.map Value.string) (by simp [hl]) hnw h1 (by unfold maxLen; omega) (by omega) hbase
    refine ⟨v', w', hr, Sq.of_own (zs := news) ?_, h3, h4⟩
    unfold Sw
    rw [hl]
    simpa using h2
  · by_cases hroom : zs.length + m ≤ cap
    · have hr := run_append_room_at (P := Tryz.prog) w 40 ty 9 i0 Tryz.underlying40 hi g o zs.length cap cur hg ad m c (news.map Value.string) (by rw [hz1]; simp [hl]) hnw h1 hroom (by rw [hz1]; simp [hl]; omega)
      rw [hz1] at hr
      refine ⟨_, _, hr, .inr ⟨g, o, cap, _, by rw [List.length_append, hl], hb, setRow_heap w g cur _ _ _ hg, by rw [List.length_append, hl]; exact hroom, ?_, hcm, ?_⟩, ⟨rfl, rfl, rfl, by simp, fun k _ hk => setRow_other w g k _ (fun e => hk (by simp [Value.ownBlock, e]))⟩, Or.inl rfl⟩
      · simp only [List.size_toArray, List.length_append, List.length_take, List.length_drop, Array.length_toList, List.length_map]
        omega
      · simp only [List.toList_toArray, Nat.mul_one, List.length_map, List.length_append, List.map_append]
        have hlen : (cur.toList.take (o + zs.length)).length = o + zs.length := by simp; omega
        rw [List.append_assoc, List.drop_append_of_le_length (by omega), List.drop_take, show o + zs.length - o = zs.length by omega, htk, ← List.append_assoc]
        exact List.take_left' (by simp)
    · have holds : ∀ (j : Nat) (u : Value), (zs.map Value.string)[j]? = some u → w.cell? ((⟨g, o, none⟩ : Addr).add j) = some u := by
        intro j u hj
        have hp : (⟨g, o, none⟩ : Addr).add j = ⟨g, o + j, none⟩ := by unfold Addr.add; split <;> simp_all
        rw [hp, ← htk, List.getElem?_take] at *
        split at hj
        · rw [List.getElem?_drop] at hj
          simp only [World.cell?, hg]
          simpa using hj
        · cases hj
      have hr := run_append_grow (P := Tryz.prog) w 40 ty 9 i0 _ Tryz.underlying40 hi hz0 ⟨g, o, none⟩ zs.length cap (zs.map Value.string) (by rw [hz1]; simp) holds ad m c (news.map Value.string) (by rw [hz1]; simp [hl]) hnw (by omega) (by omega) (growslice_fits (by omega) (by rw [hz2]; omega))
      have hge := grownCap_ge w (zs.length + m) cap 9
      have hcm2 : grownCap w (zs.length + m) cap 9 ≤ maxLen := grownCap_le_maxLen w (zs.length + m) cap 9 (by unfold maxLen; omega)
      refine ⟨_, _, hr, .inr ⟨w.heap.size, 0, _, _, by rw [List.length_append, hl], hbase, heap_alloc_new w.drew _, by rw [List.length_append, hl]; exact hge, ?_, hcm2, ?_⟩, ⟨rfl, rfl, rfl, by simp, fun k hk _ => heap_alloc_old w.drew _ hk⟩, Or.inr rfl⟩
      · simp only [Array.size_append, List.size_toArray, size_zeroCells, List.length_map, hl]
        have : (Value.string { data := #[] }).cells.size = 1 := rfl
        rw [this]
        omega
      · simp only [Array.toList_append, List.drop_zero, List.append_assoc, List.map_append, List.length_append]
        rw [← List.append_assoc]
        exact List.take_left' (by simp)

theorem Sb.news {w : World} {ad : Addr} {m c : Nat} {news : List ByteArray} (h : Sb w (some ad) m c news) : ∀ (j : Nat) (z : ByteArray), news[j]? = some z → w.cell? (ad.add j) = some (.string z) := by
  intro j z hj
  have hjl : j < m := by rw [← h.hlen]; exact (List.getElem?_eq_some_iff.1 hj).1
  obtain ⟨b, off, e, _, hc⟩ := h.hmem (by omega)
  simp at e
  subst e
  have hp : (⟨b, off, none⟩ : Addr).add j = ⟨b, off + j, none⟩ := by unfold Addr.add; split <;> simp_all
  rw [hp]
  exact hc j z hj

theorem run_append_sqs {w : World} {base : Nat} {v : Value} {zs : List ByteArray} (h : Sq w base v zs) (ty : TypeId) {a : Option Addr} {m c : Nat} {news : List ByteArray} (hs : Sb w a m c news) (hn : zs.length + m ≤ 1000000) (hbase : base ≤ w.heap.size) :
    ∃ v' w', (Builtin.append_ #[40, 40] ty #[v, .slice a m c]).run Tryz.prog w = .ok v' w' ∧ Sq w' base v' (zs ++ news) ∧ w.grownBy w' v.ownBlock ∧ (v'.ownBlock = v.ownBlock ∨ v'.ownBlock = some w.heap.size) := by
  cases a with
  | some ad => exact run_append_sq h ty ad m c news hs.hlen hs.news hn hbase
  | none =>
    have hc := hs.hnil rfl
    have hcap := hs.hcap
    have hl : m = 0 := by omega
    subst hc hl
    have hz : news = [] := List.eq_nil_of_length_eq_zero hs.hlen
    subst hz
    obtain ⟨i0, hi, hz0, hz1, hz2⟩ := info_parts Tryz.infoStr2
    refine ⟨v, w, ?_, by simpa using h, ⟨rfl, rfl, rfl, Nat.le_refl _, fun _ _ _ => rfl⟩, .inl rfl⟩
    rcases h with ⟨rfl, rfl⟩ | ⟨g, o, cap, cur, rfl, hb, hg, hc, hoc, hcm, htk⟩
    · simp [Builtin.append_, run_underlying Tryz.underlying40, sizeOf, typeInfo, hi, Builtin.lenOf, Builtin.firstCells, loadCells, loadCellsFrom]
    · simp [Builtin.append_, run_underlying Tryz.underlying40, sizeOf, typeInfo, hi, Builtin.lenOf, Builtin.firstCells, loadCells, loadCellsFrom, storeCells, hc]

open Classical in
noncomputable def leastOf (P : Nat → Prop) : Nat := if h : ∃ n, P n then Classical.choose (exists_least h) else 0

theorem wpList_append_run {w : World} {ops : Array Oper} {rest : List Oper} {o : Oper} {f : Act} {Q : Exit → Act → World → Prop} (hgd : o.guard = none) (s x : Operand)
    (ho : o.op = .call { callee := .builtin .append, args := #[s, x], argTypes := #[40, 40] }) {vs vx v' : Value} {w' : World} (hs : f.eval s = vs) (hx : f.eval x = vx) (hrun : (Builtin.append_ #[40, 40] o.type #[vs, vx]).run Tryz.prog w = .ok v' w') (h : wpList Tryz.prog ops Q rest (f.put o.dst v') w') :
    wpList Tryz.prog ops Q (o :: rest) f w := by
  refine wpList_plain hgd fun K hK => ?_
  unfold Oper.wp
  simp [execOp, ho, resolve, invoke, builtin, hs, hx, hrun, Result.andThen]
  exact hK _ _ h

theorem Sb.of_sq {w : World} {base : Nat} {a : Option Addr} {n c : Nat} {zs : List ByteArray} (h : Sq w base (.slice a n c) zs) : Sb w a n c zs := by
  rcases h with ⟨he, rfl⟩ | ⟨g, o, cap, cur, he, hg, hh, h1, h2, h3, h4⟩
  · simp only [Value.slice.injEq] at he
    obtain ⟨rfl, rfl, rfl⟩ := he
    exact ⟨rfl, by simp, Nat.le_refl _, fun _ => rfl, fun h => absurd h (by simp)⟩
  · simp only [Value.slice.injEq] at he
    obtain ⟨rfl, rfl, rfl⟩ := he
    refine ⟨rfl, by unfold maxLen at h3; omega, h1, (fun h => by simp at h), fun _ => ⟨g, o, rfl, (Array.getElem?_eq_some_iff.1 hh).1, fun i z hi => ?_⟩⟩
    have hil : i < zs.length := (List.getElem?_eq_some_iff.1 hi).1
    have h5 : ((cur.toList.drop o).take zs.length)[i]? = (zs.map Value.string)[i]? := by rw [h4]
    rw [List.getElem?_take_of_lt hil, List.getElem?_drop, List.getElem?_map, hi] at h5
    have h6 : cur[o + i]? = some (.string z) := by simpa using h5
    simp [World.cell?, hh, h6]

structure Ub (W : World) (ub um : Nat) (us : List Um) : Prop where
  box : W.heap[ub]? = some (.cells #[.map (some um)] 149 (0, 0))
  map : ∃ n, Mg W um n (ug us)

theorem Ub.under {W V : World} {ub um : Nat} {us : List Um} (h : Ub W ub um us) (hb : Below W.heap.size W V) : Ub V ub um us := by
  obtain ⟨n, hM⟩ := h.map
  exact ⟨(hb.block _ (Array.getElem?_eq_some_iff.1 h.box).1).trans h.box, n, hM.below hb hM.lt⟩

theorem hpubs_none {l : List Un} {p : ByteArray} (h : hunit l p = none) : hpubs l p = [] := by unfold hpubs; rw [h]

theorem hpubs_of {l : List Un} {p : ByteArray} {u : Un} (h : hunit l p = some u) : hpubs l p = u.pub.flatMap (upub1 u.deps) := by unfold hpubs; rw [h]; exact upubs_eq u

theorem hU_at {w : World} {a : Option Addr} {len cap : Nat} {us : List Um} (hU : Ul w a len cap us) {u : Um} (hu : u ∈ us) : Sb w u.da u.deps.length u.dc u.deps ∧ Sn w u.pa u.pub.length u.pc u.pub := by
  obtain ⟨j, hj⟩ := List.getElem?_of_mem hu
  exact hU.hall j u hj

set_option maxHeartbeats 1000000 in
theorem leads_pubs {w W : World} {a : Option Addr} {len cap ub um : Nat} {us : List Um} (hU : Hid (Ul w a len cap us)) (hfw : Hid (hfew us = true)) (hB : Hid (Below w.heap.size w W)) (hub : Hid (Ub W ub um us)) : Leads W W.heap.size 75 ub (hpubs (us.map Um.un)) := by
  intro p V hp hV
  have hu := hub.out.under hV
  obtain ⟨x1, x2, x3⟩ := box_cell hu.box
  obtain ⟨n, hM⟩ := hu.map
  have hlk := hM.look Tryz.underlying149 (zeroUnit _) p hp.out.key false
  cases hq : ug us p with
  | none =>
    rw [hq] at hlk
    simp only [mlook] at hlk
    have E : Hid (hpubs (us.map Um.un) p = []) := hpubs_none (ug_none hq)
    have Q : Hid _ := ppub_any (w := V) ⟨#[]⟩ none none 0 0 [] [] ⟨rfl, by simp, Nat.le_refl _, fun _ => rfl, fun h => absurd h (by simp)⟩ ⟨rfl, by simp, Nat.le_refl _, fun _ => rfl, (fun z hz => by cases hz), fun h => absurd h (by simp)⟩ (by simp) V (Below.refl _ _)
    simp only [List.length_nil] at Q
    clear hM hu hq hub hB hU
    go_enter Tryz.func75, Tryz.ntmps75
    go_wp2_with fail
    refine Calls.mono Q.out ?_
    rintro e w1 ⟨v, rfl, hs, hb⟩
    obtain ⟨sa, sc, rfl⟩ := hs.slice
    have HS : Hid _ := Sb.of_own hs
    have HB : Hid _ := hb
    clear hs hb Q
    go_wp2
    go_ret
    exact ⟨sa, _, sc, rfl, (by rw [E.out]; exact HS), HB.out⟩
  | some v =>
    rw [hq] at hlk
    obtain ⟨u, hum, hup, rfl, hun⟩ := ug_some hq
    clear hup
    simp only [mlook, Um.val] at hlk
    have E : Hid (hpubs (us.map Um.un) p = u.pub.flatMap (upub1 u.deps)) := hpubs_of hun
    have hl : u.pub.length ≤ 1000 := by
      obtain ⟨j, hj⟩ := List.getElem?_of_mem hum
      have := ((hfew_of hfw.out).2 j u hj).2
      omega
    have hS1 := (hU_at hU.out hum).1
    have hS2 := (hU_at hU.out hum).2
    have hBV : Below w.heap.size w V := hB.out.trans (hV.mono hB.out.size)
    clear hM hu hq hub hB hU hun hum
    obtain ⟨up, uda, udc, ud, upa, upc, upb⟩ := u
    simp only at hlk E hS1 hS2 hl
    have Q : Hid (Calls Tryz.prog 76 #[.agg #[.string up, .slice uda ud.length udc, .slice upa upb.length upc]] V fun e W' => ∃ v, e = .returned v ∧ Sw W' V.heap.size v (upb.flatMap (upub1 ud)) ∧ Below V.heap.size V W') := ppub_any up uda upa udc upc ud upb hS1 hS2 hl V hBV
    clear hS1 hS2 hBV hl
    generalize upb.flatMap (upub1 ud) = L at Q E
    go_enter Tryz.func75, Tryz.ntmps75
    go_wp2_with fail
    refine Calls.mono Q.out ?_
    rintro e w1 ⟨v, rfl, hs, hb⟩
    obtain ⟨sa, sc, rfl⟩ := hs.slice
    have HS : Hid (Sb w1 sa L.length sc L) := Sb.of_own hs
    have HB : Hid _ := hb
    clear hs hb Q
    go_wp2
    go_ret
    exact ⟨sa, L.length, sc, rfl, (by rw [E.out]; exact HS), HB.out⟩

theorem flat_few {l : List Un} {f : Un → List ByteArray} (h : ∀ u ∈ l, (f u).length ≤ 30) : (l.flatMap f).length ≤ l.length * 30 := by
  induction l with
  | nil => simp
  | cons u l ih =>
    have h1 := h u (by simp)
    have h2 := ih (fun v hv => h v (by simp [hv]))
    simp only [List.flatMap_cons, List.length_append, List.length_cons]
    omega

theorem hpubs_le30 {us : List Um} (hf : hfew us = true) (p : ByteArray) : (hpubs (us.map Um.un) p).length ≤ 30 := by
  cases h : hunit (us.map Um.un) p with
  | none => rw [hpubs_none h]; simp
  | some u =>
    rw [hpubs_of h]
    obtain ⟨m, hm, rfl⟩ := List.mem_map.1 (hunit_some h).1
    obtain ⟨j, hj⟩ := List.getElem?_of_mem hm
    exact Nat.le_trans (flat_lenJ _ _) ((hfew_of hf).2 j m hj).2

theorem hdeps_tsm {us : List Um} (hs : Usm us) (p : ByteArray) : ∀ y ∈ hdeps (us.map Um.un) p, Tsm y := by
  intro y hy
  unfold hdeps at hy
  cases h : hunit (us.map Um.un) p with
  | none => rw [h] at hy; simp at hy
  | some u =>
    rw [h] at hy
    obtain ⟨m, hm, rfl⟩ := List.mem_map.1 (hunit_some h).1
    exact (hs m hm).2 y hy

theorem hpubs_sub {l : List Un} (p : ByteArray) : ∀ y ∈ hpubs l p, y ∈ hdeps l p := by
  intro y hy
  cases h : hunit l p with
  | none => rw [hpubs_none h] at hy; simp at hy
  | some u =>
    rw [hpubs_of h] at hy
    rw [hdeps_of h]
    obtain ⟨n, _, hn⟩ := List.mem_flatMap.1 hy
    unfold upub1 at hn
    split at hn
    · rename_i hq
      simp only [List.mem_cons, List.not_mem_nil, or_false] at hn
      subst hn
      have : n.toNat < u.deps.length := by omega
      rw [List.getD_eq_getElem?_getD, List.getElem?_eq_getElem this]
      exact List.getElem_mem this
    · simp at hn

theorem goin_pubs : GoinJ 75 := enters_of Tryz.func75 (by kernel_rfl) rfl

theorem ub_new {W w1 : World} {us : List Um} (hM : ∃ n, Mg w1 W.heap.size n (ug us)) : Ub (w1.alloc (.cells #[.map (some W.heap.size)] 149)) w1.heap.size W.heap.size us := by
  obtain ⟨n, hM⟩ := hM
  exact ⟨heap_alloc_new _ _, n, hM.kept (World.grownBy_alloc _ _ none) (by simp)⟩

theorem Tsm_of_unit {us : List Um} (hs : Usm us) {u : Um} (hu : u ∈ us) {p : ByteArray} (h : u.path = p) : Tsm p := by rw [← h]; exact (hs u hu).1

theorem rch_own {l : List Un} {p : ByteArray} {u : Un} (hu : hunit l p = some u) (x : ByteArray) : Rch (hpubs l) (p :: u.deps) x ↔ x = p ∨ Rch (hpubs l) u.deps x := by
  constructor
  · intro h
    refine h.least (P := fun x => x = p ∨ Rch (hpubs l) u.deps x) (fun y hy => ?_) (fun y hy z hz => ?_)
    · rcases List.mem_cons.1 hy with rfl | hy
      · exact .inl rfl
      · exact .inr (.seed hy)
    · rcases hy with rfl | hy
      · have := hpubs_sub y z hz
        rw [hdeps_of hu] at this
        exact .inr (.seed this)
      · exact .inr (.step hy hz)
  · rintro (rfl | h)
    · exact .seed (by simp)
    · exact h.mono (fun y hy => .seed (by simp [hy]))

theorem one_sw (w : World) (p : ByteArray) : Sw (w.alloc (.cells #[.string p] 9)) w.heap.size (.slice (some ⟨w.heap.size, 0, none⟩) 1 1) [p] := by
  refine ⟨by simp, .inr ⟨w.heap.size, 1, #[.string p], rfl, Nat.le_refl _, heap_alloc_new _ _, Nat.le_refl _, by unfold maxLen; omega, rfl, rfl⟩⟩

set_option maxRecDepth 10000 in
set_option maxHeartbeats 4000000 in
theorem pgvis_any {W : World} {a : Option Addr} {len cap : Nat} {us : List Um} (p : ByteArray) (hU : Hid (Ul W a len cap us)) (hfw : Hid (hfew us = true)) (hs : Hid (Usm us)) (hp : Hid (p.size ≤ maxLen)) :
    Calls Tryz.prog 39 #[.slice a len cap, .string p] W fun e W' => ∃ v, e = .returned v ∧ Sw W' W.heap.size v (hvis (us.map Um.un) p) ∧ Below W.heap.size W W' := by
  have hmf : ∀ (fn : Fn) (first cap : Array Value) (w : World), (Instr.makeFunc fn first cap).run Tryz.prog w = .ok (.func fn first cap) w := fun _ _ _ _ => rfl
  have QB : Hid _ := pby_any hU hs W (Below.refl _ _)
  cases hq : ug us p with
  | none =>
    have E : Hid (hvis (us.map Um.un) p = []) := hvis_none (ug_none hq)
    rw [E.out]
    have HL : Hid (∀ V, (∃ n, Mg V W.heap.size n (ug us)) → (Instr.lookup 149 (.map (some W.heap.size)) (.string p) true).run Tryz.prog V = .ok (.tuple #[.agg #[.string ⟨#[]⟩, .slice none 0 0, .slice none 0 0], .bool false]) V) := fun V hV => by
      obtain ⟨n, hM⟩ := hV
      have := hM.look Tryz.underlying149 (zeroUnit _) p hp.out true
      rw [hq] at this
      exact this
    clear hq hU hfw hs hp E
    go_enter Tryz.func39, Tryz.ntmps39
    go_wp2_with fail
    refine Calls.mono QB.out ?_
    rintro e w1 ⟨rfl, hM1, hb1⟩
    have hu := ub_new hM1
    have hlk := HL.out _ hu.map
    have HB1 : Hid _ := hb1
    clear hb1 hM1 hu QB
    go_wp2
    go_ret
    exact ⟨_, rfl, Sw.nil _ _, (HB1.out.alloc HB1.out.size _).alloc (by have := HB1.out.size; simp; omega) _⟩
  | some v =>
    obtain ⟨u, hum, hup, rfl, hun⟩ := ug_some hq
    obtain ⟨hr, hm⟩ := hvis_spec hun
    have HH : Hid _ := And.intro hr (fun x => (rch_own hun x).trans (hm x).symm)
    have HT : Hid (Tsm p) := Tsm_of_unit hs.out hum hup
    have HTd : Hid (∀ z ∈ u.deps, Tsm z) := (hs.out u hum).2
    have HSu : Hid (Sb W u.da u.deps.length u.dc u.deps) := (hU_at hU.out hum).1
    have hdl : u.deps.length ≤ 30 := by
      obtain ⟨j, hj⟩ := List.getElem?_of_mem hum
      exact ((hfew_of hfw.out).2 j u hj).1
    have HL : Hid (∀ V, (∃ n, Mg V W.heap.size n (ug us)) → (Instr.lookup 149 (.map (some W.heap.size)) (.string p) true).run Tryz.prog V = .ok (.tuple #[.agg #[.string u.path, .slice u.da u.deps.length u.dc, .slice u.pa u.pub.length u.pc], .bool true]) V) := fun V hV => by
      obtain ⟨n, hM⟩ := hV
      have := hM.look Tryz.underlying149 (zeroUnit _) p hp.out true
      rw [hq] at this
      exact this
    clear hq hp hr hm hup hum hun
    obtain ⟨up, uda, udc, ud, upa, upc, upb⟩ := u
    simp only [Um.un] at HL HTd HSu hdl HH
    go_enter Tryz.func39, Tryz.ntmps39
    go_wp2_with fail
    refine Calls.mono QB.out ?_
    rintro e w1 ⟨rfl, hM1, hb1⟩
    have hu := ub_new hM1
    have hlk := HL.out _ hu.map
    obtain ⟨w3, hw3⟩ : ∃ w3, (w1.alloc (.cells #[.map (some W.heap.size)] 149)).alloc (.cells #[.string up, .slice uda ud.length udc, .slice upa upb.length upc] 104) = w3 := ⟨_, rfl⟩
    have hsz : w3.heap.size = w1.heap.size + 1 + 1 := by rw [← hw3]; simp
    have hA : Below (w1.alloc (.cells #[.map (some W.heap.size)] 149)).heap.size (w1.alloc (.cells #[.map (some W.heap.size)] 149)) w3 := by rw [← hw3]; exact (Below.refl _ _).alloc (Nat.le_refl _) _
    have hA2 : Below w3.heap.size w3 (w3.alloc (.cells #[.string p] 9)) := (Below.refl _ _).alloc (Nat.le_refl _) _
    have hb3 : Below W.heap.size W w3 := (hb1.alloc hb1.size _).trans (hA.mono (by have := hb1.size; simp; omega))
    have hb4 : Below W.heap.size W (w3.alloc (.cells #[.string p] 9)) := hb3.trans (hA2.mono hb3.size)
    obtain ⟨v5, w5, hrun, hq5, hg5, _⟩ := run_append_sqs (Sq.of_own (one_sw w3 p)) 40 (HSu.out.below hb4) (by simp; omega) (by simp)
    have hB5 : Below w3.heap.size (w3.alloc (.cells #[.string p] 9)) w5 := (Below.refl _ _).grown hg5 (by simp) (fun k hk => by simp [Value.ownBlock] at hk; omega)
    have HB5 : Hid (Below W.heap.size W w5) := hb4.trans (hB5.mono hb3.size)
    have hu5 : Ub w5 w1.heap.size W.heap.size us := (hu.under hA).under (hA2.trans hB5)
    obtain ⟨xa, xc, rfl⟩ := hq5.slice
    have QR : Hid _ := preachW_any (l := us.map Um.un) (next := hpubs (us.map Um.un)) goin_pubs (leads_pubs hU hfw HB5 hu5) (fun q y hy => hdeps_tsm hs.out q y (hpubs_sub q y hy)) (lead_pubs _) (by have := (hfew_of hfw.out).1; show _ ≤ _; simp; omega) (by
      have h1 := flat_few (l := us.map Um.un) (f := fun u => hpubs (us.map Um.un) u.path) (fun u _ => hpubs_le30 hfw.out _)
      have h2 := (hfew_of hfw.out).1
      rw [List.length_map] at h1
      show _ ≤ _
      rw [List.length_append, List.length_append, List.length_singleton]
      omega) (Sb.of_sq hq5) (fun z hz => by
        rcases List.mem_append.1 hz with hz | hz
        · simp at hz; subst hz; exact HT.out
        · exact HTd.out z hz) (by simp)
    have c1 : w3.cell? ⟨w1.heap.size + 1, 1, none⟩ = some (.slice uda ud.length udc) := by
      have e1 : w1.heap.size + 1 = (w1.alloc (.cells #[.map (some W.heap.size)] 149)).heap.size := by simp
      rw [← hw3, e1, World.cell?_alloc_new]
      rfl
    have c2 : (w3.alloc (.cells #[.string p] 9)).cell? ⟨w1.heap.size + 1, 1, none⟩ = some (.slice uda ud.length udc) := (hA2.cell (by simp; omega)).trans c1
    rw [hsz, ← hw3] at hrun
    rw [← hw3] at c1 c2
    have HRN : Hid _ := hrun
    clear hb1 hM1 hu QB hA HL hU hfw hs hb3 hb4 hB5 hu5 hq5 hg5 hA2 hdl hrun hsz hw3
    go_wp2_with (at_builtin; refine wpList_append_run rfl _ _ rfl rfl rfl HRN.out ?_)
    refine Calls.mono QR.out ?_
    rintro e w6 ⟨v, ys, rfl, hs6, hris, hmem, hb6⟩
    have E : Hid (ys = hvis (us.map Um.un) p) := ris_ext _ _ hris HH.out.1 (fun x => (hmem x).trans (HH.out.2 x))
    have HS : Hid (Sw w6 W.heap.size v ys) := hs6.base HB5.out.size
    have HB6 : Hid (Below W.heap.size W w6) := HB5.out.trans (hb6.mono HB5.out.size)
    clear hs6 hris hmem hb6 QR
    go_wp2
    go_ret
    exact ⟨v, rfl, (by rw [← E.out]; exact HS.out), HB6.out⟩

end Go.Proofs.YtcnjjhdmnagkgaaGreatDoor
