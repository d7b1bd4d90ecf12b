/- The program's own reach, whole: all that is met, rising. -/
import Derived.Test.YtnkknkijnpdapaaJRe
import Derived.Test.YtnkknkijnpdapaaJKeys
import Derived.Test.YtnkknkijnpdapaaJCop
namespace Go.Proofs.Ytnkknkijnpdapaa
open Go.RowKit
set_option linter.unusedVariables false
set_option linter.unusedSimpArgs false

theorem Mg.count {w : World} {b n : Nat} {g : ByteArray → Option Value} (h : Mg w b n g) {T : List ByteArray} (hT : ∀ k v, g k = some v → k ∈ T) : n ≤ T.length := by
  obtain ⟨es, clock, hb, hst, hkeys, hn, hg⟩ := h
  have hpw := ((MapKept.stamped_iff _ _).1 hst).2.2
  have := nodup_le (es.toList.map fun e => match e.key with | .string k => k | _ => ⟨#[]⟩) T (List.pairwise_map.2 (hpw.imp_of_mem fun {p q} hp hq hne e => hne (by
    obtain ⟨k1, h1, _⟩ := hkeys p hp
    obtain ⟨k2, h2, _⟩ := hkeys q hq
    rw [h1, h2] at e ⊢
    simp only at e
    rw [e]))) (fun x hx => by
    obtain ⟨e, he, rfl⟩ := List.mem_map.1 hx
    obtain ⟨k, hk, _⟩ := hkeys e he
    rw [hk]
    exact hT k e.val ((hg k _).2 ⟨e, he, hk, rfl⟩))
  rw [List.length_map] at this
  have h9 : es.toList.length = es.size := Array.length_toList
  omega

theorem Dfs.all {next : ByteArray → List ByteArray} {zs S' : List ByteArray} (h : Dfs next zs [] S') (x : ByteArray) : x ∈ S' ↔ Rch next zs x := by
  constructor
  · intro hx
    exact (h.from_ x hx).resolve_left (by simp)
  · intro hx
    exact hx.least (P := fun x => x ∈ S') h.met (fun x hx y hy => h.shut x hx (by simp) y hy)

theorem Rch.within {next : ByteArray → List ByteArray} {zs : List ByteArray} {l : List Un} (hl : Lead next l) {x : ByteArray} (h : Rch next zs x) : x ∈ zs ++ l.flatMap fun u => next u.path := by
  cases h with
  | seed h => simp [h]
  | step h hy =>
    rename_i y
    rcases hl y with ⟨u, hu, hup⟩ | h0
    · refine List.mem_append.2 (.inr (List.mem_flatMap.2 ⟨u, hu, ?_⟩))
      rw [hup]
      exact hy
    · rw [h0] at hy
      simp at hy

/-- What waits: how much there is to be done. -/
def rwait (v : Option Value) : Nat := match v with | some (.slice _ n _) => n | _ => 0

theorem Rc.start {W : World} {fv v : Value} :
    Rc W ((((((W.alloc (.cells #[fv] 57)).alloc (.map #[] 0)).alloc (.cells #[.map (some (W.heap.size + 1))] 64)).alloc (.cells #[v] 23)).alloc (.cells #[.func (.func 36) #[] #[.pointer (some ⟨W.heap.size + 3, 0, none⟩), .pointer (some ⟨W.heap.size + 2, 0, none⟩), .pointer (some ⟨W.heap.size + 4, 0, none⟩), .pointer (some ⟨W.heap.size, 0, none⟩)]] 65)).setCell ⟨W.heap.size + 3, 0, none⟩ (.slice none 0 0)) W.heap.size fv [] ∧
    ((((W.alloc (.cells #[fv] 57)).alloc (.map #[] 0)).alloc (.cells #[.map (some (W.heap.size + 1))] 64)).alloc (.cells #[v] 23)).heap[W.heap.size + 3]? = some (.cells #[v] 23 (0, 0)) := by
  obtain ⟨A1, hA1⟩ : ∃ A1, W.alloc (.cells #[fv] 57) = A1 := ⟨_, rfl⟩
  obtain ⟨A2, hA2⟩ : ∃ A2, A1.alloc (.map #[] 0) = A2 := ⟨_, rfl⟩
  obtain ⟨A3, hA3⟩ : ∃ A3, A2.alloc (.cells #[.map (some (W.heap.size + 1))] 64) = A3 := ⟨_, rfl⟩
  obtain ⟨A4, hA4⟩ : ∃ A4, A3.alloc (.cells #[v] 23) = A4 := ⟨_, rfl⟩
  obtain ⟨A5, hA5⟩ : ∃ A5, A4.alloc (.cells #[.func (.func 36) #[] #[.pointer (some ⟨W.heap.size + 3, 0, none⟩), .pointer (some ⟨W.heap.size + 2, 0, none⟩), .pointer (some ⟨W.heap.size + 4, 0, none⟩), .pointer (some ⟨W.heap.size, 0, none⟩)]] 65) = A5 := ⟨_, rfl⟩
  rw [hA1, hA2, hA3, hA4, hA5]
  have s1 : A1.heap.size = W.heap.size + 1 := by rw [← hA1]; simp
  have s2 : A2.heap.size = W.heap.size + 2 := by rw [← hA2]; simp [s1]
  have s3 : A3.heap.size = W.heap.size + 3 := by rw [← hA3]; simp [s2]
  have s4 : A4.heap.size = W.heap.size + 4 := by rw [← hA4]; simp [s3]
  have b1 : Below W.heap.size W A1 := by rw [← hA1]; exact (Below.refl _ _).alloc (Nat.le_refl _) _
  have b2 : Below A1.heap.size A1 A2 := by rw [← hA2]; exact (Below.refl _ _).alloc (Nat.le_refl _) _
  have b3 : Below A2.heap.size A2 A3 := by rw [← hA3]; exact (Below.refl _ _).alloc (Nat.le_refl _) _
  have b4 : Below A3.heap.size A3 A4 := by rw [← hA4]; exact (Below.refl _ _).alloc (Nat.le_refl _) _
  have b5 : Below A4.heap.size A4 A5 := by rw [← hA5]; exact (Below.refl _ _).alloc (Nat.le_refl _) _
  have n1 : A1.heap[W.heap.size]? = some (.cells #[fv] 57 (0, 0)) := by rw [← hA1]; exact heap_alloc_new _ _
  have n2 : Mg A2 (W.heap.size + 1) 0 (fun _ => none) := by rw [← hA2, ← s1]; exact Mg.made A1
  have n3 : A3.heap[W.heap.size + 2]? = some (.cells #[.map (some (W.heap.size + 1))] 64 (0, 0)) := by rw [← hA3, ← s2]; exact heap_alloc_new _ _
  have n4 : A4.heap[W.heap.size + 3]? = some (.cells #[v] 23 (0, 0)) := by rw [← hA4, ← s3]; exact heap_alloc_new _ _
  have n5 : A5.heap[W.heap.size + 4]? = some (.cells #[.func (.func 36) #[] #[.pointer (some ⟨W.heap.size + 3, 0, none⟩), .pointer (some ⟨W.heap.size + 2, 0, none⟩), .pointer (some ⟨W.heap.size + 4, 0, none⟩), .pointer (some ⟨W.heap.size, 0, none⟩)]] 65 (0, 0)) := by rw [← hA5, ← s4]; exact heap_alloc_new _ _
  have b45 : Below A3.heap.size A3 A5 := b4.trans (b5.mono b4.size)
  have b35 : Below A2.heap.size A2 A5 := b3.trans (b45.mono b3.size)
  have b25 : Below A1.heap.size A1 A5 := b2.trans (b35.mono b2.size)
  have b15 : Below W.heap.size W A5 := b1.trans (b25.mono b1.size)
  have n45 := (b5.block _ (by omega)).trans n4
  have oth : ∀ k, k ≠ W.heap.size + 3 → (A5.setCell ⟨W.heap.size + 3, 0, none⟩ (.slice none 0 0)).heap[k]? = A5.heap[k]? := fun k hk => heap_setCell_other _ _ _ _ (by simpa using hk)
  have hgr : A5.grownBy (A5.setCell ⟨W.heap.size + 3, 0, none⟩ (.slice none 0 0)) (some (W.heap.size + 3)) := ⟨rfl, rfl, rfl, by simp, fun k _ hk => oth k (fun e => hk (by rw [e]))⟩
  refine ⟨⟨(oth _ (by omega)).trans ((b25.block _ (by omega)).trans n1), ⟨0, (((n2.below b35 (by omega)).congr (fun x => by simp [gset, hin])).kept hgr (by simp))⟩, (oth _ (by omega)).trans ((b45.block _ (by omega)).trans n3), ?_, (oth _ (by omega)).trans n5, b15.setCell (p := ⟨W.heap.size + 3, 0, none⟩) (by simp) _⟩, n4⟩
  rw [blk_set n45 0 _]
  simp

/-- Between two rounds: all is to be done yet, or it is done. -/
def Rst (W wr : World) (fv : Value) (a : Option Addr) (n c : Nat) (next : ByteArray → List ByteArray) (zs : List ByteArray) : Prop :=
  (wr.heap[W.heap.size + 3]? = some (.cells #[.slice a n c] 23 (0, 0)) ∧ wr.cell? ⟨W.heap.size + 4, 0, none⟩ = some (.func (.func 36) #[] #[.pointer (some ⟨W.heap.size + 3, 0, none⟩), .pointer (some ⟨W.heap.size + 2, 0, none⟩), .pointer (some ⟨W.heap.size + 4, 0, none⟩), .pointer (some ⟨W.heap.size, 0, none⟩)]) ∧ Rc W (wr.setCell ⟨W.heap.size + 3, 0, none⟩ (.slice none 0 0)) W.heap.size fv [] ∧ Below W.heap.size W wr) ∨
  (∃ S', Rc W wr W.heap.size fv S' ∧ Dfs next zs [] S')

set_option maxRecDepth 10000 in
set_option maxHeartbeats 4000000 in
theorem preachW_any {W : World} {kf ub : Nat} {next : ByteArray → List ByteArray} {l : List Un} {a : Option Addr} {n c : Nat} {zs : List ByteArray} (hin0 : Goin kf) (hLd : Hid (Leads W W.heap.size kf ub next)) (hNx : Hid (∀ p, ∀ y ∈ next p, Tsm y)) (hlead : Hid (Lead next l)) (hll : Hid (l.length ≤ 900)) (hT : Hid ((zs ++ l.flatMap fun u => next u.path).length ≤ 1000000)) (hS : Hid (Sb W a n c zs)) (hz : Hid (∀ z ∈ zs, Tsm z)) (hn : 0 < n) :
    Calls Try.prog 27 #[.slice a n c, .func (.func kf) #[] #[.pointer (some ⟨ub, 0, none⟩)]] W fun e W' => ∃ v ys, e = .returned v ∧ Sw W' W.heap.size v ys ∧ Ris ys ∧ (∀ x, x ∈ ys ↔ Rch next zs x) ∧ Below W.heap.size W W' := by
  have hmf : ∀ (fn : Fn) (first cap : Array Value) (w : World), (Instr.makeFunc fn first cap).run Try.prog w = .ok (.func fn first cap) w := fun _ _ _ _ => rfl
  have hmm := @run_makeMap Try.prog
  obtain ⟨fv, hfv⟩ : ∃ fv, fv = Value.func (.func kf) #[] #[.pointer (some ⟨ub, 0, none⟩)] := ⟨_, rfl⟩
  have e5 : (((((W.alloc (.cells #[.func (.func kf) #[] #[.pointer (some ⟨ub, 0, none⟩)]] 57)).alloc (.map #[] 0)).alloc (.cells #[.map (some (W.heap.size + 1))] 64)).alloc (.cells #[.slice a n c] 23)).alloc (.cells #[.nilFunc] 65)).heap[W.heap.size + 1 + 1 + 1 + 1]? = some (.cells #[.nilFunc] 65 (0, 0)) := by
    have := heap_alloc_new ((((W.alloc (.cells #[.func (.func kf) #[] #[.pointer (some ⟨ub, 0, none⟩)]] 57)).alloc (.map #[] 0)).alloc (.cells #[.map (some (W.heap.size + 1))] 64)).alloc (.cells #[.slice a n c] 23)) (.cells #[.nilFunc] 65)
    simpa using this
  obtain ⟨c5, f5, g5⟩ := box_cell e5
  clear e5
  have hn3 := hS.out.h63
  go_enter Try.func27, Try.ntmps27
  go_wp2
  go_loopw [8] (fun v wr => Hid (Rst W wr (.func (.func kf) #[] #[.pointer (some ⟨ub, 0, none⟩)]) a n c next zs)) (fun _ wr => rwait (wr.cell? ⟨W.heap.size + 3, 0, none⟩))
  case atStart =>
    obtain ⟨r1, r2⟩ := Rc.start (W := W) (fv := .func (.func kf) #[] #[.pointer (some ⟨ub, 0, none⟩)]) (v := .slice a n c)
    refine .inl ⟨?_, ?_, r1, ?_⟩
    · rw [Below.heap_alloc _ _ _ (by simp)]
      exact r2
    · have h9 := r1.be
      rw [heap_setCell_other _ _ _ _ (by simp)] at h9
      exact (box_cell h9).1
    · exact (((((Below.refl _ W).alloc (Nat.le_refl _) _).alloc (by simp) _).alloc (by simp; omega) _).alloc (by simp; omega) _).alloc (by simp; omega) _
  case round =>
    rcases hrel.out with ⟨hb, he, hR, hB⟩ | ⟨S', hR, hD⟩
    · obtain ⟨x1, x2, x3⟩ := box_cell hb
      have Q : Hid _ := preach_any hin0 hLd hNx hlead (l.length + 1) a n c zs 0 [] _ (hS.out.below ((hB.setCell (p := ⟨W.heap.size + 3, 0, none⟩) (by simp) (.slice none 0 0)))) hz hR (.inr (by have := ucnt_le l []; omega)) ⟨by omega, by have := hll.out; omega⟩
      have y1 : (wr.setCell ⟨W.heap.size + 3, 0, none⟩ (.slice none 0 0)).cell? ⟨W.heap.size + 4, 0, none⟩ = some (.func (.func 36) #[] #[.pointer (some ⟨W.heap.size + 3, 0, none⟩), .pointer (some ⟨W.heap.size + 2, 0, none⟩), .pointer (some ⟨W.heap.size + 4, 0, none⟩), .pointer (some ⟨W.heap.size, 0, none⟩)]) := (box_cell hR.be).1
      have hgt : ((n : Int) > 0) := by omega
      clear hb hB hR hrel
      go_wp2_with fail
      refine Calls.mono Q.out ?_
      rintro e w1 ⟨rfl, S', hR1, _, hD1⟩
      have HR1 : Hid _ := And.intro hR1 hD1
      have HMs : Hid (rwait (w1.cell? ⟨W.heap.size + 3, 0, none⟩) = 0) := by
        show _ = _
        rw [(box_cell hR1.bw).1]
        rfl
      have HMr : Hid (rwait (wr.cell? ⟨W.heap.size + 3, 0, none⟩) = n) := by
        show _ = _
        rw [x1]
        rfl
      clear hR1 hD1 Q
      go_wp2
      go_roundw
      case rel => first | exact .inr ⟨S', HR1.out.1, HR1.out.2⟩ | ((repeat apply Exists.intro); exact ⟨.inr ⟨S', HR1.out.1, HR1.out.2⟩, rfl⟩)
      case measure => have h8 := HMs.out; have h9 := HMr.out; omega
    · obtain ⟨x1, x2, x3⟩ := box_cell hR.bw
      obtain ⟨m1, m2, m3⟩ := box_cell hR.bm
      obtain ⟨nn, hM⟩ := hR.mm
      have hcnt := hM.count (T := zs ++ l.flatMap fun u => next u.path) (fun k v hk => by
        unfold gset at hk
        split at hk
        · rename_i h; exact ((hD.all k).1 ((hin_iff _ _).1 h)).within hlead.out
        · cases hk)
      have QS : Hid _ := psorted_any hM (by have := hT.out; omega)
      have HR1 : Hid _ := And.intro hR hD
      clear hR hD hM hrel hcnt
      go_wp2_with fail
      refine Calls.mono (pkeys_any _ _) ?_
      rintro e w1 ⟨rfl, rfl⟩
      go_wp2_with fail
      refine Calls.mono QS.out ?_
      rintro e w2 ⟨v, ys, rfl, hs2, hris, hmem, hb2⟩
      have QC : Hid _ := pcopied_any (W := w2) (base := wr.heap.size + 1) (v := v) (zs := ys) hs2 (fun z hz1 => by
        have h7 := (HR1.out.2.all z).1 ((hmem z).1 hz1)
        exact h7.least (P := fun x => Tsm x) hz.out (fun x _ y hy => hNx.out x y hy)) (by have := hb2.size; simp at this; show _ ≤ _; omega)
      have HY : Hid _ := And.intro hris hmem
      have HB2 : Hid (Below W.heap.size W w2) := by
        have h7 := HR1.out.1.size
        exact (HR1.out.1.below.trans ((Below.refl _ wr).alloc (by omega) _)).trans (hb2.mono (by omega))
      have HWl : Hid (W.heap.size ≤ wr.heap.size + 1) := by have h7 := HR1.out.1.size; show _ ≤ _; omega
      clear hs2 hris hmem hb2 QS
      go_wp2_with fail
      refine Calls.mono QC.out ?_
      rintro e w3 ⟨rfl, hs3, hb3⟩
      have HS3 : Hid _ := hs3
      have HB3 : Hid (Below W.heap.size W w3) := HB2.out.trans (hb3.mono HWl.out)
      clear hs3 hb3 QC
      go_wp2
      go_ret
      exact ⟨v, ys, rfl, Sw.base HS3.out HWl.out, HY.out.1, fun x => (HY.out.2 x).trans (HR1.out.2.all x), HB3.out⟩

end Go.Proofs.Ytnkknkijnpdapaa
