/- Put together by a program out of these texts of mine: TRef, TKidB, TKidC. -/
import Derived.Lib.MinMax
import Derived.BigQuiet
import Derived.Test.YtgkablmglkagfaaGreatDoorBunC4
import Derived.Test.YtgkablmglkagfaaGreatDoorBunC7

/- The contracts of the reference's own count, Count, deep, Deep, and of the law's own size, Few. -/
namespace Go.Proofs.YtgkablmglkagfaaGreatDoor
open Go.RowKit
set_option linter.unusedVariables false
set_option linter.unusedSimpArgs false

/-- A kid's cells. -/
theorem kid_cells {w W : World} {b off k : Nat} {kids : List Tn} (hlt : b < w.heap.size) (hB : Below w.heap.size w W) (h : ∀ (i : Nat) (t : Tn), kids[i]? = some t → ∀ (j : Nat) (u : Value), t.cells[j]? = some u → w.cell? ⟨b, off + i * 8 + j, none⟩ = some u)
    {kd : Int} {tx : List Int} {n m a pos : Int} {doc : List Int} {ad : Option Addr} {cap : Nat} {ks : List Tn} (hk : kids[k]? = some (.mk kd tx n m a pos doc ad cap ks)) :
    W.cell? ⟨b, off + k * 8, none⟩ = some (.int .i64 kd) ∧ W.cell? ⟨b, off + k * 8 + 1, none⟩ = some (.string (strOfNums tx)) ∧ W.cell? ⟨b, off + k * 8 + 2, none⟩ = some (.int .i64 n) ∧ W.cell? ⟨b, off + k * 8 + 3, none⟩ = some (.int .i64 m) ∧
    W.cell? ⟨b, off + k * 8 + 4, none⟩ = some (.int .i64 a) ∧ W.cell? ⟨b, off + k * 8 + 5, none⟩ = some (.int .i64 pos) ∧ W.cell? ⟨b, off + k * 8 + 6, none⟩ = some (.string (strOfNums doc)) ∧ W.cell? ⟨b, off + k * 8 + 7, none⟩ = some (.slice ad ks.length cap) := by
  have f := fun j u hj => (hB.cell (p := ⟨b, off + k * 8 + j, none⟩) hlt).trans (h k _ hk j u hj)
  exact ⟨f 0 _ rfl, f 1 _ rfl, f 2 _ rfl, f 3 _ rfl, f 4 _ rfl, f 5 _ rfl, f 6 _ rfl, f 7 _ rfl⟩

set_option maxRecDepth 10000 in
set_option maxHeartbeats 2000000 in
theorem rcnt_any {w : World} {t : Tn} (h : TnOk w t) : ∀ (W : World) (x : Int), Below w.heap.size w W → 0 ≤ x → x ≤ 20000 →
    Calls Tryz.prog 50 #[t.val, .int .i64 x] W fun e W' => e = .returned (.int .i64 (tcnt t x)) ∧ Below W.heap.size W W' := by
  induction h with
  | @mk kind text n m a pos doc ad cap kids hkind htext htl hn hm ha hpos hdoc hdl hkl hcap hnone hmem hkids ih =>
    intro W x hB h0 h1
    obtain ⟨R, hR⟩ : ∃ R, R = tcnt (.mk kind text n m a pos doc ad cap kids) x := ⟨_, rfl⟩
    rw [← hR]
    rw [tcnt] at hR
    show Calls Tryz.prog 50 #[.agg #[.int .i64 kind, .string (strOfNums text), .int .i64 n, .int .i64 m, .int .i64 a, .int .i64 pos, .string (strOfNums doc), .slice ad kids.length cap], .int .i64 x] W fun e W' => e = .returned (.int .i64 R) ∧ Below W.heap.size W W'
    have HIH : Hid _ := ih
    have HMem : Hid _ := hmem
    have HB0 : Hid (Below w.heap.size w W) := hB
    have HBA : Hid (Below W.heap.size W (W.alloc (.cells #[.int .i64 kind, .string (strOfNums text), .int .i64 n, .int .i64 m, .int .i64 a, .int .i64 pos, .string (strOfNums doc), .slice ad kids.length cap] 24))) := (Below.refl _ _).alloc (Nat.le_refl _) _
    clear ih hmem hkids hB htext hdoc hnone
    by_cases hbig : 20000 < x + 1
    · rw [if_pos hbig] at hR
      have HR : Hid (R = 30000) := hR
      clear hR
      generalize strOfNums text = T1 at HBA ⊢
      generalize strOfNums doc = T2 at HBA ⊢
      go_enter Tryz.func50, Tryz.ntmps50
      go_wp2
      go_ret
      exact ⟨by rw [HR.out]; rfl, HBA.out⟩
    · rw [if_neg hbig] at hR
      have HR : Hid (R = tcnts (kids.drop 0) (x + 1)) := hR
      have hbig' : x + 1 ≤ 20000 := by omega
      clear hR hbig
      generalize strOfNums text = T1 at HBA ⊢
      generalize strOfNums doc = T2 at HBA ⊢
      go_enter Tryz.func50, Tryz.ntmps50
      go_wp2
      go_loopw [1, 14] (fun xv v wr => ∃ (k : Nat) (y : Int), xv = .int .i64 y ∧ v = .int .i64 (k : Int) ∧ k ≤ kids.length ∧ 0 ≤ y ∧ y ≤ 20000 ∧ Hid (R = tcnts (kids.drop k) y) ∧ Hid (Below W.heap.size W wr)) (fun _ v _ => kids.length - (intOf v).toNat)
      case atStart => exact ⟨0, x + 1, rfl, rfl, by omega, by omega, hbig', HR, HBA⟩
      case round =>
        obtain ⟨k, y, rfl, rfl, hk, hy0, hy1, HJ, HBw⟩ := hrel
        by_cases hkl : k < kids.length
        · obtain ⟨b, off, rfl, hlt, hc⟩ := HMem.out (by omega)
          obtain ⟨⟨kd, tx, n2, m2, a2, pos2, doc2, ad2, cap2, ks⟩, hkid⟩ : ∃ t, kids[k]? = some t := ⟨kids[k]'hkl, List.getElem?_eq_getElem hkl⟩
          have hBB : Below w.heap.size w wr := HB0.out.trans (HBw.out.mono HB0.out.size)
          obtain ⟨c0, c1, c2, c3, c4, c5, c6, c7⟩ := kid_cells hlt hBB hc hkid
          have HBn : Hid (Below w.heap.size w (wr.alloc (.cells #[.int .i64 kd, .string (strOfNums tx), .int .i64 n2, .int .i64 m2, .int .i64 a2, .int .i64 pos2, .string (strOfNums doc2), .slice ad2 ks.length cap2] 24))) := hBB.alloc hBB.size _
          have HBn2 : Hid (Below W.heap.size W (wr.alloc (.cells #[.int .i64 kd, .string (strOfNums tx), .int .i64 n2, .int .i64 m2, .int .i64 a2, .int .i64 pos2, .string (strOfNums doc2), .slice ad2 ks.length cap2] 24))) := HBw.out.alloc HBw.out.size _
          have q := HIH.out k _ hkid _ y HBn.out hy0 hy1
          have hbd := tcnt_bd (.mk kd tx n2 m2 a2 pos2 doc2 ad2 cap2 ks) y hy0 hy1
          have HJ' := HJ.out
          rw [List.drop_eq_getElem_cons hkl, show kids[k] = .mk kd tx n2 m2 a2 pos2 doc2 ad2 cap2 ks by rw [List.getElem?_eq_getElem hkl] at hkid; exact Option.some.inj hkid, tcnts] at HJ'
          change Calls Tryz.prog 50 #[.agg #[.int .i64 kd, .string (strOfNums tx), .int .i64 n2, .int .i64 m2, .int .i64 a2, .int .i64 pos2, .string (strOfNums doc2), .slice ad2 ks.length cap2], .int .i64 y] _ _ at q
          generalize tcnt (.mk kd tx n2 m2 a2 pos2 doc2 ad2 cap2 ks) y = C at q hbd HJ'
          generalize strOfNums tx = U1 at c1 q HBn HBn2
          generalize strOfNums doc2 = U2 at c6 q HBn HBn2
          have Q : Hid _ := q
          clear q hc HJ hkid hBB
          by_cases hC : 20000 < C
          · rw [if_pos hC] at HJ'
            have HE : Hid (R = 30000) := HJ'
            clear HJ'
            go_wp2_with fail
            refine Calls.mono Q.out ?_
            rintro e w2 ⟨rfl, hb2⟩
            go_wp2
            go_ret
            exact ⟨by rw [HE.out]; rfl, HBn2.out.trans (hb2.mono HBn2.out.size)⟩
          · rw [if_neg hC] at HJ'
            have HE : Hid (R = tcnts (kids.drop (k + 1)) C) := HJ'
            have hC' : C ≤ 20000 := by omega
            clear HJ' hC
            go_wp2_with fail
            refine Calls.mono Q.out ?_
            rintro e w2 ⟨rfl, hb2⟩
            have HB2 : Hid (Below W.heap.size W w2) := HBn2.out.trans (hb2.mono HBn2.out.size)
            clear hb2
            go_wp2
            go_roundw
            case rel => first | exact ⟨k + 1, C, rfl, by go_num, by omega, by omega, hC', HE, HB2⟩ | ((repeat apply Exists.intro); exact ⟨⟨k + 1, C, rfl, by go_num, by omega, by omega, hC', HE, HB2⟩, rfl⟩)
            case measure => simp [intOf]; omega
        · obtain rfl : k = kids.length := by omega
          have E : Hid (R = y) := by show _ = _; rw [HJ.out, List.drop_length, tcnts]
          clear HJ
          go_wp2
          go_ret
          exact ⟨by rw [E.out]; rfl, HBw.out⟩

set_option maxRecDepth 10000 in
set_option maxHeartbeats 2000000 in
theorem rdp_any {w : World} {t : Tn} (h : TnOk w t) : ∀ (W : World) (x : Int), Below w.heap.size w W → 1 ≤ x → x ≤ 65 →
    Calls Tryz.prog 51 #[t.val, .int .i64 x] W fun e W' => e = .returned (.int .i64 (tdp t x)) ∧ Below W.heap.size W W' := by
  induction h with
  | @mk kind text n m a pos doc ad cap kids hkind htext htl hn hm ha hpos hdoc hdl hkl hcap hnone hmem hkids ih =>
    intro W x hB h0 h1
    obtain ⟨R, hR⟩ : ∃ R, R = tdp (.mk kind text n m a pos doc ad cap kids) x := ⟨_, rfl⟩
    rw [← hR]
    rw [tdp] at hR
    show Calls Tryz.prog 51 #[.agg #[.int .i64 kind, .string (strOfNums text), .int .i64 n, .int .i64 m, .int .i64 a, .int .i64 pos, .string (strOfNums doc), .slice ad kids.length cap], .int .i64 x] W fun e W' => e = .returned (.int .i64 R) ∧ Below W.heap.size W W'
    have HIH : Hid _ := ih
    have HMem : Hid _ := hmem
    have HB0 : Hid (Below w.heap.size w W) := hB
    have HBA : Hid (Below W.heap.size W (W.alloc (.cells #[.int .i64 kind, .string (strOfNums text), .int .i64 n, .int .i64 m, .int .i64 a, .int .i64 pos, .string (strOfNums doc), .slice ad kids.length cap] 24))) := (Below.refl _ _).alloc (Nat.le_refl _) _
    clear ih hmem hkids hB htext hdoc hnone
    by_cases hbig : 64 < x
    · rw [if_pos hbig] at hR
      have HR : Hid (R = x) := hR
      clear hR
      generalize strOfNums text = T1 at HBA ⊢
      generalize strOfNums doc = T2 at HBA ⊢
      go_enter Tryz.func51, Tryz.ntmps51
      go_wp2
      go_ret
      exact ⟨by rw [HR.out]; rfl, HBA.out⟩
    · rw [if_neg hbig] at hR
      have HR : Hid (R = tdps (kids.drop 0) x x) := hR
      have hbig' : x ≤ 64 := by omega
      clear hR
      generalize strOfNums text = T1 at HBA ⊢
      generalize strOfNums doc = T2 at HBA ⊢
      go_enter Tryz.func51, Tryz.ntmps51
      go_wp2
      go_loopw [5, 15] (fun xv v wr => ∃ (k : Nat) (y : Int), xv = .int .i64 y ∧ v = .int .i64 (k : Int) ∧ k ≤ kids.length ∧ x ≤ y ∧ y ≤ 65 ∧ Hid (R = tdps (kids.drop k) x y) ∧ Hid (Below W.heap.size W wr)) (fun _ v _ => kids.length - (intOf v).toNat)
      case atStart => exact ⟨0, x, rfl, rfl, by omega, by omega, by omega, HR, HBA⟩
      case round =>
        obtain ⟨k, y, rfl, rfl, hk, hy0, hy1, HJ, HBw⟩ := hrel
        by_cases hkl : k < kids.length
        · obtain ⟨b, off, rfl, hlt, hc⟩ := HMem.out (by omega)
          obtain ⟨⟨kd, tx, n2, m2, a2, pos2, doc2, ad2, cap2, ks⟩, hkid⟩ : ∃ t, kids[k]? = some t := ⟨kids[k]'hkl, List.getElem?_eq_getElem hkl⟩
          have hBB : Below w.heap.size w wr := HB0.out.trans (HBw.out.mono HB0.out.size)
          obtain ⟨c0, c1, c2, c3, c4, c5, c6, c7⟩ := kid_cells hlt hBB hc hkid
          have HBn : Hid (Below w.heap.size w (wr.alloc (.cells #[.int .i64 kd, .string (strOfNums tx), .int .i64 n2, .int .i64 m2, .int .i64 a2, .int .i64 pos2, .string (strOfNums doc2), .slice ad2 ks.length cap2] 24))) := hBB.alloc hBB.size _
          have HBn2 : Hid (Below W.heap.size W (wr.alloc (.cells #[.int .i64 kd, .string (strOfNums tx), .int .i64 n2, .int .i64 m2, .int .i64 a2, .int .i64 pos2, .string (strOfNums doc2), .slice ad2 ks.length cap2] 24))) := HBw.out.alloc HBw.out.size _
          have q := HIH.out k _ hkid _ (x + 1) HBn.out (by omega) (by omega)
          have hbd := tdp_bd (.mk kd tx n2 m2 a2 pos2 doc2 ad2 cap2 ks) (x + 1) (by omega)
          have HJ' := HJ.out
          rw [List.drop_eq_getElem_cons hkl, show kids[k] = .mk kd tx n2 m2 a2 pos2 doc2 ad2 cap2 ks by rw [List.getElem?_eq_getElem hkl] at hkid; exact Option.some.inj hkid, tdps] at HJ'
          change Calls Tryz.prog 51 #[.agg #[.int .i64 kd, .string (strOfNums tx), .int .i64 n2, .int .i64 m2, .int .i64 a2, .int .i64 pos2, .string (strOfNums doc2), .slice ad2 ks.length cap2], .int .i64 (x + 1)] _ _ at q
          generalize tdp (.mk kd tx n2 m2 a2 pos2 doc2 ad2 cap2 ks) (x + 1) = C at q hbd HJ'
          obtain ⟨M, hM⟩ : ∃ M, M = max y C := ⟨_, rfl⟩
          have hM1 : max y C = M := hM.symm
          have hMb : x ≤ M ∧ M ≤ 65 := by omega
          rw [← hM] at HJ'
          generalize strOfNums tx = U1 at c1 q HBn HBn2
          generalize strOfNums doc2 = U2 at c6 q HBn HBn2
          have Q : Hid _ := q
          clear q hc HJ hkid hBB hM
          by_cases hC : 64 < M
          · rw [if_pos hC] at HJ'
            have HE : Hid (R = M) := HJ'
            clear HJ'
            go_wp2_with fail
            refine Calls.mono Q.out ?_
            rintro e w2 ⟨rfl, hb2⟩
            go_wp2
            go_ret
            exact ⟨by rw [HE.out]; rfl, HBn2.out.trans (hb2.mono HBn2.out.size)⟩
          · rw [if_neg hC] at HJ'
            have HE : Hid (R = tdps (kids.drop (k + 1)) x M) := HJ'
            clear HJ'
            go_wp2_with fail
            refine Calls.mono Q.out ?_
            rintro e w2 ⟨rfl, hb2⟩
            have HB2 : Hid (Below W.heap.size W w2) := HBn2.out.trans (hb2.mono HBn2.out.size)
            clear hb2
            go_wp2
            go_roundw
            case rel => first | exact ⟨k + 1, M, rfl, by go_num, by omega, by omega, by omega, HE, HB2⟩ | ((repeat apply Exists.intro); exact ⟨⟨k + 1, M, rfl, by go_num, by omega, by omega, by omega, HE, HB2⟩, rfl⟩)
            case measure => simp [intOf]; omega
        · obtain rfl : k = kids.length := by omega
          have E : Hid (R = y) := by show _ = _; rw [HJ.out, List.drop_length, tdps]
          clear HJ
          go_wp2
          go_ret
          exact ⟨by rw [E.out]; rfl, HBw.out⟩

set_option maxRecDepth 10000 in
set_option maxHeartbeats 2000000 in
theorem rsz_any {w : World} {t : Tn} (h : TnOk w t) : ∀ (W : World) (x d : Int), Below w.heap.size w W → 0 ≤ x → x ≤ 400 → 0 ≤ d → d ≤ 81 →
    Calls Tryz.prog 10 #[t.val, .int .i64 x, .int .i64 d] W fun e W' => e = .returned (.int .i64 (tsz t x d)) ∧ Below W.heap.size W W' := by
  induction h with
  | @mk kind text n m a pos doc ad cap kids hkind htext htl hn hm ha hpos hdoc hdl hkl hcap hnone hmem hkids ih =>
    intro W x d hB h0 h1 hd0 hd1
    obtain ⟨R, hR⟩ : ∃ R, R = tsz (.mk kind text n m a pos doc ad cap kids) x d := ⟨_, rfl⟩
    rw [← hR]
    rw [tsz] at hR
    show Calls Tryz.prog 10 #[.agg #[.int .i64 kind, .string (strOfNums text), .int .i64 n, .int .i64 m, .int .i64 a, .int .i64 pos, .string (strOfNums doc), .slice ad kids.length cap], .int .i64 x, .int .i64 d] W fun e W' => e = .returned (.int .i64 R) ∧ Below W.heap.size W W'
    have HIH : Hid _ := ih
    have HMem : Hid _ := hmem
    have HB0 : Hid (Below w.heap.size w W) := hB
    have HBA : Hid (Below W.heap.size W (W.alloc (.cells #[.int .i64 kind, .string (strOfNums text), .int .i64 n, .int .i64 m, .int .i64 a, .int .i64 pos, .string (strOfNums doc), .slice ad kids.length cap] 24))) := (Below.refl _ _).alloc (Nat.le_refl _) _
    have hs1 := strOfNums_size text
    have hs2 := strOfNums_size doc
    clear ih hmem hkids hB htext hdoc hnone
    by_cases hbig : 80 < d ∨ 2000 < (text.length : Int) ∨ 2000 < (doc.length : Int)
    · rw [if_pos hbig] at hR
      have HR : Hid (R = 1000) := hR
      clear hR
      generalize strOfNums text = T1 at HBA hs1 ⊢
      generalize strOfNums doc = T2 at HBA hs2 ⊢
      by_cases g1 : 80 < d
      · clear hbig
        go_enter Tryz.func10, Tryz.ntmps10
        go_wp2
        go_ret
        exact ⟨by rw [HR.out]; rfl, HBA.out⟩
      · by_cases g2 : 2000 < (text.length : Int)
        · clear hbig
          go_enter Tryz.func10, Tryz.ntmps10
          go_wp2
          go_ret
          exact ⟨by rw [HR.out]; rfl, HBA.out⟩
        · have g3 : 2000 < (doc.length : Int) := by omega
          clear hbig
          go_enter Tryz.func10, Tryz.ntmps10
          go_wp2
          go_ret
          exact ⟨by rw [HR.out]; rfl, HBA.out⟩
    · rw [if_neg hbig] at hR
      have HR : Hid (R = tszs (kids.drop 0) (x + 1) (d + 1)) := hR
      have g1 : ¬ 80 < d := fun h => hbig (.inl h)
      have g2 : ¬ 2000 < (text.length : Int) := fun h => hbig (.inr (.inl h))
      have g3 : ¬ 2000 < (doc.length : Int) := fun h => hbig (.inr (.inr h))
      clear hR hbig
      generalize strOfNums text = T1 at HBA hs1 ⊢
      generalize strOfNums doc = T2 at HBA hs2 ⊢
      go_enter Tryz.func10, Tryz.ntmps10
      go_wp2
      go_loopw [1, 28] (fun xv v wr => ∃ (k : Nat) (y : Int), xv = .int .i64 y ∧ v = .int .i64 (k : Int) ∧ k ≤ kids.length ∧ 0 ≤ y ∧ y ≤ 1000 ∧ Hid (R = tszs (kids.drop k) y (d + 1)) ∧ Hid (Below W.heap.size W wr)) (fun _ v _ => kids.length - (intOf v).toNat)
      case atStart => exact ⟨0, x + 1, rfl, rfl, by omega, by omega, by omega, HR, HBA⟩
      case round =>
        obtain ⟨k, y, rfl, rfl, hk, hy0, hy1, HJ, HBw⟩ := hrel
        by_cases hkl : k < kids.length
        · obtain ⟨b, off, rfl, hlt, hc⟩ := HMem.out (by omega)
          obtain ⟨⟨kd, tx, n2, m2, a2, pos2, doc2, ad2, cap2, ks⟩, hkid⟩ : ∃ t, kids[k]? = some t := ⟨kids[k]'hkl, List.getElem?_eq_getElem hkl⟩
          have hBB : Below w.heap.size w wr := HB0.out.trans (HBw.out.mono HB0.out.size)
          obtain ⟨c0, c1, c2, c3, c4, c5, c6, c7⟩ := kid_cells hlt hBB hc hkid
          have HBn : Hid (Below w.heap.size w (wr.alloc (.cells #[.int .i64 kd, .string (strOfNums tx), .int .i64 n2, .int .i64 m2, .int .i64 a2, .int .i64 pos2, .string (strOfNums doc2), .slice ad2 ks.length cap2] 24))) := hBB.alloc hBB.size _
          have HBn2 : Hid (Below W.heap.size W (wr.alloc (.cells #[.int .i64 kd, .string (strOfNums tx), .int .i64 n2, .int .i64 m2, .int .i64 a2, .int .i64 pos2, .string (strOfNums doc2), .slice ad2 ks.length cap2] 24))) := HBw.out.alloc HBw.out.size _
          have HJ' := HJ.out
          rw [List.drop_eq_getElem_cons hkl, show kids[k] = .mk kd tx n2 m2 a2 pos2 doc2 ad2 cap2 ks by rw [List.getElem?_eq_getElem hkl] at hkid; exact Option.some.inj hkid, tszs] at HJ'
          by_cases hC : 400 < y
          · rw [if_pos hC] at HJ'
            have HE : Hid (R = y) := HJ'
            generalize strOfNums tx = U1 at c1 HBn HBn2
            generalize strOfNums doc2 = U2 at c6 HBn HBn2
            clear HJ' hc HJ hkid hBB
            go_wp2
            go_ret
            exact ⟨by rw [HE.out]; rfl, HBn2.out⟩
          · rw [if_neg hC] at HJ'
            have q := HIH.out k _ hkid _ y (d + 1) HBn.out hy0 (by omega) (by omega) (by omega)
            have hbd := tsz_bd (.mk kd tx n2 m2 a2 pos2 doc2 ad2 cap2 ks) y (d + 1) hy0 (by omega) (by omega) (by omega)
            change Calls Tryz.prog 10 #[.agg #[.int .i64 kd, .string (strOfNums tx), .int .i64 n2, .int .i64 m2, .int .i64 a2, .int .i64 pos2, .string (strOfNums doc2), .slice ad2 ks.length cap2], .int .i64 y, .int .i64 (d + 1)] _ _ at q
            generalize tsz (.mk kd tx n2 m2 a2 pos2 doc2 ad2 cap2 ks) y (d + 1) = C at q hbd HJ'
            generalize strOfNums tx = U1 at c1 q HBn HBn2
            generalize strOfNums doc2 = U2 at c6 q HBn HBn2
            have Q : Hid _ := q
            have HE : Hid (R = tszs (kids.drop (k + 1)) C (d + 1)) := HJ'
            clear HJ' q hc HJ hkid hBB
            go_wp2_with fail
            refine Calls.mono Q.out ?_
            rintro e w2 ⟨rfl, hb2⟩
            have HB2 : Hid (Below W.heap.size W w2) := HBn2.out.trans (hb2.mono HBn2.out.size)
            clear hb2
            go_wp2
            go_roundw
            case rel => first | exact ⟨k + 1, C, rfl, by go_num, by omega, by omega, by omega, HE, HB2⟩ | ((repeat apply Exists.intro); exact ⟨⟨k + 1, C, rfl, by go_num, by omega, by omega, by omega, HE, HB2⟩, rfl⟩)
            case measure => simp [intOf]; omega
        · obtain rfl : k = kids.length := by omega
          have E : Hid (R = y) := by show _ = _; rw [HJ.out, List.drop_length, tszs]
          clear HJ
          go_wp2
          go_ret
          exact ⟨by rw [E.out]; rfl, HBw.out⟩

set_option maxRecDepth 10000 in
set_option maxHeartbeats 1000000 in
theorem rcount_any {w : World} {t : Tn} (h : TnOk w t) (W : World) (hB : Below w.heap.size w W) :
    Calls Tryz.prog 15 #[t.val] W fun e W' => e = .returned (.int .i64 (tcount t)) ∧ Below W.heap.size W W' := by
  obtain ⟨C, hC⟩ : ∃ C, C = tcnt t 0 := ⟨_, rfl⟩
  have hm : min C 30000 = tcount t := by rw [hC]; rfl
  have HM : Hid (min C 30000 = tcount t) := hm
  have q := fun W2 (h2 : Below w.heap.size w W2) => rcnt_any h W2 0 h2 (by omega) (by omega)
  rw [← hC] at q
  have Q : Hid _ := q
  clear q hm hC
  cases t with
  | mk kind text n m a pos doc ad cap kids =>
    change Calls Tryz.prog 15 #[.agg #[.int .i64 kind, .string (strOfNums text), .int .i64 n, .int .i64 m, .int .i64 a, .int .i64 pos, .string (strOfNums doc), .slice ad kids.length cap]] W _
    have HBA : Hid (Below w.heap.size w (W.alloc (.cells #[.int .i64 kind, .string (strOfNums text), .int .i64 n, .int .i64 m, .int .i64 a, .int .i64 pos, .string (strOfNums doc), .slice ad kids.length cap] 24))) := hB.alloc hB.size _
    have HBA2 : Hid (Below W.heap.size W (W.alloc (.cells #[.int .i64 kind, .string (strOfNums text), .int .i64 n, .int .i64 m, .int .i64 a, .int .i64 pos, .string (strOfNums doc), .slice ad kids.length cap] 24))) := (Below.refl _ _).alloc (Nat.le_refl _) _
    have Q2 : Hid (Calls Tryz.prog 50 #[.agg #[.int .i64 kind, .string (strOfNums text), .int .i64 n, .int .i64 m, .int .i64 a, .int .i64 pos, .string (strOfNums doc), .slice ad kids.length cap], .int .i64 0] _ _) := Q.out _ HBA.out
    generalize strOfNums text = T1 at HBA HBA2 Q2 ⊢
    generalize strOfNums doc = T2 at HBA HBA2 Q2 ⊢
    go_enter Tryz.func15, Tryz.ntmps15
    go_wp2_with fail
    refine Calls.mono Q2.out ?_
    rintro e w2 ⟨rfl, hb2⟩
    go_wp2
    go_ret
    exact ⟨by rw [← HM.out]; rfl, HBA2.out.trans (hb2.mono HBA2.out.size)⟩

set_option maxRecDepth 10000 in
set_option maxHeartbeats 1000000 in
theorem rdeep_any {w : World} {t : Tn} (h : TnOk w t) (W : World) (hB : Below w.heap.size w W) :
    Calls Tryz.prog 16 #[t.val] W fun e W' => e = .returned (.int .i64 (tdeep t)) ∧ Below W.heap.size W W' := by
  obtain ⟨C, hC⟩ : ∃ C, C = tdp t 1 := ⟨_, rfl⟩
  have HM : Hid (tdeep t = if 64 < C then 100 else C) := by rw [hC]; rfl
  have q := fun W2 (h2 : Below w.heap.size w W2) => rdp_any h W2 1 h2 (by omega) (by omega)
  rw [← hC] at q
  have Q : Hid _ := q
  clear q hC
  cases t with
  | mk kind text n m a pos doc ad cap kids =>
    change Calls Tryz.prog 16 #[.agg #[.int .i64 kind, .string (strOfNums text), .int .i64 n, .int .i64 m, .int .i64 a, .int .i64 pos, .string (strOfNums doc), .slice ad kids.length cap]] W _
    have HBA : Hid (Below w.heap.size w (W.alloc (.cells #[.int .i64 kind, .string (strOfNums text), .int .i64 n, .int .i64 m, .int .i64 a, .int .i64 pos, .string (strOfNums doc), .slice ad kids.length cap] 24))) := hB.alloc hB.size _
    have HBA2 : Hid (Below W.heap.size W (W.alloc (.cells #[.int .i64 kind, .string (strOfNums text), .int .i64 n, .int .i64 m, .int .i64 a, .int .i64 pos, .string (strOfNums doc), .slice ad kids.length cap] 24))) := (Below.refl _ _).alloc (Nat.le_refl _) _
    have Q2 : Hid (Calls Tryz.prog 51 #[.agg #[.int .i64 kind, .string (strOfNums text), .int .i64 n, .int .i64 m, .int .i64 a, .int .i64 pos, .string (strOfNums doc), .slice ad kids.length cap], .int .i64 1] _ _) := Q.out _ HBA.out
    generalize strOfNums text = T1 at HBA HBA2 Q2 ⊢
    generalize strOfNums doc = T2 at HBA HBA2 Q2 ⊢
    by_cases hb : 64 < C
    · go_enter Tryz.func16, Tryz.ntmps16
      go_wp2_with fail
      refine Calls.mono Q2.out ?_
      rintro e w2 ⟨rfl, hb2⟩
      go_wp2
      go_ret
      exact ⟨by rw [HM.out, if_pos hb]; rfl, HBA2.out.trans (hb2.mono HBA2.out.size)⟩
    · go_enter Tryz.func16, Tryz.ntmps16
      go_wp2_with fail
      refine Calls.mono Q2.out ?_
      rintro e w2 ⟨rfl, hb2⟩
      go_wp2
      go_ret
      exact ⟨by rw [HM.out, if_neg (by omega)]; rfl, HBA2.out.trans (hb2.mono HBA2.out.size)⟩

set_option maxRecDepth 10000 in
set_option maxHeartbeats 1000000 in
theorem rfew_any {w : World} {t : Tn} (h : TnOk w t) (W : World) (hB : Below w.heap.size w W) :
    Calls Tryz.prog 5 #[t.val] W fun e W' => e = .returned (.bool (tfew t)) ∧ Below W.heap.size W W' := by
  obtain ⟨C, hC⟩ : ∃ C, C = tsz t 0 0 := ⟨_, rfl⟩
  have HM : Hid (tfew t = decide (C ≤ 400)) := by rw [hC]; rfl
  have q := fun W2 (h2 : Below w.heap.size w W2) => rsz_any h W2 0 0 h2 (by omega) (by omega) (by omega) (by omega)
  rw [← hC] at q
  have Q : Hid _ := q
  clear q hC
  cases t with
  | mk kind text n m a pos doc ad cap kids =>
    change Calls Tryz.prog 5 #[.agg #[.int .i64 kind, .string (strOfNums text), .int .i64 n, .int .i64 m, .int .i64 a, .int .i64 pos, .string (strOfNums doc), .slice ad kids.length cap]] W _
    have HBA : Hid (Below w.heap.size w (W.alloc (.cells #[.int .i64 kind, .string (strOfNums text), .int .i64 n, .int .i64 m, .int .i64 a, .int .i64 pos, .string (strOfNums doc), .slice ad kids.length cap] 24))) := hB.alloc hB.size _
    have HBA2 : Hid (Below W.heap.size W (W.alloc (.cells #[.int .i64 kind, .string (strOfNums text), .int .i64 n, .int .i64 m, .int .i64 a, .int .i64 pos, .string (strOfNums doc), .slice ad kids.length cap] 24))) := (Below.refl _ _).alloc (Nat.le_refl _) _
    have Q2 : Hid (Calls Tryz.prog 10 #[.agg #[.int .i64 kind, .string (strOfNums text), .int .i64 n, .int .i64 m, .int .i64 a, .int .i64 pos, .string (strOfNums doc), .slice ad kids.length cap], .int .i64 0, .int .i64 0] _ _) := Q.out _ HBA.out
    generalize strOfNums text = T1 at HBA HBA2 Q2 ⊢
    generalize strOfNums doc = T2 at HBA HBA2 Q2 ⊢
    go_enter Tryz.func5, Tryz.ntmps5
    go_wp2_with fail
    refine Calls.mono Q2.out ?_
    rintro e w2 ⟨rfl, hb2⟩
    go_wp2
    go_ret
    exact ⟨by rw [HM.out]; rfl, HBA2.out.trans (hb2.mono HBA2.out.size)⟩

end Go.Proofs.YtgkablmglkagfaaGreatDoor

/- The contract of the reference's own kids: reserved, options, entries. -/
namespace Go.Proofs.YtgkablmglkagfaaGreatDoor
open Go.RowKit
set_option linter.unusedVariables false
set_option linter.unusedSimpArgs false

def tkb (k0 : Int) : List Tn → Bool
  | [] => true
  | .mk kd _ _ _ _ _ _ _ _ _ :: r => if (kd ≠ 14 ∧ kd ≠ 15) ∨ kd ≠ k0 then false else tkb k0 r

def tkc (len : Int) : List Tn → Int → Bool
  | [], _ => true
  | .mk kd _ _ _ _ _ _ _ _ _ :: r, i => if i < len - 1 ∧ kd ≠ 19 then false else tkc len r (i + 1)

def tkind0 (l : List Tn) (i : Nat) : Int := match l[i]? with | some t => t.kind | none => 0

set_option maxRecDepth 10000 in
set_option maxHeartbeats 16000000 in
theorem rkidsE {w : World} {text : List Int} {n m a pos : Int} {doc : List Int} {ad : Option Addr} {cap : Nat} {kids : List Tn} (h : TnOk w (.mk 24 text n m a pos doc ad cap kids)) (W : World) (hB : Below w.heap.size w W) :
    Calls Tryz.prog 71 #[(Tn.mk 24 text n m a pos doc ad cap kids).val] W fun e W' => e = .returned (.bool (decide (kids.length = 1) && tworth (tkind0 kids 0))) ∧ Below W.heap.size W W' := by
  cases h with
  | mk hkind htext htl hn hm ha hpos hdoc hdl hkl hcap hnone hmem hkids =>
  obtain ⟨R, hR⟩ : ∃ R : Bool, R = (decide (kids.length = 1) && tworth (tkind0 kids 0)) := ⟨_, rfl⟩
  rw [← hR]
  show Calls Tryz.prog 71 #[.agg #[.int .i64 24, .string (strOfNums text), .int .i64 n, .int .i64 m, .int .i64 a, .int .i64 pos, .string (strOfNums doc), .slice ad kids.length cap]] W fun e W' => e = .returned (.bool R) ∧ Below W.heap.size W W'
  generalize strOfNums text = T1
  generalize strOfNums doc = T2
  have HK : Hid (∀ (i : Nat) (t : Tn), kids[i]? = some t → TnOk w t) := hkids
  have HMem : Hid _ := hmem
  have HB0 : Hid (Below w.heap.size w W) := hB
  have HBA : Hid (Below W.heap.size W (W.alloc (.cells #[.int .i64 24, .string T1, .int .i64 n, .int .i64 m, .int .i64 a, .int .i64 pos, .string T2, .slice ad kids.length cap] 24))) := (Below.refl _ _).alloc (Nat.le_refl _) _
  have HR : Hid (R = (decide (kids.length = 1) && tworth (tkind0 kids 0))) := hR
  clear hkids hmem hB htext hdoc hnone hR htl hdl
  by_cases hl : kids.length = 1
  · obtain ⟨b, off, rfl, hlt, hc⟩ := HMem.out (by omega)
    have hkl2 : 0 < kids.length := by omega
    obtain ⟨⟨kd, tx, n2, m2, a2, pos2, doc2, ad2, cap2, ks⟩, hkid⟩ : ∃ t, kids[0]? = some t := ⟨kids[0]'hkl2, List.getElem?_eq_getElem hkl2⟩
    have hBB : Below w.heap.size w (W.alloc (.cells #[.int .i64 24, .string T1, .int .i64 n, .int .i64 m, .int .i64 a, .int .i64 pos, .string T2, .slice _ kids.length cap] 24)) := HB0.out.trans (HBA.out.mono HB0.out.size)
    obtain ⟨c0, c1, c2, c3, c4, c5, c6, c7⟩ := kid_cells hlt hBB hc hkid
    rw [Nat.zero_mul, Nat.add_zero] at c0
    have hkd : i64b kd := by have := HK.out 0 _ hkid; cases this; assumption
    have q := fun W => rworth_any kd W hkd
    have HE : Hid (R = tworth kd) := by show _ = _; rw [HR.out, hl, show tkind0 kids 0 = kd by unfold tkind0; rw [hkid]; rfl]; rfl
    have hlt2 : b < W.heap.size := Nat.lt_of_lt_of_le hlt HB0.out.size
    have c0' : W.cell? ⟨b, off, none⟩ = some (.int .i64 kd) := by
      have := (kid_cells hlt HB0.out hc hkid).1
      rwa [Nat.zero_mul, Nat.add_zero] at this
    generalize tworth kd = B at q HE
    have Q : Hid _ := q
    rw [hl] at HBA ⊢
    clear q c0 c1 c2 c3 c4 c5 c6 c7 hc hkid HR hkd hBB hkl2 hl hkl hcap HMem
    go_enter Tryz.func71, Tryz.ntmps71
    go_wp2_with fail
    refine Calls.mono (Q.out _) ?_
    rintro e w2 ⟨rfl, rfl⟩
    go_wp2
    go_ret
    exact ⟨by rw [HE.out]; rfl, HBA.out⟩
  · have HE : Hid (R = false) := by show _ = _; rw [HR.out, decide_eq_false hl]; rfl
    clear HR
    go_enter Tryz.func71, Tryz.ntmps71
    go_wp2
    go_ret
    exact ⟨by rw [HE.out]; rfl, HBA.out⟩

set_option maxRecDepth 10000 in
set_option maxHeartbeats 16000000 in
theorem rkidsC {w : World} {text : List Int} {n m a pos : Int} {doc : List Int} {ad : Option Addr} {cap : Nat} {kids : List Tn} (h : TnOk w (.mk 4 text n m a pos doc ad cap kids)) (W : World) (hB : Below w.heap.size w W) :
    Calls Tryz.prog 71 #[(Tn.mk 4 text n m a pos doc ad cap kids).val] W fun e W' => e = .returned (.bool (tkc kids.length kids 0 && (decide (2 ≤ kids.length) && tworth (tkind0 kids (kids.length - 1))))) ∧ Below W.heap.size W W' := by
  cases h with
  | mk hkind htext htl hn hm ha hpos hdoc hdl hkl hcap hnone hmem hkids =>
  obtain ⟨R, hR⟩ : ∃ R : Bool, R = (tkc kids.length kids 0 && (decide (2 ≤ kids.length) && tworth (tkind0 kids (kids.length - 1)))) := ⟨_, rfl⟩
  rw [← hR]
  show Calls Tryz.prog 71 #[.agg #[.int .i64 4, .string (strOfNums text), .int .i64 n, .int .i64 m, .int .i64 a, .int .i64 pos, .string (strOfNums doc), .slice ad kids.length cap]] W fun e W' => e = .returned (.bool R) ∧ Below W.heap.size W W'
  generalize strOfNums text = T1
  generalize strOfNums doc = T2
  have HK : Hid (∀ (i : Nat) (t : Tn), kids[i]? = some t → TnOk w t) := hkids
  have HMem : Hid _ := hmem
  have HB0 : Hid (Below w.heap.size w W) := hB
  have HBA : Hid (Below W.heap.size W (W.alloc (.cells #[.int .i64 4, .string T1, .int .i64 n, .int .i64 m, .int .i64 a, .int .i64 pos, .string T2, .slice ad kids.length cap] 24))) := (Below.refl _ _).alloc (Nat.le_refl _) _
  have HR : Hid (R = (tkc kids.length kids 0 && (decide (2 ≤ kids.length) && tworth (tkind0 kids (kids.length - 1))))) := hR
  clear hkids hmem hB htext hdoc hnone hR htl hdl
  obtain ⟨Z, hZ⟩ : ∃ Z, Z = (decide (2 ≤ kids.length) && tworth (tkind0 kids (kids.length - 1))) := ⟨_, rfl⟩
  have HZ : Hid (Z = (decide (2 ≤ kids.length) && tworth (tkind0 kids (kids.length - 1)))) := hZ
  have HR0 : Hid (R = (tkc kids.length (kids.drop 0) (0 : Nat) && Z)) := by show _ = _; rw [HR.out, hZ]; rfl
  clear HR hZ
  go_enter Tryz.func71, Tryz.ntmps71
  go_wp2
  go_loopw [106] (fun v wr => ∃ (k : Nat), v = .int .i64 (k : Int) ∧ k ≤ kids.length ∧ Hid (R = (tkc kids.length (kids.drop k) (k : Nat) && Z)) ∧ Hid (Below (W.alloc (.cells #[.int .i64 4, .string T1, .int .i64 n, .int .i64 m, .int .i64 a, .int .i64 pos, .string T2, .slice ad kids.length cap] 24)).heap.size (W.alloc (.cells #[.int .i64 4, .string T1, .int .i64 n, .int .i64 m, .int .i64 a, .int .i64 pos, .string T2, .slice ad kids.length cap] 24)) wr)) (fun v _ => kids.length - (intOf v).toNat)
  case atStart => exact ⟨0, rfl, by omega, HR0, Below.refl _ _⟩
  case round =>
    obtain ⟨k, rfl, hk, HJ, HBw⟩ := hrel
    have hBW : Below W.heap.size W wr := HBA.out.trans (HBw.out.mono HBA.out.size)
    have hBB : Below w.heap.size w wr := HB0.out.trans (hBW.mono HB0.out.size)
    by_cases hkl2 : k < kids.length
    · obtain ⟨b, off, rfl, hlt, hc⟩ := HMem.out (by omega)
      obtain ⟨⟨kd, tx, n2, m2, a2, pos2, doc2, ad2, cap2, ks⟩, hkid⟩ : ∃ t, kids[k]? = some t := ⟨kids[k]'hkl2, List.getElem?_eq_getElem hkl2⟩
      obtain ⟨c0, c1, c2, c3, c4, c5, c6, c7⟩ := kid_cells hlt hBB hc hkid
      have hkd : i64b kd := by have := HK.out k _ hkid; cases this; assumption
      have HJ' := HJ.out
      rw [List.drop_eq_getElem_cons hkl2, show kids[k] = .mk kd tx n2 m2 a2 pos2 doc2 ad2 cap2 ks by rw [List.getElem?_eq_getElem hkl2] at hkid; exact Option.some.inj hkid, tkc] at HJ'
      generalize strOfNums tx = U1 at c1
      generalize strOfNums doc2 = U2 at c6
      have HBn : Hid (Below (W.alloc (.cells #[.int .i64 4, .string T1, .int .i64 n, .int .i64 m, .int .i64 a, .int .i64 pos, .string T2, .slice _ kids.length cap] 24)).heap.size (W.alloc (.cells #[.int .i64 4, .string T1, .int .i64 n, .int .i64 m, .int .i64 a, .int .i64 pos, .string T2, .slice _ kids.length cap] 24)) (wr.alloc (.cells #[.int .i64 kd, .string U1, .int .i64 n2, .int .i64 m2, .int .i64 a2, .int .i64 pos2, .string U2, .slice ad2 ks.length cap2] 24))) := HBw.out.alloc HBw.out.size _
      have HBf : Hid (Below W.heap.size W (wr.alloc (.cells #[.int .i64 kd, .string U1, .int .i64 n2, .int .i64 m2, .int .i64 a2, .int .i64 pos2, .string U2, .slice ad2 ks.length cap2] 24))) := hBW.alloc hBW.size _
      obtain ⟨hkd0, hkd1⟩ := hkd
      clear hc HJ hkid hBB hBW HBw
      by_cases hlast : (k : Int) < (kids.length : Int) - 1
      · by_cases h19 : kd = 19
        · subst h19
          rw [if_neg (by simp)] at HJ'
          have HE : Hid (R = (tkc kids.length (kids.drop (k + 1)) ((k + 1 : Nat) : Int) && Z)) := HJ'
          clear HJ'
          go_wp2
          go_roundw
          case rel => first | exact ⟨k + 1, by go_num, by omega, HE, HBn⟩ | ((repeat apply Exists.intro); exact ⟨⟨k + 1, by go_num, by omega, HE, HBn⟩, rfl⟩)
          case measure => simp [intOf]; omega
        · rw [if_pos ⟨hlast, h19⟩] at HJ'
          have HE : Hid (R = false) := by show _ = _; rw [HJ']; rfl
          clear HJ'
          go_wp2
          go_ret
          exact ⟨by rw [HE.out]; rfl, HBf.out⟩
      · rw [if_neg (fun h => hlast h.1)] at HJ'
        have HE : Hid (R = (tkc kids.length (kids.drop (k + 1)) ((k + 1 : Nat) : Int) && Z)) := HJ'
        clear HJ'
        go_wp2
        go_roundw
        case rel => first | exact ⟨k + 1, by go_num, by omega, HE, HBn⟩ | ((repeat apply Exists.intro); exact ⟨⟨k + 1, by go_num, by omega, HE, HBn⟩, rfl⟩)
        case measure => simp [intOf]; omega
    · obtain rfl : k = kids.length := by omega
      have HJ' := HJ.out
      rw [List.drop_length, tkc, HZ.out, Bool.true_and] at HJ'
      have HBF : Hid (Below W.heap.size W wr) := hBW
      by_cases hl : 2 ≤ kids.length
      · obtain ⟨b, off, rfl, hlt, hc⟩ := HMem.out (by omega)
        have hkl2 : kids.length - 1 < kids.length := by omega
        obtain ⟨⟨kd, tx, n2, m2, a2, pos2, doc2, ad2, cap2, ks⟩, hkid⟩ : ∃ t, kids[(kids.length - 1)]? = some t := ⟨kids[(kids.length - 1)]'hkl2, List.getElem?_eq_getElem hkl2⟩
        have c0 := (kid_cells hlt hBB hc hkid).1
        have hkd : i64b kd := by have := HK.out _ _ hkid; cases this; assumption
        have q := fun W => rworth_any kd W hkd
        have HE : Hid (R = tworth kd) := by show _ = _; rw [HJ', decide_eq_true hl, show tkind0 kids (kids.length - 1) = kd by unfold tkind0; rw [hkid]; rfl]; rfl
        generalize tworth kd = B at q HE
        have Q : Hid _ := q
        have hcast : (kids.length : Int) - 1 = ((kids.length - 1 : Nat) : Int) := by omega
        clear q hc hkid HJ HJ' hkd hBB hBW HZ
        go_wp2_with fail
        refine Calls.mono (Q.out _) ?_
        rintro e w2 ⟨rfl, rfl⟩
        go_wp2
        go_ret
        exact ⟨by rw [HE.out]; rfl, HBF.out⟩
      · have HE : Hid (R = false) := by show _ = _; rw [HJ', decide_eq_false hl]; rfl
        clear HJ HJ' HZ hBB hBW
        go_wp2
        go_ret
        exact ⟨by rw [HE.out]; first | rfl | (simp <;> omega), HBF.out⟩

end Go.Proofs.YtgkablmglkagfaaGreatDoor

/- The contract of the reference's own kids: reserved. -/
namespace Go.Proofs.YtgkablmglkagfaaGreatDoor
open Go.RowKit
set_option linter.unusedVariables false
set_option linter.unusedSimpArgs false

set_option maxRecDepth 10000 in
set_option maxHeartbeats 16000000 in
theorem rkidsB {w : World} {text : List Int} {n m a pos : Int} {doc : List Int} {ad : Option Addr} {cap : Nat} {kids : List Tn} (h : TnOk w (.mk 13 text n m a pos doc ad cap kids)) (W : World) (hB : Below w.heap.size w W) :
    Calls Tryz.prog 71 #[(Tn.mk 13 text n m a pos doc ad cap kids).val] W fun e W' => e = .returned (.bool (tkb (tkind0 kids 0) kids && decide (0 < kids.length))) ∧ Below W.heap.size W W' := by
  cases h with
  | mk hkind htext htl hn hm ha hpos hdoc hdl hkl hcap hnone hmem hkids =>
  obtain ⟨R, hR⟩ : ∃ R : Bool, R = (tkb (tkind0 kids 0) kids && decide (0 < kids.length)) := ⟨_, rfl⟩
  rw [← hR]
  show Calls Tryz.prog 71 #[.agg #[.int .i64 13, .string (strOfNums text), .int .i64 n, .int .i64 m, .int .i64 a, .int .i64 pos, .string (strOfNums doc), .slice ad kids.length cap]] W fun e W' => e = .returned (.bool R) ∧ Below W.heap.size W W'
  generalize strOfNums text = T1
  generalize strOfNums doc = T2
  have HK : Hid (∀ (i : Nat) (t : Tn), kids[i]? = some t → TnOk w t) := hkids
  have HMem : Hid _ := hmem
  have HB0 : Hid (Below w.heap.size w W) := hB
  have HBA : Hid (Below W.heap.size W (W.alloc (.cells #[.int .i64 13, .string T1, .int .i64 n, .int .i64 m, .int .i64 a, .int .i64 pos, .string T2, .slice ad kids.length cap] 24))) := (Below.refl _ _).alloc (Nat.le_refl _) _
  have HR : Hid (R = (tkb (tkind0 kids 0) kids && decide (0 < kids.length))) := hR
  clear hkids hmem hB htext hdoc hnone hR htl hdl
  obtain ⟨Z, hZ⟩ : ∃ Z : Bool, Z = decide (0 < kids.length) := ⟨_, rfl⟩
  have HZ : Hid (Z = decide (0 < kids.length)) := hZ
  have HR0 : Hid (R = (tkb (tkind0 kids 0) (kids.drop 0) && Z)) := by show _ = _; rw [HR.out, hZ]; rfl
  clear HR hZ
  go_enter Tryz.func71, Tryz.ntmps71
  go_wp2
  go_loopw [77] (fun v wr => ∃ (k : Nat), v = .int .i64 (k : Int) ∧ k ≤ kids.length ∧ Hid (R = (tkb (tkind0 kids 0) (kids.drop k) && Z)) ∧ Hid (Below (W.alloc (.cells #[.int .i64 13, .string T1, .int .i64 n, .int .i64 m, .int .i64 a, .int .i64 pos, .string T2, .slice ad kids.length cap] 24)).heap.size (W.alloc (.cells #[.int .i64 13, .string T1, .int .i64 n, .int .i64 m, .int .i64 a, .int .i64 pos, .string T2, .slice ad kids.length cap] 24)) wr)) (fun v _ => kids.length - (intOf v).toNat)
  case atStart => exact ⟨0, rfl, by omega, HR0, Below.refl _ _⟩
  case round =>
    obtain ⟨k, rfl, hk, HJ, HBw⟩ := hrel
    have hBW : Below W.heap.size W wr := HBA.out.trans (HBw.out.mono HBA.out.size)
    have hBB : Below w.heap.size w wr := HB0.out.trans (hBW.mono HB0.out.size)
    by_cases hkl2 : k < kids.length
    · obtain ⟨b, off, rfl, hlt, hc⟩ := HMem.out (by omega)
      have hkl0 : 0 < kids.length := by omega
      obtain ⟨⟨kd, tx, n2, m2, a2, pos2, doc2, ad2, cap2, ks⟩, hkid⟩ : ∃ t, kids[k]? = some t := ⟨kids[k]'hkl2, List.getElem?_eq_getElem hkl2⟩
      obtain ⟨⟨kdz, txz, n2z, m2z, a2z, pos2z, doc2z, ad2z, cap2z, ksz⟩, hkidz⟩ : ∃ t, kids[0]? = some t := ⟨kids[0]'hkl0, List.getElem?_eq_getElem hkl0⟩
      obtain ⟨c0, c1, c2, c3, c4, c5, c6, c7⟩ := kid_cells hlt hBB hc hkid
      have z0 := (kid_cells hlt hBB hc hkidz).1
      rw [Nat.zero_mul, Nat.add_zero] at z0
      have hblt : b < wr.heap.size := Nat.lt_of_lt_of_le hlt hBB.size
      have hkd : i64b kd := by have := HK.out k _ hkid; cases this; assumption
      have HJ' := HJ.out
      rw [List.drop_eq_getElem_cons hkl2, show kids[k] = .mk kd tx n2 m2 a2 pos2 doc2 ad2 cap2 ks by rw [List.getElem?_eq_getElem hkl2] at hkid; exact Option.some.inj hkid, tkb] at HJ'
      have hk0 : tkind0 kids 0 = kdz := by unfold tkind0; rw [hkidz]; rfl
      have HK0 : Hid (tkind0 kids 0 = kdz) := hk0
      generalize strOfNums tx = U1 at c1
      generalize strOfNums doc2 = U2 at c6
      have HBn : Hid (Below (W.alloc (.cells #[.int .i64 13, .string T1, .int .i64 n, .int .i64 m, .int .i64 a, .int .i64 pos, .string T2, .slice _ kids.length cap] 24)).heap.size (W.alloc (.cells #[.int .i64 13, .string T1, .int .i64 n, .int .i64 m, .int .i64 a, .int .i64 pos, .string T2, .slice _ kids.length cap] 24)) (wr.alloc (.cells #[.int .i64 kd, .string U1, .int .i64 n2, .int .i64 m2, .int .i64 a2, .int .i64 pos2, .string U2, .slice ad2 ks.length cap2] 24))) := HBw.out.alloc HBw.out.size _
      have HBf : Hid (Below W.heap.size W (wr.alloc (.cells #[.int .i64 kd, .string U1, .int .i64 n2, .int .i64 m2, .int .i64 a2, .int .i64 pos2, .string U2, .slice ad2 ks.length cap2] 24))) := hBW.alloc hBW.size _
      obtain ⟨hkd0, hkd1⟩ := hkd
      clear hc HJ hkid hkidz hBB hBW HBw
      by_cases h145 : kd ≠ 14 ∧ kd ≠ 15
      · rw [if_pos (.inl h145)] at HJ'
        have HE : Hid (R = false) := by show _ = _; rw [HJ']; rfl
        have d14 : decide (kd = 14) = false := decide_eq_false h145.1
        have d15 : decide (kd = 15) = false := decide_eq_false h145.2
        obtain ⟨n14, n15⟩ := h145
        have e14 : (kd == 14) = false := by simpa using n14
        have e15 : (kd == 15) = false := by simpa using n15
        clear HJ' hk0
        go_wp2
        go_quiet (fail)
        rename_i K _ hK
        refine hK _ _ ?_
        go_wp2
        go_ret
        exact ⟨by rw [HE.out]; rfl, HBf.out.trans ((below_drewN (Below.refl _ _) _).mono HBf.out.size)⟩
      · by_cases hkk : kd = kdz
        · subst hkk
          rw [if_neg (by rw [hk0]; simp; omega)] at HJ'
          have HE : Hid (R = (tkb (tkind0 kids 0) (kids.drop (k + 1)) && Z)) := HJ'
          clear HJ' hk0
          by_cases h14 : kd = 14
          · subst h14
            clear h145
            go_wp2
            go_quiet (fail)
            rename_i K _ hK
            refine hK _ _ ?_
            go_wp2
            all_goals
              go_roundw
              case rel => first | exact ⟨k + 1, by go_num, by omega, HE, HBn.out.trans ((below_drewN (Below.refl _ _) _).mono HBn.out.size)⟩ | ((repeat apply Exists.intro); exact ⟨⟨k + 1, by go_num, by omega, HE, HBn.out.trans ((below_drewN (Below.refl _ _) _).mono HBn.out.size)⟩, rfl⟩)
              case measure => simp [intOf]; omega
          · obtain rfl : kd = 15 := by omega
            clear h145 h14
            go_wp2
            go_quiet (fail)
            rename_i K _ hK
            refine hK _ _ ?_
            go_wp2
            all_goals
              go_roundw
              case rel => first | exact ⟨k + 1, by go_num, by omega, HE, HBn.out.trans ((below_drewN (Below.refl _ _) _).mono HBn.out.size)⟩ | ((repeat apply Exists.intro); exact ⟨⟨k + 1, by go_num, by omega, HE, HBn.out.trans ((below_drewN (Below.refl _ _) _).mono HBn.out.size)⟩, rfl⟩)
              case measure => simp [intOf]; omega
        · rw [if_pos (.inr (by rw [hk0]; exact hkk))] at HJ'
          have HE : Hid (R = false) := by show _ = _; rw [HJ']; rfl
          clear HJ' hk0
          have dkk : decide (kd = kdz) = false := decide_eq_false hkk
          have ekk : (kd == kdz) = false := by simpa using hkk
          by_cases h14 : kd = 14
          · subst h14
            clear h145
            go_wp2
            go_quiet (fail)
            rename_i K _ hK
            refine hK _ _ ?_
            go_wp2
            go_ret
            exact ⟨by rw [HE.out]; rfl, HBf.out.trans ((below_drewN (Below.refl _ _) _).mono HBf.out.size)⟩
          · obtain rfl : kd = 15 := by omega
            clear h145 h14
            go_wp2
            go_quiet (fail)
            rename_i K _ hK
            refine hK _ _ ?_
            go_wp2
            go_ret
            exact ⟨by rw [HE.out]; rfl, HBf.out.trans ((below_drewN (Below.refl _ _) _).mono HBf.out.size)⟩
    · obtain rfl : k = kids.length := by omega
      have HJ' := HJ.out
      rw [List.drop_length, tkb, HZ.out, Bool.true_and] at HJ'
      have HBF : Hid (Below W.heap.size W wr) := hBW
      have HE : Hid (R = decide (0 < kids.length)) := HJ'
      clear HJ HJ' HZ hBB hBW
      go_wp2
      go_ret
      exact ⟨by rw [HE.out]; first | rfl | (simp <;> omega) | simp, HBF.out⟩

end Go.Proofs.YtgkablmglkagfaaGreatDoor
