/- Put together by a program out of these texts of mine: TMath, TRef, TCell, PEach, PCount, TShort, PNum, PBound. -/
import Derived.Lib.MinMax
import Derived.OneCell
import Derived.Laws.EntriesVeiled
import Derived.Test.YtmoeibhenihhfaaGreatDoorBunA2

/- Trees of nodes as plain functions: how many, how deep, which are alike. -/
namespace Go.Proofs.YtmoeibhenihhfaaGreatDoor
set_option linter.unusedVariables false
set_option linter.unusedSimpArgs false

mutual
/-- The law's own 'size'. -/
def tsz : Tn → Int → Int → Int
  | .mk _ text _ _ _ _ doc _ _ kids, all, deep => if 80 < deep ∨ 2000 < (text.length : Int) ∨ 2000 < (doc.length : Int) then 1000 else tszs kids (all + 1) (deep + 1)
def tszs : List Tn → Int → Int → Int
  | [], all, _ => all
  | k :: r, all, deep => if 400 < all then all else tszs r (tsz k all deep) deep
end

mutual
/-- How many, added to so many. -/
def tcnt : Tn → Int → Int
  | .mk _ _ _ _ _ _ _ _ _ kids, all => if 20000 < all + 1 then 30000 else tcnts kids (all + 1)
def tcnts : List Tn → Int → Int
  | [], all => all
  | k :: r, all => if 20000 < tcnt k all then 30000 else tcnts r (tcnt k all)
end

mutual
/-- How deep, from a depth on. -/
def tdp : Tn → Int → Int
  | .mk _ _ _ _ _ _ _ _ _ kids, x => if 64 < x then x else tdps kids x x
def tdps : List Tn → Int → Int → Int
  | [], _, d => d
  | k :: r, x, d => if 64 < max d (tdp k (x + 1)) then max d (tdp k (x + 1)) else tdps r x (max d (tdp k (x + 1)))
end

mutual
/-- Alike but for their places. -/
def tsame : Tn → Tn → Bool
  | .mk k1 t1 n1 m1 a1 _ d1 _ _ kids1, .mk k2 t2 n2 m2 a2 _ d2 _ _ kids2 => decide (k1 = k2 ∧ t1 = t2 ∧ n1 = n2 ∧ m1 = m2 ∧ a1 = a2 ∧ d1 = d2 ∧ kids1.length = kids2.length) && tsames kids1 kids2
def tsames : List Tn → List Tn → Bool
  | [], _ => true
  | _ :: _, [] => true
  | x :: r, y :: q => tsame x y && tsames r q
end

def tcount (t : Tn) : Int := min (tcnt t 0) 30000

def tdeep (t : Tn) : Int := if 64 < tdp t 1 then 100 else tdp t 1

def tfew (t : Tn) : Bool := decide (tsz t 0 0 ≤ 400)

def tSame (a b : Tn) : Bool := decide (tdeep a ≤ 64) && (decide (tdeep b ≤ 64) && tsame a b)

mutual
theorem tcnt_bd : ∀ (t : Tn) (x : Int), 0 ≤ x → x ≤ 20000 → x + 1 ≤ tcnt t x ∧ tcnt t x ≤ 30000
  | .mk _ _ _ _ _ _ _ _ _ kids, x, h0, h1 => by
    rw [tcnt]
    by_cases h : 20000 < x + 1
    · rw [if_pos h]; omega
    · rw [if_neg h]
      have := tcnts_bd kids (x + 1) (by omega) (by omega)
      omega
theorem tcnts_bd : ∀ (l : List Tn) (x : Int), 0 ≤ x → x ≤ 20000 → x ≤ tcnts l x ∧ tcnts l x ≤ 30000
  | [], x, h0, h1 => by rw [tcnts]; omega
  | k :: r, x, h0, h1 => by
    have h2 := tcnt_bd k x h0 h1
    rw [tcnts]
    by_cases h : 20000 < tcnt k x
    · rw [if_pos h]; omega
    · rw [if_neg h]
      have := tcnts_bd r (tcnt k x) (by omega) (by omega)
      omega
end

mutual
theorem tdp_bd : ∀ (t : Tn) (x : Int), x ≤ 65 → x ≤ tdp t x ∧ tdp t x ≤ 65
  | .mk _ _ _ _ _ _ _ _ _ kids, x, h1 => by
    rw [tdp]
    by_cases h : 64 < x
    · rw [if_pos h]; omega
    · rw [if_neg h]
      exact tdps_bd kids x x (by omega) (by omega) (by omega)
theorem tdps_bd : ∀ (l : List Tn) (x d : Int), x ≤ 64 → x ≤ d → d ≤ 65 → x ≤ tdps l x d ∧ tdps l x d ≤ 65
  | [], x, d, h0, h1, h2 => by rw [tdps]; omega
  | k :: r, x, d, h0, h1, h2 => by
    have h3 := tdp_bd k (x + 1) (by omega)
    rw [tdps]
    by_cases h : 64 < max d (tdp k (x + 1))
    · rw [if_pos h]; omega
    · rw [if_neg h]
      exact tdps_bd r x _ h0 (by omega) (by omega)
end

mutual
theorem tsz_bd : ∀ (t : Tn) (x d : Int), 0 ≤ x → x ≤ 400 → 0 ≤ d → d ≤ 81 → 0 ≤ tsz t x d ∧ tsz t x d ≤ 1000
  | .mk _ text _ _ _ _ doc _ _ kids, x, d, h0, h1, h2, h3 => by
    rw [tsz]
    by_cases h : 80 < d ∨ 2000 < (text.length : Int) ∨ 2000 < (doc.length : Int)
    · rw [if_pos h]; omega
    · rw [if_neg h]
      exact tszs_bd kids (x + 1) (d + 1) (by omega) (by omega) (by omega) (by omega)
theorem tszs_bd : ∀ (l : List Tn) (x d : Int), 0 ≤ x → x ≤ 1000 → 0 ≤ d → d ≤ 81 → 0 ≤ tszs l x d ∧ tszs l x d ≤ 1000
  | [], x, d, h0, h1, _, _ => by rw [tszs]; omega
  | k :: r, x, d, h0, h1, h2, h3 => by
    rw [tszs]
    by_cases h : 400 < x
    · rw [if_pos h]; omega
    · rw [if_neg h]
      have := tsz_bd k x d h0 (by omega) h2 h3
      exact tszs_bd r _ d (by omega) (by omega) h2 h3
end

end Go.Proofs.YtmoeibhenihhfaaGreatDoor

/- The contracts of the reference's own count, Count, deep, Deep, and of the law's own size, Few. -/
namespace Go.Proofs.YtmoeibhenihhfaaGreatDoor
open Go.RowKit
set_option linter.unusedVariables false
set_option linter.unusedSimpArgs false

/-- A kid's cells. -/
theorem kid_cells {w W : World} {b off k : Nat} {kids : List Tn} (hlt : b < w.heap.size) (hB : Below w.heap.size w W) (h : ∀ (i : Nat) (t : Tn), kids[i]? = some t → ∀ (j : Nat) (u : Value), t.cells[j]? = some u → w.cell? ⟨b, off + i * 8 + j, none⟩ = some u)
    {kd : Int} {tx : List Int} {n m a pos : Int} {doc : List Int} {ad : Option Addr} {cap : Nat} {ks : List Tn} (hk : kids[k]? = some (.mk kd tx n m a pos doc ad cap ks)) :
    W.cell? ⟨b, off + k * 8, none⟩ = some (.int .i64 kd) ∧ W.cell? ⟨b, off + k * 8 + 1, none⟩ = some (.string (strOfNums tx)) ∧ W.cell? ⟨b, off + k * 8 + 2, none⟩ = some (.int .i64 n) ∧ W.cell? ⟨b, off + k * 8 + 3, none⟩ = some (.int .i64 m) ∧
    W.cell? ⟨b, off + k * 8 + 4, none⟩ = some (.int .i64 a) ∧ W.cell? ⟨b, off + k * 8 + 5, none⟩ = some (.int .i64 pos) ∧ W.cell? ⟨b, off + k * 8 + 6, none⟩ = some (.string (strOfNums doc)) ∧ W.cell? ⟨b, off + k * 8 + 7, none⟩ = some (.slice ad ks.length cap) := by
  have f := fun j u hj => (hB.cell (p := ⟨b, off + k * 8 + j, none⟩) hlt).trans (h k _ hk j u hj)
  exact ⟨f 0 _ rfl, f 1 _ rfl, f 2 _ rfl, f 3 _ rfl, f 4 _ rfl, f 5 _ rfl, f 6 _ rfl, f 7 _ rfl⟩

set_option maxRecDepth 10000 in
set_option maxHeartbeats 2000000 in
theorem rdp_any {w : World} {t : Tn} (h : TnOk w t) : ∀ (W : World) (x : Int), Below w.heap.size w W → 1 ≤ x → x ≤ 65 →
    Calls Tryz.prog 13 #[t.val, .int .i64 x] W fun e W' => e = .returned (.int .i64 (tdp t x)) ∧ Below W.heap.size W W' := by
  induction h with
  | @mk kind text n m a pos doc ad cap kids hkind htext htl hn hm ha hpos hdoc hdl hkl hcap hnone hmem hkids ih =>
    intro W x hB h0 h1
    obtain ⟨R, hR⟩ : ∃ R, R = tdp (.mk kind text n m a pos doc ad cap kids) x := ⟨_, rfl⟩
    rw [← hR]
    rw [tdp] at hR
    show Calls Tryz.prog 13 #[.agg #[.int .i64 kind, .string (strOfNums text), .int .i64 n, .int .i64 m, .int .i64 a, .int .i64 pos, .string (strOfNums doc), .slice ad kids.length cap], .int .i64 x] W fun e W' => e = .returned (.int .i64 R) ∧ Below W.heap.size W W'
    have HIH : Hid _ := ih
    have HMem : Hid _ := hmem
    have HB0 : Hid (Below w.heap.size w W) := hB
    have HBA : Hid (Below W.heap.size W (W.alloc (.cells #[.int .i64 kind, .string (strOfNums text), .int .i64 n, .int .i64 m, .int .i64 a, .int .i64 pos, .string (strOfNums doc), .slice ad kids.length cap] 24))) := (Below.refl _ _).alloc (Nat.le_refl _) _
    clear ih hmem hkids hB htext hdoc hnone
    by_cases hbig : 64 < x
    · rw [if_pos hbig] at hR
      have HR : Hid (R = x) := hR
      clear hR
      generalize strOfNums text = T1 at HBA ⊢
      generalize strOfNums doc = T2 at HBA ⊢
      go_enter Tryz.func13, Tryz.ntmps13
      go_wp2
      go_ret
      exact ⟨by rw [HR.out]; rfl, HBA.out⟩
    · rw [if_neg hbig] at hR
      have HR : Hid (R = tdps (kids.drop 0) x x) := hR
      have hbig' : x ≤ 64 := by omega
      clear hR
      generalize strOfNums text = T1 at HBA ⊢
      generalize strOfNums doc = T2 at HBA ⊢
      go_enter Tryz.func13, Tryz.ntmps13
      go_wp2
      go_loopw [5, 15] (fun xv v wr => ∃ (k : Nat) (y : Int), xv = .int .i64 y ∧ v = .int .i64 (k : Int) ∧ k ≤ kids.length ∧ x ≤ y ∧ y ≤ 65 ∧ Hid (R = tdps (kids.drop k) x y) ∧ Hid (Below W.heap.size W wr)) (fun _ v _ => kids.length - (intOf v).toNat)
      case atStart => exact ⟨0, x, rfl, rfl, by omega, by omega, by omega, HR, HBA⟩
      case round =>
        obtain ⟨k, y, rfl, rfl, hk, hy0, hy1, HJ, HBw⟩ := hrel
        by_cases hkl : k < kids.length
        · obtain ⟨b, off, rfl, hlt, hc⟩ := HMem.out (by omega)
          obtain ⟨⟨kd, tx, n2, m2, a2, pos2, doc2, ad2, cap2, ks⟩, hkid⟩ : ∃ t, kids[k]? = some t := ⟨kids[k]'hkl, List.getElem?_eq_getElem hkl⟩
          have hBB : Below w.heap.size w wr := HB0.out.trans (HBw.out.mono HB0.out.size)
          obtain ⟨c0, c1, c2, c3, c4, c5, c6, c7⟩ := kid_cells hlt hBB hc hkid
          have HBn : Hid (Below w.heap.size w (wr.alloc (.cells #[.int .i64 kd, .string (strOfNums tx), .int .i64 n2, .int .i64 m2, .int .i64 a2, .int .i64 pos2, .string (strOfNums doc2), .slice ad2 ks.length cap2] 24))) := hBB.alloc hBB.size _
          have HBn2 : Hid (Below W.heap.size W (wr.alloc (.cells #[.int .i64 kd, .string (strOfNums tx), .int .i64 n2, .int .i64 m2, .int .i64 a2, .int .i64 pos2, .string (strOfNums doc2), .slice ad2 ks.length cap2] 24))) := HBw.out.alloc HBw.out.size _
          have q := HIH.out k _ hkid _ (x + 1) HBn.out (by omega) (by omega)
          have hbd := tdp_bd (.mk kd tx n2 m2 a2 pos2 doc2 ad2 cap2 ks) (x + 1) (by omega)
          have HJ' := HJ.out
          rw [List.drop_eq_getElem_cons hkl, show kids[k] = .mk kd tx n2 m2 a2 pos2 doc2 ad2 cap2 ks by rw [List.getElem?_eq_getElem hkl] at hkid; exact Option.some.inj hkid, tdps] at HJ'
          change Calls Tryz.prog 13 #[.agg #[.int .i64 kd, .string (strOfNums tx), .int .i64 n2, .int .i64 m2, .int .i64 a2, .int .i64 pos2, .string (strOfNums doc2), .slice ad2 ks.length cap2], .int .i64 (x + 1)] _ _ at q
          generalize tdp (.mk kd tx n2 m2 a2 pos2 doc2 ad2 cap2 ks) (x + 1) = C at q hbd HJ'
          obtain ⟨M, hM⟩ : ∃ M, M = max y C := ⟨_, rfl⟩
          have hM1 : max y C = M := hM.symm
          have hMb : x ≤ M ∧ M ≤ 65 := by omega
          rw [← hM] at HJ'
          generalize strOfNums tx = U1 at c1 q HBn HBn2
          generalize strOfNums doc2 = U2 at c6 q HBn HBn2
          have Q : Hid _ := q
          clear q hc HJ hkid hBB hM
          by_cases hC : 64 < M
          · rw [if_pos hC] at HJ'
            have HE : Hid (R = M) := HJ'
            clear HJ'
            go_wp2_with fail
            refine Calls.mono Q.out ?_
            rintro e w2 ⟨rfl, hb2⟩
            go_wp2
            go_ret
            exact ⟨by rw [HE.out]; rfl, HBn2.out.trans (hb2.mono HBn2.out.size)⟩
          · rw [if_neg hC] at HJ'
            have HE : Hid (R = tdps (kids.drop (k + 1)) x M) := HJ'
            clear HJ'
            go_wp2_with fail
            refine Calls.mono Q.out ?_
            rintro e w2 ⟨rfl, hb2⟩
            have HB2 : Hid (Below W.heap.size W w2) := HBn2.out.trans (hb2.mono HBn2.out.size)
            clear hb2
            go_wp2
            go_roundw
            case rel => first | exact ⟨k + 1, M, rfl, by go_num, by omega, by omega, by omega, HE, HB2⟩ | ((repeat apply Exists.intro); exact ⟨⟨k + 1, M, rfl, by go_num, by omega, by omega, by omega, HE, HB2⟩, rfl⟩)
            case measure => simp [intOf]; omega
        · obtain rfl : k = kids.length := by omega
          have E : Hid (R = y) := by show _ = _; rw [HJ.out, List.drop_length, tdps]
          clear HJ
          go_wp2
          go_ret
          exact ⟨by rw [E.out]; rfl, HBw.out⟩

set_option maxRecDepth 10000 in
set_option maxHeartbeats 2000000 in
theorem rsz_any {w : World} {t : Tn} (h : TnOk w t) : ∀ (W : World) (x d : Int), Below w.heap.size w W → 0 ≤ x → x ≤ 400 → 0 ≤ d → d ≤ 81 →
    Calls Tryz.prog 12 #[t.val, .int .i64 x, .int .i64 d] W fun e W' => e = .returned (.int .i64 (tsz t x d)) ∧ Below W.heap.size W W' := by
  induction h with
  | @mk kind text n m a pos doc ad cap kids hkind htext htl hn hm ha hpos hdoc hdl hkl hcap hnone hmem hkids ih =>
    intro W x d hB h0 h1 hd0 hd1
    obtain ⟨R, hR⟩ : ∃ R, R = tsz (.mk kind text n m a pos doc ad cap kids) x d := ⟨_, rfl⟩
    rw [← hR]
    rw [tsz] at hR
    show Calls Tryz.prog 12 #[.agg #[.int .i64 kind, .string (strOfNums text), .int .i64 n, .int .i64 m, .int .i64 a, .int .i64 pos, .string (strOfNums doc), .slice ad kids.length cap], .int .i64 x, .int .i64 d] W fun e W' => e = .returned (.int .i64 R) ∧ Below W.heap.size W W'
    have HIH : Hid _ := ih
    have HMem : Hid _ := hmem
    have HB0 : Hid (Below w.heap.size w W) := hB
    have HBA : Hid (Below W.heap.size W (W.alloc (.cells #[.int .i64 kind, .string (strOfNums text), .int .i64 n, .int .i64 m, .int .i64 a, .int .i64 pos, .string (strOfNums doc), .slice ad kids.length cap] 24))) := (Below.refl _ _).alloc (Nat.le_refl _) _
    have hs1 := strOfNums_size text
    have hs2 := strOfNums_size doc
    clear ih hmem hkids hB htext hdoc hnone
    by_cases hbig : 80 < d ∨ 2000 < (text.length : Int) ∨ 2000 < (doc.length : Int)
    · rw [if_pos hbig] at hR
      have HR : Hid (R = 1000) := hR
      clear hR
      generalize strOfNums text = T1 at HBA hs1 ⊢
      generalize strOfNums doc = T2 at HBA hs2 ⊢
      by_cases g1 : 80 < d
      · clear hbig
        go_enter Tryz.func12, Tryz.ntmps12
        go_wp2
        go_ret
        exact ⟨by rw [HR.out]; rfl, HBA.out⟩
      · by_cases g2 : 2000 < (text.length : Int)
        · clear hbig
          go_enter Tryz.func12, Tryz.ntmps12
          go_wp2
          go_ret
          exact ⟨by rw [HR.out]; rfl, HBA.out⟩
        · have g3 : 2000 < (doc.length : Int) := by omega
          clear hbig
          go_enter Tryz.func12, Tryz.ntmps12
          go_wp2
          go_ret
          exact ⟨by rw [HR.out]; rfl, HBA.out⟩
    · rw [if_neg hbig] at hR
      have HR : Hid (R = tszs (kids.drop 0) (x + 1) (d + 1)) := hR
      have g1 : ¬ 80 < d := fun h => hbig (.inl h)
      have g2 : ¬ 2000 < (text.length : Int) := fun h => hbig (.inr (.inl h))
      have g3 : ¬ 2000 < (doc.length : Int) := fun h => hbig (.inr (.inr h))
      clear hR hbig
      generalize strOfNums text = T1 at HBA hs1 ⊢
      generalize strOfNums doc = T2 at HBA hs2 ⊢
      go_enter Tryz.func12, Tryz.ntmps12
      go_wp2
      go_loopw [1, 28] (fun xv v wr => ∃ (k : Nat) (y : Int), xv = .int .i64 y ∧ v = .int .i64 (k : Int) ∧ k ≤ kids.length ∧ 0 ≤ y ∧ y ≤ 1000 ∧ Hid (R = tszs (kids.drop k) y (d + 1)) ∧ Hid (Below W.heap.size W wr)) (fun _ v _ => kids.length - (intOf v).toNat)
      case atStart => exact ⟨0, x + 1, rfl, rfl, by omega, by omega, by omega, HR, HBA⟩
      case round =>
        obtain ⟨k, y, rfl, rfl, hk, hy0, hy1, HJ, HBw⟩ := hrel
        by_cases hkl : k < kids.length
        · obtain ⟨b, off, rfl, hlt, hc⟩ := HMem.out (by omega)
          obtain ⟨⟨kd, tx, n2, m2, a2, pos2, doc2, ad2, cap2, ks⟩, hkid⟩ : ∃ t, kids[k]? = some t := ⟨kids[k]'hkl, List.getElem?_eq_getElem hkl⟩
          have hBB : Below w.heap.size w wr := HB0.out.trans (HBw.out.mono HB0.out.size)
          obtain ⟨c0, c1, c2, c3, c4, c5, c6, c7⟩ := kid_cells hlt hBB hc hkid
          have HBn : Hid (Below w.heap.size w (wr.alloc (.cells #[.int .i64 kd, .string (strOfNums tx), .int .i64 n2, .int .i64 m2, .int .i64 a2, .int .i64 pos2, .string (strOfNums doc2), .slice ad2 ks.length cap2] 24))) := hBB.alloc hBB.size _
          have HBn2 : Hid (Below W.heap.size W (wr.alloc (.cells #[.int .i64 kd, .string (strOfNums tx), .int .i64 n2, .int .i64 m2, .int .i64 a2, .int .i64 pos2, .string (strOfNums doc2), .slice ad2 ks.length cap2] 24))) := HBw.out.alloc HBw.out.size _
          have HJ' := HJ.out
          rw [List.drop_eq_getElem_cons hkl, show kids[k] = .mk kd tx n2 m2 a2 pos2 doc2 ad2 cap2 ks by rw [List.getElem?_eq_getElem hkl] at hkid; exact Option.some.inj hkid, tszs] at HJ'
          by_cases hC : 400 < y
          · rw [if_pos hC] at HJ'
            have HE : Hid (R = y) := HJ'
            generalize strOfNums tx = U1 at c1 HBn HBn2
            generalize strOfNums doc2 = U2 at c6 HBn HBn2
            clear HJ' hc HJ hkid hBB
            go_wp2
            go_ret
            exact ⟨by rw [HE.out]; rfl, HBn2.out⟩
          · rw [if_neg hC] at HJ'
            have q := HIH.out k _ hkid _ y (d + 1) HBn.out hy0 (by omega) (by omega) (by omega)
            have hbd := tsz_bd (.mk kd tx n2 m2 a2 pos2 doc2 ad2 cap2 ks) y (d + 1) hy0 (by omega) (by omega) (by omega)
            change Calls Tryz.prog 12 #[.agg #[.int .i64 kd, .string (strOfNums tx), .int .i64 n2, .int .i64 m2, .int .i64 a2, .int .i64 pos2, .string (strOfNums doc2), .slice ad2 ks.length cap2], .int .i64 y, .int .i64 (d + 1)] _ _ at q
            generalize tsz (.mk kd tx n2 m2 a2 pos2 doc2 ad2 cap2 ks) y (d + 1) = C at q hbd HJ'
            generalize strOfNums tx = U1 at c1 q HBn HBn2
            generalize strOfNums doc2 = U2 at c6 q HBn HBn2
            have Q : Hid _ := q
            have HE : Hid (R = tszs (kids.drop (k + 1)) C (d + 1)) := HJ'
            clear HJ' q hc HJ hkid hBB
            go_wp2_with fail
            refine Calls.mono Q.out ?_
            rintro e w2 ⟨rfl, hb2⟩
            have HB2 : Hid (Below W.heap.size W w2) := HBn2.out.trans (hb2.mono HBn2.out.size)
            clear hb2
            go_wp2
            go_roundw
            case rel => first | exact ⟨k + 1, C, rfl, by go_num, by omega, by omega, by omega, HE, HB2⟩ | ((repeat apply Exists.intro); exact ⟨⟨k + 1, C, rfl, by go_num, by omega, by omega, by omega, HE, HB2⟩, rfl⟩)
            case measure => simp [intOf]; omega
        · obtain rfl : k = kids.length := by omega
          have E : Hid (R = y) := by show _ = _; rw [HJ.out, List.drop_length, tszs]
          clear HJ
          go_wp2
          go_ret
          exact ⟨by rw [E.out]; rfl, HBw.out⟩

set_option maxRecDepth 10000 in
set_option maxHeartbeats 1000000 in
theorem rdeep_any {w : World} {t : Tn} (h : TnOk w t) (W : World) (hB : Below w.heap.size w W) :
    Calls Tryz.prog 6 #[t.val] W fun e W' => e = .returned (.int .i64 (tdeep t)) ∧ Below W.heap.size W W' := by
  obtain ⟨C, hC⟩ : ∃ C, C = tdp t 1 := ⟨_, rfl⟩
  have HM : Hid (tdeep t = if 64 < C then 100 else C) := by rw [hC]; rfl
  have q := fun W2 (h2 : Below w.heap.size w W2) => rdp_any h W2 1 h2 (by omega) (by omega)
  rw [← hC] at q
  have Q : Hid _ := q
  clear q hC
  cases t with
  | mk kind text n m a pos doc ad cap kids =>
    change Calls Tryz.prog 6 #[.agg #[.int .i64 kind, .string (strOfNums text), .int .i64 n, .int .i64 m, .int .i64 a, .int .i64 pos, .string (strOfNums doc), .slice ad kids.length cap]] W _
    have HBA : Hid (Below w.heap.size w (W.alloc (.cells #[.int .i64 kind, .string (strOfNums text), .int .i64 n, .int .i64 m, .int .i64 a, .int .i64 pos, .string (strOfNums doc), .slice ad kids.length cap] 24))) := hB.alloc hB.size _
    have HBA2 : Hid (Below W.heap.size W (W.alloc (.cells #[.int .i64 kind, .string (strOfNums text), .int .i64 n, .int .i64 m, .int .i64 a, .int .i64 pos, .string (strOfNums doc), .slice ad kids.length cap] 24))) := (Below.refl _ _).alloc (Nat.le_refl _) _
    have Q2 : Hid (Calls Tryz.prog 13 #[.agg #[.int .i64 kind, .string (strOfNums text), .int .i64 n, .int .i64 m, .int .i64 a, .int .i64 pos, .string (strOfNums doc), .slice ad kids.length cap], .int .i64 1] _ _) := Q.out _ HBA.out
    generalize strOfNums text = T1 at HBA HBA2 Q2 ⊢
    generalize strOfNums doc = T2 at HBA HBA2 Q2 ⊢
    by_cases hb : 64 < C
    · go_enter Tryz.func6, Tryz.ntmps6
      go_wp2_with fail
      refine Calls.mono Q2.out ?_
      rintro e w2 ⟨rfl, hb2⟩
      go_wp2
      go_ret
      exact ⟨by rw [HM.out, if_pos hb]; rfl, HBA2.out.trans (hb2.mono HBA2.out.size)⟩
    · go_enter Tryz.func6, Tryz.ntmps6
      go_wp2_with fail
      refine Calls.mono Q2.out ?_
      rintro e w2 ⟨rfl, hb2⟩
      go_wp2
      go_ret
      exact ⟨by rw [HM.out, if_neg (by omega)]; rfl, HBA2.out.trans (hb2.mono HBA2.out.size)⟩

set_option maxRecDepth 10000 in
set_option maxHeartbeats 1000000 in
theorem rfew_any {w : World} {t : Tn} (h : TnOk w t) (W : World) (hB : Below w.heap.size w W) :
    Calls Tryz.prog 5 #[t.val] W fun e W' => e = .returned (.bool (tfew t)) ∧ Below W.heap.size W W' := by
  obtain ⟨C, hC⟩ : ∃ C, C = tsz t 0 0 := ⟨_, rfl⟩
  have HM : Hid (tfew t = decide (C ≤ 400)) := by rw [hC]; rfl
  have q := fun W2 (h2 : Below w.heap.size w W2) => rsz_any h W2 0 0 h2 (by omega) (by omega) (by omega) (by omega)
  rw [← hC] at q
  have Q : Hid _ := q
  clear q hC
  cases t with
  | mk kind text n m a pos doc ad cap kids =>
    change Calls Tryz.prog 5 #[.agg #[.int .i64 kind, .string (strOfNums text), .int .i64 n, .int .i64 m, .int .i64 a, .int .i64 pos, .string (strOfNums doc), .slice ad kids.length cap]] W _
    have HBA : Hid (Below w.heap.size w (W.alloc (.cells #[.int .i64 kind, .string (strOfNums text), .int .i64 n, .int .i64 m, .int .i64 a, .int .i64 pos, .string (strOfNums doc), .slice ad kids.length cap] 24))) := hB.alloc hB.size _
    have HBA2 : Hid (Below W.heap.size W (W.alloc (.cells #[.int .i64 kind, .string (strOfNums text), .int .i64 n, .int .i64 m, .int .i64 a, .int .i64 pos, .string (strOfNums doc), .slice ad kids.length cap] 24))) := (Below.refl _ _).alloc (Nat.le_refl _) _
    have Q2 : Hid (Calls Tryz.prog 12 #[.agg #[.int .i64 kind, .string (strOfNums text), .int .i64 n, .int .i64 m, .int .i64 a, .int .i64 pos, .string (strOfNums doc), .slice ad kids.length cap], .int .i64 0, .int .i64 0] _ _) := Q.out _ HBA.out
    generalize strOfNums text = T1 at HBA HBA2 Q2 ⊢
    generalize strOfNums doc = T2 at HBA HBA2 Q2 ⊢
    go_enter Tryz.func5, Tryz.ntmps5
    go_wp2_with fail
    refine Calls.mono Q2.out ?_
    rintro e w2 ⟨rfl, hb2⟩
    go_wp2
    go_ret
    exact ⟨by rw [HM.out]; rfl, HBA2.out.trans (hb2.mono HBA2.out.size)⟩

end Go.Proofs.YtmoeibhenihhfaaGreatDoor

/- The cells of a boxed parameter behind a call. -/
namespace Go.Proofs.YtmoeibhenihhfaaGreatDoor
open Go.RowKit
set_option linter.unusedVariables false

theorem own_cells {w w1 : World} {cs : Array Value} {ty : TypeId} (hb : Below (w.alloc (.cells cs ty)).heap.size (w.alloc (.cells cs ty)) w1) (i : Nat) (v : Value) (hv : cs[i]? = some v) : w1.cell? ⟨w.heap.size, i, none⟩ = some v :=
  (hb.cell (by simp)).trans (by rw [World.cell?_alloc_new]; exact hv)

end Go.Proofs.YtmoeibhenihhfaaGreatDoor

/- The contract of the program's own node.each, of whatever function value it is handed. -/
namespace Go.Proofs.YtmoeibhenihhfaaGreatDoor
open Go.RowKit
set_option linter.unusedVariables false
set_option linter.unusedSimpArgs false

/-- A list of nodes that lies in the world w. -/
structure Kl (w : World) (ad : Option Addr) (cap : Nat) (kids : List Tn) : Prop where
  hlen : (kids.length : Int) ≤ 9223372036854775807
  hcap : kids.length ≤ cap
  hnil : ad = none → cap = 0
  hmem : 0 < kids.length → ∃ b off, ad = some ⟨b, off, none⟩ ∧ b < w.heap.size ∧ ∀ (i : Nat) (t : Tn), kids[i]? = some t → ∀ (j : Nat) (u : Value), t.cells[j]? = some u → w.cell? ⟨b, off + i * 8 + j, none⟩ = some u
  hall : ∀ (i : Nat) (t : Tn), kids[i]? = some t → TnOk w t

theorem Kl.under {w w' : World} {ad : Option Addr} {cap : Nat} {kids : List Tn} (h : Kl w ad cap kids) (hb : Below w.heap.size w w') : Kl w' ad cap kids := by
  refine ⟨h.hlen, h.hcap, h.hnil, fun hp => ?_, fun i t hi => (h.hall i t hi).under hb⟩
  obtain ⟨b, off, h1, h2, h3⟩ := h.hmem hp
  exact ⟨b, off, h1, Nat.lt_of_lt_of_le h2 hb.size, fun i t hi j u hj => (hb.cell h2).trans (h3 i t hi j u hj)⟩

theorem TnOk.kl {w : World} {kind : Int} {text : List Int} {n m a pos : Int} {doc : List Int} {ad : Option Addr} {cap : Nat} {kids : List Tn} (h : TnOk w (.mk kind text n m a pos doc ad cap kids)) : Kl w ad cap kids := by
  cases h with
  | mk hkind htext htl hn hm ha hpos hdoc hdl hkl hcap hnone hmem hkids => exact ⟨hkl, hcap, hnone, hmem, hkids⟩

/-- The function has a body: a call enters it. -/
def Goin (k : FuncId) : Prop := ∀ (args : Array Value) (w : World), (callFunc k args).run Tryz.prog w = .ok (.enter k args) w

set_option maxRecDepth 10000 in
set_option maxHeartbeats 2000000 in
theorem peach_any {w : World} {ad : Option Addr} {cap : Nat} {kids : List Tn} (hk : Kl w ad cap kids) (kf : FuncId) (hin : Goin kf) (caps : Array Value) (J : Nat → World → Prop) (Z : World → Prop)
    (hB : ∀ i V, J i V → Below w.heap.size w V) (hJ : ∀ i V V', J i V → Below V.heap.size V V' → J i V')
    (hf : ∀ (i : Nat) (t : Tn), kids[i]? = some t → ∀ V, J i V → Calls Tryz.prog kf (#[t.val] ++ caps) V fun e V' => (e = .returned (.bool true) ∧ J (i + 1) V') ∨ (e = .returned (.bool false) ∧ Z V'))
    (W : World) (h0 : J 0 W) :
    Calls Tryz.prog 20 #[.slice ad kids.length cap, .func (.func kf) #[] caps] W fun e W' => (e = .returned (.bool true) ∧ J kids.length W') ∨ (e = .returned (.bool false) ∧ Z W') := by
  have hkl := hk.hlen
  have HMem : Hid _ := hk.hmem
  have HF : Hid _ := hf
  have HS : Hid (∀ i V, J i V → Below w.heap.size w V) := hB
  have HJ : Hid (∀ i V V', J i V → Below V.heap.size V V' → J i V') := hJ
  have H0 : Hid (J 0 W) := h0
  clear hk hf hB hJ h0
  unfold Goin at hin
  go_enter Tryz.func20, Tryz.ntmps20
  go_wp2
  go_loopw [9] (fun v wr => ∃ (k : Nat), v = .int .i64 (k : Int) ∧ k ≤ kids.length ∧ Hid (J k wr)) (fun v _ => kids.length - (intOf v).toNat)
  case atStart => exact ⟨0, rfl, by omega, H0⟩
  case round =>
    obtain ⟨k, rfl, hk, HK⟩ := hrel
    by_cases hkl2 : k < kids.length
    · obtain ⟨b, off, rfl, hlt, hc⟩ := HMem.out (by omega)
      obtain ⟨⟨kd, tx, n2, m2, a2, pos2, doc2, ad2, cap2, ks⟩, hkid⟩ : ∃ t, kids[k]? = some t := ⟨kids[k]'hkl2, List.getElem?_eq_getElem hkl2⟩
      have hBB : Below w.heap.size w wr := HS.out _ _ HK.out
      obtain ⟨c0, c1, c2, c3, c4, c5, c6, c7⟩ := kid_cells hlt hBB hc hkid
      have HBn : Hid (J k (wr.alloc (.cells #[.int .i64 kd, .string (strOfNums tx), .int .i64 n2, .int .i64 m2, .int .i64 a2, .int .i64 pos2, .string (strOfNums doc2), .slice ad2 ks.length cap2] 24))) := HJ.out _ _ _ HK.out ((Below.refl _ _).alloc (Nat.le_refl _) _)
      have q := HF.out k _ hkid _ HBn.out
      change Calls Tryz.prog kf ((#[Value.agg #[.int .i64 kd, .string (strOfNums tx), .int .i64 n2, .int .i64 m2, .int .i64 a2, .int .i64 pos2, .string (strOfNums doc2), .slice ad2 ks.length cap2]] : Array Value) ++ caps) _ _ at q
      generalize strOfNums tx = U1 at c1 q HBn
      generalize strOfNums doc2 = U2 at c6 q HBn
      have Q : Hid _ := q
      clear q hc hkid hBB
      go_wp2_with fail
      refine Calls.mono Q.out ?_
      rintro e w2 (⟨rfl, hz⟩ | ⟨rfl, hz⟩)
      · have HB2 : Hid (J (k + 1) w2) := hz
        clear hz
        go_wp2
        go_roundw
        case rel => first | exact ⟨k + 1, by go_num, by omega, HB2⟩ | ((repeat apply Exists.intro); exact ⟨⟨k + 1, by go_num, by omega, HB2⟩, rfl⟩)
        case measure => simp [intOf]; omega
      · have HZ : Hid (Z w2) := hz
        clear hz
        go_wp2
        go_ret
        exact .inr ⟨rfl, HZ.out⟩
    · obtain rfl : k = kids.length := by omega
      go_wp2
      go_ret
      exact .inl ⟨rfl, HK.out⟩

end Go.Proofs.YtmoeibhenihhfaaGreatDoor

/- The contracts of the program's own node.Count and of the closure that it goes down by. -/
namespace Go.Proofs.YtmoeibhenihhfaaGreatDoor
open Go.RowKit
set_option linter.unusedVariables false
set_option linter.unusedSimpArgs false

theorem one_cell_of {V : World} {g : Nat} {v : Value} {t : TypeId} (h : V.heap[g]? = some (.cells #[v] t (0, 0))) : V.cell? ⟨g, 0, none⟩ = some v := by
  simp [World.cell?, h]

theorem one_frozen {V : World} {g : Nat} {v : Value} {t : TypeId} (h : V.heap[g]? = some (.cells #[v] t (0, 0))) : V.frozen? ⟨g, 0, none⟩ = false := by
  simp [World.frozen?, h]

theorem alloc_at (w : World) (o : Obj) {k : Nat} (hk : k = w.heap.size) : (w.alloc o).heap[k]? = some o := by subst hk; exact heap_alloc_new _ _

theorem one_lt {V : World} {g : Nat} {o : Obj} (h : V.heap[g]? = some o) : g < V.heap.size := by
  rcases Nat.lt_or_ge g V.heap.size with h' | h'
  · exact h'
  · rw [Array.getElem?_eq_none h'] at h; cases h

theorem alloc_old {w : World} {o x : Obj} {k : Nat} (h : w.heap[k]? = some x) : (w.alloc o).heap[k]? = some x :=
  (((Below.refl w.heap.size w).alloc (Nat.le_refl _) o).block _ (one_lt h)).trans h

mutual
theorem tcnt_or : ∀ (t : Tn) (x : Int), 0 ≤ x → x ≤ 20000 → tcnt t x ≤ 20000 ∨ tcnt t x = 30000
  | .mk _ _ _ _ _ _ _ _ _ kids, x, h0, h1 => by
    rw [tcnt]
    by_cases h : 20000 < x + 1
    · rw [if_pos h]; exact .inr rfl
    · rw [if_neg h]
      exact tcnts_or kids (x + 1) (by omega) (by omega)
theorem tcnts_or : ∀ (l : List Tn) (x : Int), 0 ≤ x → x ≤ 20000 → tcnts l x ≤ 20000 ∨ tcnts l x = 30000
  | [], x, h0, h1 => by rw [tcnts]; exact .inl h1
  | k :: r, x, h0, h1 => by
    have h2 := tcnt_bd k x h0 h1
    rw [tcnts]
    by_cases h : 20000 < tcnt k x
    · rw [if_pos h]; exact .inr rfl
    · rw [if_neg h]
      exact tcnts_or r (tcnt k x) (by omega) (by omega)
end

/-- What node.Count's closure goes by: the count's cell, its own. -/
structure Cst (w : World) (gc gd : Nat) (V : World) (c : Int) : Prop where
  below : Below w.heap.size w V
  cnt : V.heap[gc]? = some (.cells #[.int .i64 c] 3 (0, 0))
  self : V.heap[gd]? = some (.cells #[.func (.func 21) #[] #[.pointer (some ⟨gc, 0, none⟩), .pointer (some ⟨gd, 0, none⟩)]] 26 (0, 0))

theorem Cst.under {w : World} {gc gd : Nat} {V V' : World} {c : Int} (h : Cst w gc gd V c) (hb : Below V.heap.size V V') : Cst w gc gd V' c :=
  ⟨h.below.trans (hb.mono h.below.size), (hb.block _ (one_lt h.cnt)).trans h.cnt, (hb.block _ (one_lt h.self)).trans h.self⟩

theorem Cst.set {w : World} {gc gd : Nat} {V : World} {c : Int} (h : Cst w gc gd V c) (hc : w.heap.size ≤ gc) (hne : gd ≠ gc) (y : Int) : Cst w gc gd (V.setCell ⟨gc, 0, none⟩ (.int .i64 y)) y :=
  ⟨h.below.setCell hc _, one_setCell h.cnt, (heap_setCell_other _ _ _ _ hne).trans h.self⟩

set_option maxRecDepth 10000 in
set_option maxHeartbeats 2000000 in
theorem pcnt_any {w : World} {t : Tn} (h : TnOk w t) (gc gd : Nat) (hc : w.heap.size ≤ gc) (hne : gd ≠ gc) : ∀ (V : World) (c : Int), Cst w gc gd V c → 0 ≤ c → c ≤ 20000 →
    Calls Tryz.prog 21 #[t.val, .pointer (some ⟨gc, 0, none⟩), .pointer (some ⟨gd, 0, none⟩)] V fun e V' => (e = .returned (.bool true) ∧ Cst w gc gd V' (tcnt t c) ∧ tcnt t c ≤ 20000) ∨ (e = .returned (.bool false) ∧ 20000 < tcnt t c ∧ Below w.heap.size w V') := by
  induction h with
  | @mk kind text n m a pos doc ad cap kids hkind htext htl hn hm ha hpos hdoc hdl hkl hcap hnone hmem hkids ih =>
    intro V c hV h0 h1
    have hkl : Kl w ad cap kids := ⟨hkl, hcap, hnone, hmem, hkids⟩
    have hcell := one_cell_of hV.cnt
    have hself := one_cell_of hV.self
    have hlt := one_lt hV.cnt
    have hfr := one_frozen hV.cnt
    have hltd := one_lt hV.self
    have hset := hV.set hc hne (c + 1)
    show Calls Tryz.prog 21 #[.agg #[.int .i64 kind, .string (strOfNums text), .int .i64 n, .int .i64 m, .int .i64 a, .int .i64 pos, .string (strOfNums doc), .slice ad kids.length cap], .pointer (some ⟨gc, 0, none⟩), .pointer (some ⟨gd, 0, none⟩)] V _
    obtain ⟨R, hR⟩ : ∃ R, R = tcnt (.mk kind text n m a pos doc ad cap kids) c := ⟨_, rfl⟩
    rw [← hR]
    rw [tcnt] at hR
    have hcap' : ∀ (T1 T2 : ByteArray), Cst w gc gd ((V.setCell ⟨gc, 0, none⟩ (.int .i64 (c + 1))).alloc (.cells #[.int .i64 kind, .string T1, .int .i64 n, .int .i64 m, .int .i64 a, .int .i64 pos, .string T2, .slice ad kids.length cap] 24)) (c + 1) := fun _ _ => hset.under ((Below.refl _ _).alloc (Nat.le_refl _) _)
    generalize strOfNums text = T1
    generalize strOfNums doc = T2
    have HA := hcap' T1 T2
    have hself2 : ((V.setCell ⟨gc, 0, none⟩ (.int .i64 (c + 1))).alloc (.cells #[.int .i64 kind, .string T1, .int .i64 n, .int .i64 m, .int .i64 a, .int .i64 pos, .string T2, .slice ad kids.length cap] 24)).cell? ⟨gd, 0, none⟩ = some (.func (.func 21) #[] #[.pointer (some ⟨gc, 0, none⟩), .pointer (some ⟨gd, 0, none⟩)]) := one_cell_of HA.self
    by_cases hbig : c + 1 ≤ 20000
    · rw [if_neg (by omega)] at hR
      have q := peach_any hkl 21 Tryz.call21 #[.pointer (some ⟨gc, 0, none⟩), .pointer (some ⟨gd, 0, none⟩)] (fun i U => ∃ y, Cst w gc gd U y ∧ 0 ≤ y ∧ y ≤ 20000 ∧ R = tcnts (kids.drop i) y) (fun U => 20000 < R ∧ Below w.heap.size w U)
        (fun i U ⟨y, hy, _⟩ => hy.below) (fun i U U' ⟨y, hy, h2, h3, h4⟩ hb => ⟨y, hy.under hb, h2, h3, h4⟩)
        (fun i t hi U ⟨y, hy, h2, h3, h4⟩ => by
          refine (ih i t hi U y hy h2 h3).mono ?_
          have hil : i < kids.length := (List.getElem?_eq_some_iff.1 hi).1
          rw [List.drop_eq_getElem_cons hil, show kids[i] = t by rw [List.getElem?_eq_getElem hil] at hi; exact Option.some.inj hi, tcnts] at h4
          have hbd := tcnt_bd t y h2 h3
          rintro e U' (⟨rfl, h5, h6⟩ | ⟨rfl, h5, h6⟩)
          · rw [if_neg (by omega)] at h4
            exact .inl ⟨rfl, _, h5, by omega, h6, h4⟩
          · rw [if_pos h5] at h4
            exact .inr ⟨rfl, by omega, h6⟩) _ ⟨c + 1, HA, by omega, hbig, by rw [hR]; rfl⟩
      have Q : Hid _ := q
      clear q hcap' ih hkl hmem hkids hset HA hV hR htext hdoc hnone
      go_enter Tryz.func21, Tryz.ntmps21
      go_wp2_with fail
      refine Calls.mono Q.out ?_
      rintro e U (⟨rfl, y, h5, h6, h7, h8⟩ | ⟨rfl, h5, h6⟩)
      · have H : Hid _ := And.intro h5 (And.intro h7 h8)
        clear h5 h7 h8
        go_wp2
        go_ret
        obtain ⟨h5, h7, h8⟩ := H.out
        have h8' : R = y := by rw [h8, List.drop_length, tcnts]
        subst h8'
        exact .inl ⟨rfl, h5, h7⟩
      · have H : Hid _ := And.intro h5 h6
        clear h5 h6
        go_wp2
        go_ret
        exact .inr ⟨rfl, H.out.1, H.out.2⟩
    · rw [if_pos (by omega)] at hR
      have HB : Hid (Below w.heap.size w _) := HA.below
      have HR : Hid (20000 < R) := by show _ < _; omega
      clear hcap' ih hkl hmem hkids hset HA hV htext hdoc hnone hR
      go_enter Tryz.func21, Tryz.ntmps21
      go_wp2
      go_ret
      exact .inr ⟨rfl, HR.out, HB.out⟩

set_option maxRecDepth 10000 in
set_option maxHeartbeats 2000000 in
theorem pcount_all {w : World} {t : Tn} (h : TnOk w t) (W : World) (hB : Below w.heap.size w W) :
    Calls Tryz.prog 10 #[t.val] W fun e W' => e = .returned (.int .i64 (tcount t)) ∧ Below W.heap.size W W' := by
  have q := fun V hV => pcnt_any (h.under hB) (W.heap.size + 1) (W.heap.size + 2) (by omega) (by omega) V 0 hV (by omega) (by omega)
  have hbd := tcnt_or t 0 (by omega) (by omega)
  have E0 : tcount t = min (tcnt t 0) 30000 := rfl
  rw [E0]
  clear E0
  generalize tcnt t 0 = C at q hbd ⊢
  have hmf : ∀ (fn : Fn) (first cap : Array Value) (w : World), (Instr.makeFunc fn first cap).run Tryz.prog w = .ok (.func fn first cap) w := fun _ _ _ _ => rfl
  obtain ⟨kind, text, n, m, a, pos, doc, ad, cap, kids⟩ := t
  show Calls Tryz.prog 10 #[.agg #[.int .i64 kind, .string (strOfNums text), .int .i64 n, .int .i64 m, .int .i64 a, .int .i64 pos, .string (strOfNums doc), .slice ad kids.length cap]] W _
  change ∀ V, _ → Calls Tryz.prog 21 #[.agg #[.int .i64 kind, .string (strOfNums text), .int .i64 n, .int .i64 m, .int .i64 a, .int .i64 pos, .string (strOfNums doc), .slice ad kids.length cap], .pointer (some ⟨W.heap.size + 1, 0, none⟩), .pointer (some ⟨W.heap.size + 2, 0, none⟩)] V _ at q
  generalize strOfNums text = T1 at q ⊢
  generalize strOfNums doc = T2 at q ⊢
  have HQ : Hid _ := q
  clear q h hB
  go_enter Tryz.func10, Tryz.ntmps10
  go_wp2_with fail
  refine Calls.mono (HQ.out _ ?_) ?_
  · exact ⟨(((Below.refl _ _).alloc (Nat.le_refl _) _).alloc (by simp only [World.size_alloc]; omega) _).alloc (by simp only [World.size_alloc]; omega) _, alloc_old (alloc_at _ _ (by simp)), alloc_at _ _ (by simp)⟩
  · rintro e U (⟨rfl, h1, h2⟩ | ⟨rfl, h1, h2⟩)
    · have hc := one_cell_of h1.cnt
      have HB : Hid (Below W.heap.size W U) := h1.below
      clear h1
      go_wp2
      go_ret
      exact ⟨by rw [show min C 30000 = C by omega]; rfl, HB.out⟩
    · have HB : Hid (Below W.heap.size W U) := h2
      clear h2
      go_wp2
      go_ret
      exact ⟨by rw [show min C 30000 = 30000 by omega]; rfl, HB.out⟩

end Go.Proofs.YtmoeibhenihhfaaGreatDoor

/- Trees none of whose texts is long. -/
namespace Go.Proofs.YtmoeibhenihhfaaGreatDoor
set_option linter.unusedVariables false

/-- No text is long. -/
inductive TnShort : Tn → Prop
  | mk {kind : Int} {text : List Int} {n m a pos : Int} {doc : List Int} {ad : Option Addr} {cap : Nat} {kids : List Tn} (hl : (text.length : Int) ≤ 100000) (hk : ∀ (i : Nat) (t : Tn), kids[i]? = some t → TnShort t) : TnShort (.mk kind text n m a pos doc ad cap kids)

theorem tszs_low : ∀ (l : List Tn) (x d : Int), tszs l x d ≤ 400 → x ≤ 400
  | [], x, d, h => by rw [tszs] at h; exact h
  | k :: r, x, d, h => by
    rw [tszs] at h
    by_cases hx : 400 < x
    · rw [if_pos hx] at h; omega
    · omega

mutual
theorem tsz_short : ∀ (t : Tn) (x d : Int), tsz t x d ≤ 400 → TnShort t
  | .mk _ text _ _ _ _ doc _ _ kids, x, d, h => by
    rw [tsz] at h
    by_cases hx : 80 < d ∨ 2000 < (text.length : Int) ∨ 2000 < (doc.length : Int)
    · rw [if_pos hx] at h; omega
    · rw [if_neg hx] at h
      exact .mk (by omega) (tszs_short kids _ _ h)
theorem tszs_short : ∀ (l : List Tn) (x d : Int), tszs l x d ≤ 400 → ∀ (i : Nat) (t : Tn), l[i]? = some t → TnShort t
  | [], _, _, _, i, t, hi => by simp at hi
  | k :: r, x, d, h, i, t, hi => by
    rw [tszs] at h
    by_cases hx : 400 < x
    · rw [if_pos hx] at h; omega
    · rw [if_neg hx] at h
      cases i with
      | zero => simp at hi; rw [← hi]; exact tsz_short k x d (tszs_low _ _ _ h)
      | succ j => exact tszs_short r _ _ h j t (by simpa using hi)
end

theorem tfew_short {t : Tn} (h : tfew t = true) : TnShort t := tsz_short t 0 0 (of_decide_eq_true h)

end Go.Proofs.YtmoeibhenihhfaaGreatDoor

/- How many nodes a tree has, and how many bytes node.Of's bound counts of it: plain. -/
namespace Go.Proofs.YtmoeibhenihhfaaGreatDoor
set_option linter.unusedVariables false
set_option linter.unusedSimpArgs false

mutual
/-- How many nodes. -/
def tnum : Tn → Int
  | .mk _ _ _ _ _ _ _ _ _ kids => 1 + tnums kids
def tnums : List Tn → Int
  | [] => 0
  | k :: r => tnum k + tnums r
end

mutual
/-- How many bytes, a node counted as 96. -/
def tbyt : Tn → Int
  | .mk _ text _ _ _ _ doc _ _ kids => 96 + text.length + doc.length + tbyts kids
def tbyts : List Tn → Int
  | [] => 0
  | k :: r => tbyt k + tbyts r
end

mutual
theorem tnum_pos : ∀ (t : Tn), 1 ≤ tnum t
  | .mk _ _ _ _ _ _ _ _ _ kids => by
    have := tnums_pos kids
    rw [tnum]; omega
theorem tnums_pos : ∀ (l : List Tn), 0 ≤ tnums l
  | [] => by simp [tnums]
  | k :: r => by
    have := tnum_pos k
    have := tnums_pos r
    rw [tnums]; omega
end

mutual
theorem tbyt_pos : ∀ (t : Tn), 96 ≤ tbyt t
  | .mk _ _ _ _ _ _ _ _ _ kids => by
    have := tbyts_pos kids
    rw [tbyt]; omega
theorem tbyts_pos : ∀ (l : List Tn), 0 ≤ tbyts l
  | [] => by simp [tbyts]
  | k :: r => by
    have := tbyt_pos k
    have := tbyts_pos r
    rw [tbyts]; omega
end

mutual
theorem tsz_num : ∀ (t : Tn) (x d : Int), tsz t x d ≤ 400 → tsz t x d = x + tnum t ∧ tbyt t ≤ 4096 * tnum t
  | .mk _ text _ _ _ _ doc _ _ kids, x, d, h => by
    rw [tsz] at h ⊢
    by_cases hb : 80 < d ∨ 2000 < (text.length : Int) ∨ 2000 < (doc.length : Int)
    · rw [if_pos hb] at h; omega
    · rw [if_neg hb] at h ⊢
      have h2 := tszs_num kids (x + 1) (d + 1) h
      rw [tnum, tbyt, h2.1]
      have := h2.2
      omega
theorem tszs_num : ∀ (l : List Tn) (x d : Int), tszs l x d ≤ 400 → tszs l x d = x + tnums l ∧ tbyts l ≤ 4096 * tnums l
  | [], x, d, h => by simp [tszs, tnums, tbyts]
  | k :: r, x, d, h => by
    rw [tszs] at h ⊢
    by_cases hx : 400 < x
    · rw [if_pos hx] at h; omega
    · rw [if_neg hx] at h ⊢
      have h2 := tszs_num r _ d h
      have h3 := tsz_num k x d (tszs_low r _ d h)
      rw [tnums, tbyts, h2.1, h3.1]
      have := h2.2
      have := h3.2
      omega
end

theorem tfew_num {t : Tn} (h : tfew t = true) : tnum t ≤ 400 ∧ tbyt t ≤ 1638400 := by
  have h1 : tsz t 0 0 ≤ 400 := of_decide_eq_true h
  have h2 := tsz_num t 0 0 h1
  omega

theorem tnums_at : ∀ (l : List Tn) (i : Nat) (t : Tn), l[i]? = some t → tnum t ≤ tnums l ∧ tbyt t ≤ tbyts l
  | [], i, t, h => by simp at h
  | x :: l, 0, t, h => by
    simp at h
    subst h
    have := tnums_pos l
    have := tbyts_pos l
    rw [tnums, tbyts]; omega
  | x :: l, i + 1, t, h => by
    have := tnums_at l i t (by simpa using h)
    have := tnum_pos x
    have := tbyt_pos x
    rw [tnums, tbyts]; omega

theorem tnums_filter (p : Tn → Bool) : ∀ (l : List Tn), tnums (l.filter p) ≤ tnums l ∧ tbyts (l.filter p) ≤ tbyts l
  | [] => by simp
  | x :: l => by
    have h := tnums_filter p l
    have := tnum_pos x
    have := tbyt_pos x
    rw [List.filter_cons]
    split
    · rw [tnums, tnums, tbyts, tbyts]; omega
    · rw [tnums, tbyts]; omega

theorem tnums_len : ∀ (l : List Tn), (l.length : Int) ≤ tnums l
  | [] => by simp [tnums]
  | x :: l => by
    have := tnums_len l
    have := tnum_pos x
    rw [tnums]; simp; omega

end Go.Proofs.YtmoeibhenihhfaaGreatDoor

/- The contracts of the program's own node.bounded and of the closure that it goes down by, at trees within the bounds. -/
namespace Go.Proofs.YtmoeibhenihhfaaGreatDoor
open Go.RowKit
set_option linter.unusedVariables false
set_option linter.unusedSimpArgs false

/-- What node.bounded's closure goes by: the size's cell, the depth's, its own. -/
structure Bst (w : World) (gs gp gd : Nat) (V : World) (s d : Int) : Prop where
  below : Below w.heap.size w V
  siz : V.heap[gs]? = some (.cells #[.int .i64 s] 3 (0, 0))
  dep : V.heap[gp]? = some (.cells #[.int .i64 d] 3 (0, 0))
  self : V.heap[gd]? = some (.cells #[.func (.func 23) #[] #[.pointer (some ⟨gs, 0, none⟩), .pointer (some ⟨gp, 0, none⟩), .pointer (some ⟨gd, 0, none⟩)]] 26 (0, 0))

theorem Bst.under {w : World} {gs gp gd : Nat} {V V' : World} {s d : Int} (h : Bst w gs gp gd V s d) (hb : Below V.heap.size V V') : Bst w gs gp gd V' s d :=
  ⟨h.below.trans (hb.mono h.below.size), (hb.block _ (one_lt h.siz)).trans h.siz, (hb.block _ (one_lt h.dep)).trans h.dep, (hb.block _ (one_lt h.self)).trans h.self⟩

theorem Bst.setS {w : World} {gs gp gd : Nat} {V : World} {s d : Int} (h : Bst w gs gp gd V s d) (hc : w.heap.size ≤ gs) (h1 : gp ≠ gs) (h2 : gd ≠ gs) (y : Int) : Bst w gs gp gd (V.setCell ⟨gs, 0, none⟩ (.int .i64 y)) y d :=
  ⟨h.below.setCell hc _, one_setCell h.siz, (heap_setCell_other _ _ _ _ h1).trans h.dep, (heap_setCell_other _ _ _ _ h2).trans h.self⟩

theorem Bst.setD {w : World} {gs gp gd : Nat} {V : World} {s d : Int} (h : Bst w gs gp gd V s d) (hc : w.heap.size ≤ gp) (h1 : gs ≠ gp) (h2 : gd ≠ gp) (y : Int) : Bst w gs gp gd (V.setCell ⟨gp, 0, none⟩ (.int .i64 y)) s y :=
  ⟨h.below.setCell hc _, (heap_setCell_other _ _ _ _ h1).trans h.siz, one_setCell h.dep, (heap_setCell_other _ _ _ _ h2).trans h.self⟩

set_option maxRecDepth 10000 in
set_option maxHeartbeats 2000000 in
theorem pbnd_any {w : World} {t : Tn} (h : TnOk w t) (gs gp gd : Nat) (hs : w.heap.size ≤ gs) (hp : w.heap.size ≤ gp) (h1 : gp ≠ gs) (h2 : gd ≠ gs) (h3 : gd ≠ gp) : ∀ (V : World) (s d : Int), Bst w gs gp gd V s d → 0 ≤ s → 0 ≤ d → s + tbyt t ≤ 2147483647 → d + tnum t ≤ 65536 →
    Calls Tryz.prog 23 #[t.val, .pointer (some ⟨gs, 0, none⟩), .pointer (some ⟨gp, 0, none⟩), .pointer (some ⟨gd, 0, none⟩)] V fun e V' => e = .returned (.bool true) ∧ Bst w gs gp gd V' (s + tbyt t) d := by
  induction h with
  | @mk kind text n mm a pos doc ad cap kids hkind htext htl hn hmm ha hpos hdoc hdl hkl hcap hnone hmem hkids ih =>
    intro V s d hV hs0 hd0 hsb hdb
    have hkl : Kl w ad cap kids := ⟨hkl, hcap, hnone, hmem, hkids⟩
    have hbp := tbyts_pos kids
    have hnp := tnums_pos kids
    have hs1 := strOfNums_size text
    have hs2 := strOfNums_size doc
    rw [tnum] at hdb
    obtain ⟨B, hB⟩ : ∃ B, B = tbyts kids := ⟨_, rfl⟩
    obtain ⟨L, hL⟩ : ∃ L : Int, L = s + (96 + text.length + doc.length) := ⟨_, rfl⟩
    have hR : s + tbyt (.mk kind text n mm a pos doc ad cap kids) = L + B := by rw [tbyt]; omega
    rw [hR] at hsb ⊢
    rw [← hB] at hbp
    have hcell := one_cell_of hV.siz
    have hdep := one_cell_of hV.dep
    have hself := one_cell_of hV.self
    have hlt := one_lt hV.siz
    have hltp := one_lt hV.dep
    have hltd := one_lt hV.self
    have hfr := one_frozen hV.siz
    have hfrp := one_frozen hV.dep
    have hset := hV.setS hs h1 h2 L
    have hset2 := hset.setD hp h1.symm h3 (d + 1)
    show Calls Tryz.prog 23 #[.agg #[.int .i64 kind, .string (strOfNums text), .int .i64 n, .int .i64 mm, .int .i64 a, .int .i64 pos, .string (strOfNums doc), .slice ad kids.length cap], .pointer (some ⟨gs, 0, none⟩), .pointer (some ⟨gp, 0, none⟩), .pointer (some ⟨gd, 0, none⟩)] V _
    have hcap' : ∀ (T1 T2 : ByteArray), Bst w gs gp gd (((V.setCell ⟨gs, 0, none⟩ (.int .i64 L)).setCell ⟨gp, 0, none⟩ (.int .i64 (d + 1))).alloc (.cells #[.int .i64 kind, .string T1, .int .i64 n, .int .i64 mm, .int .i64 a, .int .i64 pos, .string T2, .slice ad kids.length cap] 24)) L (d + 1) := fun _ _ => hset2.under ((Below.refl _ _).alloc (Nat.le_refl _) _)
    generalize strOfNums text = T1 at hs1 ⊢
    generalize strOfNums doc = T2 at hs2 ⊢
    have HA := hcap' T1 T2
    have hdep2 : (V.setCell ⟨gs, 0, none⟩ (.int .i64 L)).cell? ⟨gp, 0, none⟩ = some (.int .i64 d) := one_cell_of hset.dep
    have hfrp2 : (V.setCell ⟨gs, 0, none⟩ (.int .i64 L)).frozen? ⟨gp, 0, none⟩ = false := one_frozen hset.dep
    have hsz2 : gp < (V.setCell ⟨gs, 0, none⟩ (.int .i64 L)).heap.size := one_lt hset.dep
    have hsiz3 : ((V.setCell ⟨gs, 0, none⟩ (.int .i64 L)).setCell ⟨gp, 0, none⟩ (.int .i64 (d + 1))).cell? ⟨gs, 0, none⟩ = some (.int .i64 L) := one_cell_of hset2.siz
    have hdep3 : ((V.setCell ⟨gs, 0, none⟩ (.int .i64 L)).setCell ⟨gp, 0, none⟩ (.int .i64 (d + 1))).cell? ⟨gp, 0, none⟩ = some (.int .i64 (d + 1)) := one_cell_of hset2.dep
    have hself3 : ((V.setCell ⟨gs, 0, none⟩ (.int .i64 L)).setCell ⟨gp, 0, none⟩ (.int .i64 (d + 1))).cell? ⟨gd, 0, none⟩ = some (.func (.func 23) #[] #[.pointer (some ⟨gs, 0, none⟩), .pointer (some ⟨gp, 0, none⟩), .pointer (some ⟨gd, 0, none⟩)]) := one_cell_of hset2.self
    have hsz3 : gs < ((V.setCell ⟨gs, 0, none⟩ (.int .i64 L)).setCell ⟨gp, 0, none⟩ (.int .i64 (d + 1))).heap.size := one_lt hset2.siz
    have hsz4 : gp < ((V.setCell ⟨gs, 0, none⟩ (.int .i64 L)).setCell ⟨gp, 0, none⟩ (.int .i64 (d + 1))).heap.size := one_lt hset2.dep
    have hsz5 : gd < ((V.setCell ⟨gs, 0, none⟩ (.int .i64 L)).setCell ⟨gp, 0, none⟩ (.int .i64 (d + 1))).heap.size := one_lt hset2.self
    have HPs : Hid (w.heap.size ≤ gp ∧ gs ≠ gp ∧ gd ≠ gp) := ⟨hp, h1.symm, h3⟩
    have q := peach_any hkl 23 Tryz.call23 #[.pointer (some ⟨gs, 0, none⟩), .pointer (some ⟨gp, 0, none⟩), .pointer (some ⟨gd, 0, none⟩)] (fun i U => ∃ y, Bst w gs gp gd U y (d + 1) ∧ 0 ≤ y ∧ y + tbyts (kids.drop i) = L + B) (fun _ => False)
        (fun i U ⟨y, hy, _⟩ => hy.below) (fun i U U' ⟨y, hy, h5⟩ hb => ⟨y, hy.under hb, h5⟩)
        (fun i t hi U ⟨y, hy, h5, h6⟩ => by
          have hil : i < kids.length := (List.getElem?_eq_some_iff.1 hi).1
          rw [List.drop_eq_getElem_cons hil, show kids[i] = t by rw [List.getElem?_eq_getElem hil] at hi; exact Option.some.inj hi, tbyts] at h6
          have hn := (tnums_at kids i t hi).1
          have hp1 := tbyts_pos (kids.drop (i + 1))
          have hp2 := tbyt_pos t
          refine (ih i t hi U y (d + 1) hy h5 (by omega) (by omega) (by omega)).mono ?_
          rintro e U' ⟨rfl, h7⟩
          exact .inl ⟨rfl, _, h7, by omega, by omega⟩) _ ⟨L, HA, by omega, by rw [hB]; rfl⟩
    have Q : Hid _ := q
    have hLw : s + (96 + (text.length : Int) + (doc.length : Int)) = L := hL.symm
    clear q hcap' ih hkl hmem hkids hset hset2 HA hV hR htext hdoc hnone hB hL hp hs h1 h2 h3
    go_enter Tryz.func23, Tryz.ntmps23
    go_wp2_with fail
    refine Calls.mono Q.out ?_
    clear hdep2 hdep3 hself3 hfrp2 hcell hdep hself hfr hfrp hlt hltp hltd hsz2 hsz3 hsz4 hsz5 hsiz3
    rintro e U (⟨rfl, y, h5, h6, h7⟩ | ⟨_, h5⟩)
    · have hc1 := one_cell_of h5.dep
      have hc2 := one_frozen h5.dep
      have HS := h5.setD HPs.out.1 HPs.out.2.1 HPs.out.2.2 d
      have H : Hid _ := And.intro HS h7
      clear h5 h7 HS
      go_wp2
      go_ret
      obtain ⟨h5, h7⟩ := H.out
      have h7' : y = L + B := by rw [List.drop_length, tbyts] at h7; omega
      subst h7'
      exact ⟨rfl, h5⟩
    · exact h5.elim

set_option maxRecDepth 10000 in
set_option maxHeartbeats 2000000 in
theorem pbounded_any {w : World} {ad : Option Addr} {cap : Nat} {kids : List Tn} (hk : Kl w ad cap kids) (hb : tbyts kids ≤ 2147483647) (hn : tnums kids ≤ 65536) :
    Calls Tryz.prog 14 #[.slice ad kids.length cap] w fun e W' => e = .returned (.bool true) ∧ Below w.heap.size w W' := by
  have q := fun V h0 => peach_any hk 23 Tryz.call23 #[.pointer (some ⟨w.heap.size, 0, none⟩), .pointer (some ⟨w.heap.size + 1, 0, none⟩), .pointer (some ⟨w.heap.size + 2, 0, none⟩)] (fun i U => ∃ y, Bst w w.heap.size (w.heap.size + 1) (w.heap.size + 2) U y 0 ∧ 0 ≤ y ∧ y + tbyts (kids.drop i) = tbyts kids) (fun _ => False)
        (fun i U ⟨y, hy, _⟩ => hy.below) (fun i U U' ⟨y, hy, h5⟩ hb => ⟨y, hy.under hb, h5⟩)
        (fun i t hi U ⟨y, hy, h5, h6⟩ => by
          have hil : i < kids.length := (List.getElem?_eq_some_iff.1 hi).1
          rw [List.drop_eq_getElem_cons hil, show kids[i] = t by rw [List.getElem?_eq_getElem hil] at hi; exact Option.some.inj hi, tbyts] at h6
          have hn := (tnums_at kids i t hi).1
          have hp1 := tbyts_pos (kids.drop (i + 1))
          have hp2 := tbyt_pos t
          refine (pbnd_any (hk.hall i t hi) w.heap.size (w.heap.size + 1) (w.heap.size + 2) (by omega) (by omega) (by omega) (by omega) (by omega) U y 0 hy h5 (by omega) (by omega) (by omega)).mono ?_
          rintro e U' ⟨rfl, h7⟩
          exact .inl ⟨rfl, _, h7, by omega, by omega⟩) V ⟨0, h0, by omega, by simp⟩
  have hmf : ∀ (fn : Fn) (first cap : Array Value) (w : World), (Instr.makeFunc fn first cap).run Tryz.prog w = .ok (.func fn first cap) w := fun _ _ _ _ => rfl
  have HQ : Hid _ := q
  clear q hk
  go_enter Tryz.func14, Tryz.ntmps14
  go_wp2_with fail
  refine Calls.mono (HQ.out _ ?_) ?_
  · exact ⟨((((Below.refl _ _).alloc (Nat.le_refl _) _).alloc (by simp only [World.size_alloc]; omega) _).alloc (by simp only [World.size_alloc]; omega) _), alloc_old (alloc_old (alloc_at _ _ (by simp))), alloc_old (alloc_at _ _ (by simp)), alloc_at _ _ (by simp)⟩
  · rintro e U (⟨rfl, y, h1, _⟩ | ⟨_, h1⟩)
    · have HB : Hid (Below w.heap.size w U) := h1.below
      clear h1
      go_wp2
      go_ret
      exact ⟨rfl, HB.out⟩
    · exact h1.elim

end Go.Proofs.YtmoeibhenihhfaaGreatDoor
