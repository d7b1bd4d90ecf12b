/- Put together by a program out of these texts of mine: TSame, TSame2, PTree, PSh, Inv. -/
import Derived.Deep.RegionWith
import Derived.Shelf.Small.Wraps
import Derived.Shelf.LaysM
import Derived.Shelf.Strconv.Clone
import Derived.Shelf.Strings.Cut
import Derived.Shelf.Strings.Prefix
import Derived.Shelf.Slices.Turned
import Derived.Test.YtmoeibhenihhfaaGreatDoorProg
import Derived.Orders
import Derived.Test.YtmoeibhenihhfaaGreatDoorBunA2
import Derived.Test.YtmoeibhenihhfaaGreatDoorBunA3

/- The contracts of the reference's own same, Same. -/
namespace Go.Proofs.YtmoeibhenihhfaaGreatDoor
open Go.RowKit
set_option linter.unusedVariables false
set_option linter.unusedSimpArgs false

theorem tsames_cons (x : Tn) (r : List Tn) (y : Tn) (q : List Tn) : tsames (x :: r) (y :: q) = (tsame x y && tsames r q) := by rw [tsames]

set_option maxRecDepth 10000 in
set_option maxHeartbeats 4000000 in
theorem rsame_tn {w : World} {t : Tn} (h : TnOk w t) : ∀ (u : Tn) (hu : TnOk w u) (W : World), Below w.heap.size w W →
    Calls Tryz.prog 16 #[t.val, u.val] W fun e W' => e = .returned (.bool (tsame t u)) ∧ Below W.heap.size W W' := by
  induction h with
  | @mk k1 t1 n1 m1 a1 p1 d1 ad1 cap1 kids1 hkind htext htl hn hm ha hpos hdoc hdl hkl hcap hnone hmem hkids ih =>
    intro u hu W hB
    cases hu with
    | @mk k2 t2 n2 m2 a2 p2 d2 ad2 cap2 kids2 hkind2 htext2 htl2 hn2 hm2 ha2 hpos2 hdoc2 hdl2 hkl2 hcap2 hnone2 hmem2 hkids2 =>
    obtain ⟨R, hR⟩ : ∃ R, R = tsame (.mk k1 t1 n1 m1 a1 p1 d1 ad1 cap1 kids1) (.mk k2 t2 n2 m2 a2 p2 d2 ad2 cap2 kids2) := ⟨_, rfl⟩
    rw [← hR]
    rw [tsame] at hR
    change Calls Tryz.prog 16 #[.agg #[.int .i64 k1, .string (strOfNums t1), .int .i64 n1, .int .i64 m1, .int .i64 a1, .int .i64 p1, .string (strOfNums d1), .slice ad1 kids1.length cap1], .agg #[.int .i64 k2, .string (strOfNums t2), .int .i64 n2, .int .i64 m2, .int .i64 a2, .int .i64 p2, .string (strOfNums d2), .slice ad2 kids2.length cap2]] W _
    have HIH : Hid _ := ih
    have HM1 : Hid _ := hmem
    have HM2 : Hid _ := hmem2
    have HK2 : Hid _ := hkids2
    have HB0 : Hid (Below w.heap.size w W) := hB
    have HBA : Hid (Below W.heap.size W ((W.alloc (.cells #[.int .i64 k1, .string (strOfNums t1), .int .i64 n1, .int .i64 m1, .int .i64 a1, .int .i64 p1, .string (strOfNums d1), .slice ad1 kids1.length cap1] 24)).alloc (.cells #[.int .i64 k2, .string (strOfNums t2), .int .i64 n2, .int .i64 m2, .int .i64 a2, .int .i64 p2, .string (strOfNums d2), .slice ad2 kids2.length cap2] 24))) := ((Below.refl _ _).alloc (Nat.le_refl _) _).alloc (by simp) _
    have et := str_eq htext htext2
    have ed := str_eq hdoc hdoc2
    clear ih hmem hkids hB htext hdoc hnone hmem2 hkids2 htext2 hdoc2 hnone2
    have HRD : Hid (R = (decide (k1 = k2 ∧ t1 = t2 ∧ n1 = n2 ∧ m1 = m2 ∧ a1 = a2 ∧ d1 = d2 ∧ kids1.length = kids2.length) && tsames kids1 kids2)) := hR
    clear hR
    have no : ¬ (k1 = k2 ∧ t1 = t2 ∧ n1 = n2 ∧ m1 = m2 ∧ a1 = a2 ∧ d1 = d2 ∧ kids1.length = kids2.length) → R = false := fun hne => by rw [HRD.out, decide_eq_false hne]; rfl
    have HNO : Hid _ := no
    clear no
    by_cases g1 : k1 = k2
    case neg =>
      have E : Hid (R = false) := HNO.out (fun h => g1 h.1)
      have e1 : (k1 != k2) = true := by simpa using g1
      clear HRD HNO
      generalize strOfNums t1 = T1 at HBA et ⊢
      generalize strOfNums d1 = D1 at HBA ed ⊢
      generalize strOfNums t2 = T2 at HBA et ⊢
      generalize strOfNums d2 = D2 at HBA ed ⊢
      go_enter Tryz.func16, Tryz.ntmps16
      go_wp2
      go_ret
      exact ⟨by rw [E.out]; rfl, HBA.out⟩
    subst g1
    by_cases g2 : t1 = t2
    case neg =>
      have E : Hid (R = false) := HNO.out (fun h => g2 h.2.1)
      have e1 : (t1 == t2) = false := by simpa using g2
      rw [e1] at et
      clear HRD HNO
      generalize strOfNums t1 = T1 at HBA et ⊢
      generalize strOfNums d1 = D1 at HBA ed ⊢
      generalize strOfNums t2 = T2 at HBA et ⊢
      generalize strOfNums d2 = D2 at HBA ed ⊢
      go_enter Tryz.func16, Tryz.ntmps16
      go_wp2
      go_ret
      exact ⟨by rw [E.out]; rfl, HBA.out⟩
    rw [show (t1 == t2) = true by simpa using g2] at et
    have HG2 : Hid (t1 = t2) := g2
    clear g2
    by_cases g3 : n1 = n2
    case neg =>
      have E : Hid (R = false) := HNO.out (fun h => g3 h.2.2.1)
      have e1 : (n1 != n2) = true := by simpa using g3
      clear HRD HNO
      generalize strOfNums t1 = T1 at HBA et ⊢
      generalize strOfNums d1 = D1 at HBA ed ⊢
      generalize strOfNums t2 = T2 at HBA et ⊢
      generalize strOfNums d2 = D2 at HBA ed ⊢
      go_enter Tryz.func16, Tryz.ntmps16
      go_wp2
      go_ret
      exact ⟨by rw [E.out]; rfl, HBA.out⟩
    subst g3
    by_cases g4 : m1 = m2
    case neg =>
      have E : Hid (R = false) := HNO.out (fun h => g4 h.2.2.2.1)
      have e1 : (m1 != m2) = true := by simpa using g4
      clear HRD HNO
      generalize strOfNums t1 = T1 at HBA et ⊢
      generalize strOfNums d1 = D1 at HBA ed ⊢
      generalize strOfNums t2 = T2 at HBA et ⊢
      generalize strOfNums d2 = D2 at HBA ed ⊢
      go_enter Tryz.func16, Tryz.ntmps16
      go_wp2
      go_ret
      exact ⟨by rw [E.out]; rfl, HBA.out⟩
    subst g4
    by_cases g5 : a1 = a2
    case neg =>
      have E : Hid (R = false) := HNO.out (fun h => g5 h.2.2.2.2.1)
      have e1 : (a1 != a2) = true := by simpa using g5
      clear HRD HNO
      generalize strOfNums t1 = T1 at HBA et ⊢
      generalize strOfNums d1 = D1 at HBA ed ⊢
      generalize strOfNums t2 = T2 at HBA et ⊢
      generalize strOfNums d2 = D2 at HBA ed ⊢
      go_enter Tryz.func16, Tryz.ntmps16
      go_wp2
      go_ret
      exact ⟨by rw [E.out]; rfl, HBA.out⟩
    subst g5
    by_cases g6 : d1 = d2
    case neg =>
      have E : Hid (R = false) := HNO.out (fun h => g6 h.2.2.2.2.2.1)
      have e1 : (d1 == d2) = false := by simpa using g6
      rw [e1] at ed
      clear HRD HNO
      generalize strOfNums t1 = T1 at HBA et ⊢
      generalize strOfNums d1 = D1 at HBA ed ⊢
      generalize strOfNums t2 = T2 at HBA et ⊢
      generalize strOfNums d2 = D2 at HBA ed ⊢
      go_enter Tryz.func16, Tryz.ntmps16
      go_wp2
      go_ret
      exact ⟨by rw [E.out]; rfl, HBA.out⟩
    rw [show (d1 == d2) = true by simpa using g6] at ed
    have HG6 : Hid (d1 = d2) := g6
    clear g6
    by_cases g7 : kids1.length = kids2.length
    case neg =>
      have E : Hid (R = false) := HNO.out (fun h => g7 h.2.2.2.2.2.2)
      have e1 : ((kids1.length : Int) != (kids2.length : Int)) = true := by simp; omega
      clear HRD HNO
      generalize strOfNums t1 = T1 at HBA et ⊢
      generalize strOfNums d1 = D1 at HBA ed ⊢
      generalize strOfNums t2 = T2 at HBA et ⊢
      generalize strOfNums d2 = D2 at HBA ed ⊢
      go_enter Tryz.func16, Tryz.ntmps16
      go_wp2
      go_ret
      exact ⟨by rw [E.out]; rfl, HBA.out⟩
    have q7 : ((kids1.length : Int) != (kids2.length : Int)) = false := by simp; omega
    have HR : Hid (R = tsames (kids1.drop 0) (kids2.drop 0)) := by
      show _ = _
      rw [HRD.out, decide_eq_true ⟨rfl, HG2.out, rfl, rfl, rfl, HG6.out, g7⟩]
      rfl
    have HG7 : Hid (kids1.length = kids2.length) := g7
    clear HRD HNO g7
    generalize strOfNums t1 = T1 at HBA et ⊢
    generalize strOfNums d1 = D1 at HBA ed ⊢
    generalize strOfNums t2 = T2 at HBA et ⊢
    generalize strOfNums d2 = D2 at HBA ed ⊢
    go_enter Tryz.func16, Tryz.ntmps16
    go_wp2
    have HX1 : Hid (∀ X, Below (W.heap.size + 2) ((W.alloc (.cells #[.int .i64 k1, .string T1, .int .i64 n1, .int .i64 m1, .int .i64 a1, .int .i64 p1, .string D1, .slice ad1 kids1.length cap1] 24)).alloc (.cells #[.int .i64 k1, .string T2, .int .i64 n1, .int .i64 m1, .int .i64 a1, .int .i64 p2, .string D2, .slice ad2 kids2.length cap2] 24)) X → X.cell? ⟨W.heap.size, 7, none⟩ = some (.slice ad1 kids1.length cap1) ∧ X.cell? ⟨W.heap.size + 1, 7, none⟩ = some (.slice ad2 kids2.length cap2)) := fun X hX => by
      have e : (W.alloc (.cells #[.int .i64 k1, .string T1, .int .i64 n1, .int .i64 m1, .int .i64 a1, .int .i64 p1, .string D1, .slice ad1 kids1.length cap1] 24)).heap.size = W.heap.size + 1 := by simp
      refine ⟨(hX.cell (p := ⟨W.heap.size, 7, none⟩) (by simp)).trans ?_, (hX.cell (p := ⟨W.heap.size + 1, 7, none⟩) (by simp)).trans ?_⟩
      · rw [World.cell?_of_block (w := W.alloc (.cells #[.int .i64 k1, .string T1, .int .i64 n1, .int .i64 m1, .int .i64 a1, .int .i64 p1, .string D1, .slice ad1 kids1.length cap1] 24)) (Below.heap_alloc _ _ _ (by simp)), World.cell?_alloc_new]
        rfl
      · have := World.cell?_alloc_new (W.alloc (.cells #[.int .i64 k1, .string T1, .int .i64 n1, .int .i64 m1, .int .i64 a1, .int .i64 p1, .string D1, .slice ad1 kids1.length cap1] 24)) #[.int .i64 k1, .string T2, .int .i64 n1, .int .i64 m1, .int .i64 a1, .int .i64 p2, .string D2, .slice ad2 kids2.length cap2] 24 7
        rw [e] at this
        exact this
    have HSZ : Hid (((W.alloc (.cells #[.int .i64 k1, .string T1, .int .i64 n1, .int .i64 m1, .int .i64 a1, .int .i64 p1, .string D1, .slice ad1 kids1.length cap1] 24)).alloc (.cells #[.int .i64 k1, .string T2, .int .i64 n1, .int .i64 m1, .int .i64 a1, .int .i64 p2, .string D2, .slice ad2 kids2.length cap2] 24)).heap.size = W.heap.size + 2) := by show _ = _; simp
    go_loopw [58] (fun v wr => ∃ k : Nat, v = .int .i64 (k : Int) ∧ k ≤ kids1.length ∧ Hid (R = tsames (kids1.drop k) (kids2.drop k)) ∧ Hid (Below (W.heap.size + 2) ((W.alloc (.cells #[.int .i64 k1, .string T1, .int .i64 n1, .int .i64 m1, .int .i64 a1, .int .i64 p1, .string D1, .slice ad1 kids1.length cap1] 24)).alloc (.cells #[.int .i64 k1, .string T2, .int .i64 n1, .int .i64 m1, .int .i64 a1, .int .i64 p2, .string D2, .slice ad2 kids2.length cap2] 24)) wr)) (fun v _ => kids1.length - (intOf v).toNat)
    case atStart => exact ⟨0, rfl, by omega, HR, Below.refl _ _⟩
    case round =>
      obtain ⟨k, rfl, hk, HJ, HBw⟩ := hrel
      by_cases hkl : k < kids1.length
      · have hkl2 : k < kids2.length := by have := HG7.out; omega
        obtain ⟨b1, o1, rfl, hlt1, hc1⟩ := HM1.out (by omega)
        obtain ⟨b2, o2, rfl, hlt2, hc2⟩ := HM2.out (by omega)
        obtain ⟨⟨xk, xt, xn, xm, xa, xp, xd, xad, xcap, xks⟩, hx⟩ : ∃ t, kids1[k]? = some t := ⟨kids1[k]'hkl, List.getElem?_eq_getElem hkl⟩
        obtain ⟨⟨yk, yt, yn, ym, ya, yp, yd, yad, ycap, yks⟩, hy⟩ : ∃ t, kids2[k]? = some t := ⟨kids2[k]'hkl2, List.getElem?_eq_getElem hkl2⟩
        obtain ⟨z1, z2⟩ := HX1.out wr HBw.out
        have hBW : Below W.heap.size W wr := HBA.out.trans (HBw.out.mono (by omega))
        have hBB : Below w.heap.size w wr := HB0.out.trans (hBW.mono HB0.out.size)
        obtain ⟨c0, c1, c2, c3, c4, c5, c6, c7⟩ := kid_cells hlt1 hBB hc1 hx
        obtain ⟨f0, f1, f2, f3, f4, f5, f6, f7⟩ := kid_cells hlt2 hBB hc2 hy
        have q := HIH.out k _ hx _ (HK2.out k _ hy) wr.drew hBB.drew
        change Calls Tryz.prog 16 #[.agg #[.int .i64 xk, .string (strOfNums xt), .int .i64 xn, .int .i64 xm, .int .i64 xa, .int .i64 xp, .string (strOfNums xd), .slice xad xks.length xcap], .agg #[.int .i64 yk, .string (strOfNums yt), .int .i64 yn, .int .i64 ym, .int .i64 ya, .int .i64 yp, .string (strOfNums yd), .slice yad yks.length ycap]] _ _ at q
        have HJ' := HJ.out
        rw [List.drop_eq_getElem_cons hkl, List.drop_eq_getElem_cons hkl2, show kids1[k] = .mk xk xt xn xm xa xp xd xad xcap xks by rw [List.getElem?_eq_getElem hkl] at hx; exact Option.some.inj hx, show kids2[k] = .mk yk yt yn ym ya yp yd yad ycap yks by rw [List.getElem?_eq_getElem hkl2] at hy; exact Option.some.inj hy, tsames_cons] at HJ'
        generalize tsame (.mk xk xt xn xm xa xp xd xad xcap xks) (.mk yk yt yn ym ya yp yd yad ycap yks) = B at q HJ'
        generalize strOfNums xt = U1 at c1 q
        generalize strOfNums xd = U2 at c6 q
        generalize strOfNums yt = U3 at f1 q
        generalize strOfNums yd = U4 at f6 q
        have Q : Hid _ := q
        have hszw : W.heap.size + 2 ≤ wr.heap.size := by have := HSZ.out; have := HBw.out.size; omega
        clear q hc1 hc2 HJ hx hy hBB
        cases B with
        | true =>
          have HE : Hid (R = tsames (kids1.drop (k + 1)) (kids2.drop (k + 1))) := by show _ = _; rw [HJ']; rfl
          clear HJ'
          go_wp2
          go_region_with (go_at_call 16; refine Calls.mono Q.out ?_; rintro e w2 ⟨rfl, hb2⟩)
          all_goals
            have HB2 : Hid (Below _ _ _) := HBw.out.drew.trans (hb2.mono hszw)
            clear hb2
            go_wp2
            go_roundw
            case rel => first | exact ⟨k + 1, by go_num, by omega, HE, HB2⟩ | ((repeat apply Exists.intro); exact ⟨⟨k + 1, by go_num, by omega, HE, HB2⟩, rfl⟩)
            case measure => simp [intOf]; omega
        | false =>
          have HE : Hid (R = false) := by show _ = _; rw [HJ']; rfl
          clear HJ'
          go_wp2
          go_region_with (go_at_call 16; refine Calls.mono Q.out ?_; rintro e w2 ⟨rfl, hb2⟩)
          all_goals
            have HB2 : Hid (Below _ _ _) := HBw.out.drew.trans (hb2.mono hszw)
            clear hb2
            go_wp2
            go_ret
            exact ⟨by rw [HE.out]; rfl, HBA.out.trans (HB2.out.mono (by omega))⟩
      · obtain rfl : k = kids1.length := by omega
        have E : Hid (R = true) := by show _ = _; rw [HJ.out, List.drop_length, tsames]
        clear HJ
        go_wp2
        go_ret
        exact ⟨by rw [E.out]; rfl, HBA.out.trans (HBw.out.mono (by omega))⟩

end Go.Proofs.YtmoeibhenihhfaaGreatDoor

/- The reference's own Same. -/
namespace Go.Proofs.YtmoeibhenihhfaaGreatDoor
open Go.RowKit
set_option linter.unusedVariables false
set_option linter.unusedSimpArgs false

set_option maxRecDepth 10000 in
set_option maxHeartbeats 4000000 in
theorem rSame_any {w : World} {t u : Tn} (h : TnOk w t) (hu : TnOk w u) (W : World) (hB : Below w.heap.size w W) :
    Calls Tryz.prog 8 #[t.val, u.val] W fun e W' => e = .returned (.bool (tSame t u)) ∧ Below W.heap.size W W' := by
  have q1 := fun V hV => rdeep_any h V hV
  have q2 := fun V hV => rdeep_any hu V hV
  have q3 := fun V hV => rsame_tn h u hu V hV
  have hd1 : 1 ≤ tdeep t ∧ tdeep t ≤ 100 := by have := tdp_bd t 1 (by omega); unfold tdeep; split <;> omega
  have hd2 : 1 ≤ tdeep u ∧ tdeep u ≤ 100 := by have := tdp_bd u 1 (by omega); unfold tdeep; split <;> omega
  rw [show tSame t u = (decide (tdeep t ≤ 64) && (decide (tdeep u ≤ 64) && tsame t u)) from rfl]
  generalize tdeep t = X at q1 hd1 ⊢
  generalize tdeep u = Y at q2 hd2 ⊢
  generalize tsame t u = B at q3 ⊢
  obtain ⟨k1, tx1, n1, m1, a1, p1, dc1, ad1, cap1, ks1⟩ := t
  obtain ⟨k2, tx2, n2, m2, a2, p2, dc2, ad2, cap2, ks2⟩ := u
  obtain ⟨hx0, hx1⟩ := hd1
  obtain ⟨hy0, hy1⟩ := hd2
  show Calls Tryz.prog 8 #[.agg #[.int .i64 k1, .string (strOfNums tx1), .int .i64 n1, .int .i64 m1, .int .i64 a1, .int .i64 p1, .string (strOfNums dc1), .slice ad1 ks1.length cap1], .agg #[.int .i64 k2, .string (strOfNums tx2), .int .i64 n2, .int .i64 m2, .int .i64 a2, .int .i64 p2, .string (strOfNums dc2), .slice ad2 ks2.length cap2]] W fun e W' => e = .returned (.bool (decide (X ≤ 64) && (decide (Y ≤ 64) && B))) ∧ Below W.heap.size W W'
  change ∀ V, Below w.heap.size w V → Calls Tryz.prog 6 #[.agg #[.int .i64 k1, .string (strOfNums tx1), .int .i64 n1, .int .i64 m1, .int .i64 a1, .int .i64 p1, .string (strOfNums dc1), .slice ad1 ks1.length cap1]] V (fun e W' => e = .returned (.int .i64 X) ∧ Below V.heap.size V W') at q1
  change ∀ V, Below w.heap.size w V → Calls Tryz.prog 6 #[.agg #[.int .i64 k2, .string (strOfNums tx2), .int .i64 n2, .int .i64 m2, .int .i64 a2, .int .i64 p2, .string (strOfNums dc2), .slice ad2 ks2.length cap2]] V (fun e W' => e = .returned (.int .i64 Y) ∧ Below V.heap.size V W') at q2
  change ∀ V, Below w.heap.size w V → Calls Tryz.prog 16 #[.agg #[.int .i64 k1, .string (strOfNums tx1), .int .i64 n1, .int .i64 m1, .int .i64 a1, .int .i64 p1, .string (strOfNums dc1), .slice ad1 ks1.length cap1], .agg #[.int .i64 k2, .string (strOfNums tx2), .int .i64 n2, .int .i64 m2, .int .i64 a2, .int .i64 p2, .string (strOfNums dc2), .slice ad2 ks2.length cap2]] V (fun e W' => e = .returned (.bool B) ∧ Below V.heap.size V W') at q3
  generalize strOfNums tx1 = T1 at q1 q3 ⊢
  generalize strOfNums dc1 = D1 at q1 q3 ⊢
  generalize strOfNums tx2 = T2 at q2 q3 ⊢
  generalize strOfNums dc2 = D2 at q2 q3 ⊢
  have hsz2 : (W.alloc (.cells #[.int .i64 k1, .string T1, .int .i64 n1, .int .i64 m1, .int .i64 a1, .int .i64 p1, .string D1, .slice ad1 ks1.length cap1] 24)).heap.size = W.heap.size + 1 := by simp
  have HA1 : Hid (Below (W.alloc (.cells #[.int .i64 k1, .string T1, .int .i64 n1, .int .i64 m1, .int .i64 a1, .int .i64 p1, .string D1, .slice ad1 ks1.length cap1] 24)).heap.size (W.alloc (.cells #[.int .i64 k1, .string T1, .int .i64 n1, .int .i64 m1, .int .i64 a1, .int .i64 p1, .string D1, .slice ad1 ks1.length cap1] 24)) ((W.alloc (.cells #[.int .i64 k1, .string T1, .int .i64 n1, .int .i64 m1, .int .i64 a1, .int .i64 p1, .string D1, .slice ad1 ks1.length cap1] 24)).alloc (.cells #[.int .i64 k2, .string T2, .int .i64 n2, .int .i64 m2, .int .i64 a2, .int .i64 p2, .string D2, .slice ad2 ks2.length cap2] 24))) := (Below.refl _ _).alloc (Nat.le_refl _) _
  have HBA : Hid (Below W.heap.size W ((W.alloc (.cells #[.int .i64 k1, .string T1, .int .i64 n1, .int .i64 m1, .int .i64 a1, .int .i64 p1, .string D1, .slice ad1 ks1.length cap1] 24)).alloc (.cells #[.int .i64 k2, .string T2, .int .i64 n2, .int .i64 m2, .int .i64 a2, .int .i64 p2, .string D2, .slice ad2 ks2.length cap2] 24))) := ((Below.refl _ _).alloc (Nat.le_refl _) _).alloc (by simp) _
  have HB0 : Hid (Below w.heap.size w W) := hB
  have HS2 : Hid ((W.alloc (.cells #[.int .i64 k1, .string T1, .int .i64 n1, .int .i64 m1, .int .i64 a1, .int .i64 p1, .string D1, .slice ad1 ks1.length cap1] 24)).heap.size = W.heap.size + 1) := hsz2
  have Q1 : Hid _ := q1
  have Q2 : Hid _ := q2
  have Q3 : Hid _ := q3
  clear q1 q2 q3 h hu hB hsz2
  go_enter Tryz.func8, Tryz.ntmps8
  go_wp2_with fail
  refine Calls.mono (Q1.out _ (HB0.out.trans (HBA.out.mono HB0.out.size))) ?_
  rintro e w1 ⟨rfl, hb1⟩
  have hsz2 := HS2.out
  have hA1 := HA1.out.trans (hb1.mono HA1.out.size)
  have x0 := own_cells hA1 0 _ rfl
  have x1 := own_cells hA1 1 _ rfl
  have x2 := own_cells hA1 2 _ rfl
  have x3 := own_cells hA1 3 _ rfl
  have x4 := own_cells hA1 4 _ rfl
  have x5 := own_cells hA1 5 _ rfl
  have x6 := own_cells hA1 6 _ rfl
  have x7 := own_cells hA1 7 _ rfl
  have y0 := own_cells hb1 0 _ rfl
  rw [hsz2] at y0
  have y1 := own_cells hb1 1 _ rfl
  rw [hsz2] at y1
  have y2 := own_cells hb1 2 _ rfl
  rw [hsz2] at y2
  have y3 := own_cells hb1 3 _ rfl
  rw [hsz2] at y3
  have y4 := own_cells hb1 4 _ rfl
  rw [hsz2] at y4
  have y5 := own_cells hb1 5 _ rfl
  rw [hsz2] at y5
  have y6 := own_cells hb1 6 _ rfl
  rw [hsz2] at y6
  have y7 := own_cells hb1 7 _ rfl
  rw [hsz2] at y7
  have HB1 : Hid (Below W.heap.size W w1) := HBA.out.trans (hb1.mono HBA.out.size)
  have HC1 : Hid _ := hb1
  have HA2 : Hid _ := hA1
  clear hb1 hA1 hsz2
  by_cases hx : X ≤ 64
  · go_wp2_with fail
    refine Calls.mono (Q2.out _ (HB0.out.trans (HB1.out.mono HB0.out.size))) ?_
    rintro e w2 ⟨rfl, hb2⟩
    have hsz2 := HS2.out
    have hA1 := HA2.out.trans (hb2.mono HA2.out.size)
    have hC1 := HC1.out.trans (hb2.mono HC1.out.size)
    clear x0 x1 x2 x3 x4 x5 x6 x7 y0 y1 y2 y3 y4 y5 y6 y7
    have x0 := own_cells hA1 0 _ rfl
    have x1 := own_cells hA1 1 _ rfl
    have x2 := own_cells hA1 2 _ rfl
    have x3 := own_cells hA1 3 _ rfl
    have x4 := own_cells hA1 4 _ rfl
    have x5 := own_cells hA1 5 _ rfl
    have x6 := own_cells hA1 6 _ rfl
    have x7 := own_cells hA1 7 _ rfl
    have y0 := own_cells hC1 0 _ rfl
    rw [hsz2] at y0
    have y1 := own_cells hC1 1 _ rfl
    rw [hsz2] at y1
    have y2 := own_cells hC1 2 _ rfl
    rw [hsz2] at y2
    have y3 := own_cells hC1 3 _ rfl
    rw [hsz2] at y3
    have y4 := own_cells hC1 4 _ rfl
    rw [hsz2] at y4
    have y5 := own_cells hC1 5 _ rfl
    rw [hsz2] at y5
    have y6 := own_cells hC1 6 _ rfl
    rw [hsz2] at y6
    have y7 := own_cells hC1 7 _ rfl
    rw [hsz2] at y7
    have HB2 : Hid (Below W.heap.size W w2) := HB1.out.trans (hb2.mono HB1.out.size)
    clear hb2 hA1 hC1 hsz2
    by_cases hy : Y ≤ 64
    · go_wp2_with fail
      refine Calls.mono (Q3.out _ (HB0.out.trans (HB2.out.mono HB0.out.size))) ?_
      rintro e w3 ⟨rfl, hb3⟩
      go_wp2
      go_ret
      exact ⟨by first | rfl | (simp [hx, hy]; done) | (simp <;> omega), HB2.out.trans (hb3.mono HB2.out.size)⟩
    · go_wp2
      go_ret
      exact ⟨by first | rfl | (simp <;> omega) | (simp; intros; omega), HB2.out⟩
  · go_wp2
    go_ret
    exact ⟨by first | rfl | (simp <;> omega) | (simp; intros; omega), HB1.out⟩

end Go.Proofs.YtmoeibhenihhfaaGreatDoor

/- Trees that a call makes: their blocks, what leaves them alone, and that a tree is another's copy. -/
namespace Go.Proofs.YtmoeibhenihhfaaGreatDoor
open Go.RowKit
set_option linter.unusedVariables false
set_option linter.unusedSimpArgs false

mutual
/-- The blocks that its kids lie in. -/
def Tn.blocks : Tn → List Nat
  | .mk _ _ _ _ _ _ _ ad _ ks => (match ad with | some x => [x.block] | none => []) ++ blocksL ks
def blocksL : List Tn → List Nat
  | [] => []
  | t :: r => t.blocks ++ blocksL r
end

theorem blocksL_mem : ∀ (l : List Tn) (i : Nat) (t : Tn), l[i]? = some t → ∀ b ∈ t.blocks, b ∈ blocksL l
  | [], i, t, h, _, _ => by simp at h
  | x :: l, 0, t, h, b, hb => by
    simp at h
    subst h
    simp [blocksL, hb]
  | x :: l, i + 1, t, h, b, hb => by
    have := blocksL_mem l i t (by simpa using h) b hb
    simp [blocksL, this]

theorem blocksL_all {l : List Tn} {P : Nat → Prop} (h : ∀ t ∈ l, ∀ b ∈ t.blocks, P b) : ∀ b ∈ blocksL l, P b := by
  induction l with
  | nil => intro b hb; simp [blocksL] at hb
  | cons t r ih =>
    intro b hb
    simp only [blocksL, List.mem_append] at hb
    rcases hb with hb | hb
    · exact h t (by simp) b hb
    · exact ih (fun u hu => h u (by simp [hu])) b hb

/-- What does not touch its blocks leaves a tree as it is. -/
theorem TnOk.moved {w w' : World} {B : Nat} (hs : w.heap.size ≤ w'.heap.size) (hg : ∀ k, B ≤ k → k < w.heap.size → w'.heap[k]? = w.heap[k]?) {t : Tn} (h : TnOk w t) : (∀ b ∈ t.blocks, B ≤ b) → TnOk w' t := by
  induction h with
  | @mk kind text n m a pos doc ad cap kids hkind htext htl hn hm ha hpos hdoc hdl hkl hcap hnone hmem hkids ih =>
    intro hb
    refine .mk hkind htext htl hn hm ha hpos hdoc hdl hkl hcap hnone (fun hp => ?_) (fun i t hi => ih i t hi (fun b hbb => hb b ?_))
    · obtain ⟨b, off, h1, h2, h3⟩ := hmem hp
      subst h1
      have hne : B ≤ b := hb b (by simp [Tn.blocks])
      refine ⟨b, off, rfl, Nat.lt_of_lt_of_le h2 hs, fun i t hi j u hj => ?_⟩
      have e : w'.cell? ⟨b, off + i * 8 + j, none⟩ = w.cell? ⟨b, off + i * 8 + j, none⟩ := World.cell?_of_block (hg b hne h2)
      exact e.trans (h3 i t hi j u hj)
    · have := blocksL_mem kids i t hi b hbb
      simp [Tn.blocks, this]

theorem cells8 (t : Tn) : t.cells.length = 8 := by obtain ⟨_, _, _, _, _, _, _, _, _, _⟩ := t; rfl

theorem flat8_len : ∀ (ts : List Tn), (ts.flatMap Tn.cells).length = ts.length * 8
  | [] => by simp
  | t :: r => by simp [flat8_len r, cells8 t]; omega

mutual
/-- The tree, wherever it lies. -/
def Tn.bare : Tn → Tn
  | .mk k t n m a p d _ _ ks => .mk k t n m a p d none 0 (bares ks)
def bares : List Tn → List Tn
  | [] => []
  | t :: r => t.bare :: bares r
end

theorem bares_map : ∀ (l : List Tn), bares l = l.map Tn.bare
  | [] => by simp [bares]
  | t :: r => by simp [bares, bares_map r]

theorem bares_len (l : List Tn) : (bares l).length = l.length := by rw [bares_map]; simp

mutual
theorem bare_same : ∀ (u t : Tn), u.bare = t.bare → tsame u t = true
  | .mk k1 t1 n1 m1 a1 p1 d1 _ _ ks1, .mk k2 t2 n2 m2 a2 p2 d2 _ _ ks2, h => by
    simp only [Tn.bare, Tn.mk.injEq] at h
    obtain ⟨h1, h2, h3, h4, h5, _, h6, _, _, h7⟩ := h
    have hl : ks1.length = ks2.length := by rw [← bares_len ks1, h7, bares_len]
    rw [tsame, bares_same ks1 ks2 h7]
    simp [h1, h2, h3, h4, h5, h6, hl]
theorem bares_same : ∀ (l r : List Tn), bares l = bares r → tsames l r = true
  | [], _, _ => by simp [tsames]
  | _ :: _, [], _ => by simp [tsames]
  | x :: l, y :: r, h => by
    simp only [bares, List.cons.injEq] at h
    rw [tsames, bare_same x y h.1, bares_same l r h.2]
    rfl
end

mutual
theorem bare_dp : ∀ (t : Tn) (x : Int), tdp t.bare x = tdp t x
  | .mk _ _ _ _ _ _ _ _ _ ks, x => by rw [Tn.bare, tdp, tdp, bares_dp ks x x]
theorem bares_dp : ∀ (l : List Tn) (x d : Int), tdps (bares l) x d = tdps l x d
  | [], x, d => by rw [bares]
  | k :: r, x, d => by rw [bares, tdps, tdps, bare_dp k (x + 1), bares_dp r x _]
end

mutual
theorem tdp_low : ∀ (t : Tn) (x y : Int), y ≤ x → tdp t x ≤ 64 → tdp t y ≤ 64
  | .mk _ _ _ _ _ _ _ _ _ ks, x, y, h, h1 => by
    rw [tdp] at h1 ⊢
    by_cases hx : 64 < x
    · rw [if_pos hx] at h1; omega
    · rw [if_neg hx] at h1
      rw [if_neg (by omega)]
      exact tdps_lower ks x y x y h h h1
theorem tdps_lower : ∀ (l : List Tn) (x y d e : Int), y ≤ x → e ≤ d → tdps l x d ≤ 64 → tdps l y e ≤ 64
  | [], x, y, d, e, h, h1, h2 => by rw [tdps] at h2 ⊢; omega
  | k :: r, x, y, d, e, h, h1, h2 => by
    rw [tdps] at h2 ⊢
    by_cases hm : 64 < max d (tdp k (x + 1))
    · rw [if_pos hm] at h2; omega
    · rw [if_neg hm] at h2
      have h3 := tdp_low k (x + 1) (y + 1) (by omega) (by omega)
      have h4 := tdp_mono k (x + 1) (y + 1) (by omega) (by omega)
      rw [if_neg (by omega)]
      exact tdps_lower r x y _ _ h (by omega) h2
theorem tdp_mono : ∀ (t : Tn) (x y : Int), y ≤ x → tdp t x ≤ 64 → tdp t y ≤ tdp t x
  | .mk _ _ _ _ _ _ _ _ _ ks, x, y, h, h1 => by
    rw [tdp] at h1
    rw [tdp, tdp]
    by_cases hx : 64 < x
    · rw [if_pos hx] at h1; omega
    · rw [if_neg hx] at h1
      rw [if_neg (by omega), if_neg hx]
      exact tdps_mono ks x y x y h h h1
theorem tdps_mono : ∀ (l : List Tn) (x y d e : Int), y ≤ x → e ≤ d → tdps l x d ≤ 64 → tdps l y e ≤ tdps l x d
  | [], x, y, d, e, h, h1, h2 => by rw [tdps, tdps]; omega
  | k :: r, x, y, d, e, h, h1, h2 => by
    rw [tdps] at h2
    rw [tdps, tdps]
    by_cases hm : 64 < max d (tdp k (x + 1))
    · rw [if_pos hm] at h2; omega
    · rw [if_neg hm] at h2
      have h4 := tdp_mono k (x + 1) (y + 1) (by omega) (by omega)
      rw [if_neg (by omega), if_neg hm]
      exact tdps_mono r x y _ _ h (by omega) h2
end

theorem tdps_at : ∀ (l : List Tn) (x d : Int), tdps l x d ≤ 64 → ∀ (i : Nat) (k : Tn), l[i]? = some k → tdp k (x + 1) ≤ 64
  | [], x, d, _, i, k, h => by simp at h
  | y :: l, x, d, h, i, k, hi => by
    rw [tdps] at h
    by_cases hm : 64 < max d (tdp y (x + 1))
    · rw [if_pos hm] at h; omega
    · rw [if_neg hm] at h
      cases i with
      | zero =>
        simp at hi
        subst hi
        omega
      | succ i => exact tdps_at l x _ h i k (by simpa using hi)

/-- A kid is no deeper than the tree. -/
theorem tdeep_kid {t k : Tn} {i : Nat} (h : tdeep t ≤ 64) (hi : t.kids[i]? = some k) : tdeep k ≤ 64 := by
  obtain ⟨kind, text, n, m, a, pos, doc, ad, cap, kids⟩ := t
  have h1 : tdp (.mk kind text n m a pos doc ad cap kids) 1 ≤ 64 := by
    unfold tdeep at h
    split at h <;> omega
  rw [tdp, if_neg (by omega)] at h1
  have h2 := tdp_low k 2 1 (by omega) (tdps_at kids 1 1 h1 i k hi)
  unfold tdeep
  rw [if_neg (by omega)]
  exact h2

def Tn.pos : Tn → Int | .mk _ _ _ _ _ p _ _ _ _ => p

def tlikes : List Tn → List Tn → Prop
  | [], [] => True
  | a :: l, b :: r => tSame a b = true ∧ a.pos = b.pos ∧ tlikes l r
  | _, _ => False

theorem bare_like {u t : Tn} (h : u.bare = t.bare) (hd : tdeep t ≤ 64) : tSame u t = true ∧ u.pos = t.pos := by
  constructor
  · have e : tdeep u = tdeep t := by
      unfold tdeep
      rw [← bare_dp u 1, h, bare_dp t 1]
    unfold tSame
    rw [e, bare_same u t h]
    simp [hd]
  · obtain ⟨_, _, _, _, _, _, _, _, _, _⟩ := u
    obtain ⟨_, _, _, _, _, _, _, _, _, _⟩ := t
    simp only [Tn.bare, Tn.mk.injEq] at h
    exact h.2.2.2.2.2.1

theorem bares_likes : ∀ (l r : List Tn), bares l = bares r → (∀ t ∈ r, tdeep t ≤ 64) → tlikes l r
  | [], [], _, _ => trivial
  | [], _ :: _, h, _ => by simp [bares] at h
  | _ :: _, [], h, _ => by simp [bares] at h
  | x :: l, y :: r, h, hd => by
    simp only [bares, List.cons.injEq] at h
    have h1 := bare_like h.1 (hd y (by simp))
    exact ⟨h1.1, h1.2, bares_likes l r h.2 (fun t ht => hd t (by simp [ht]))⟩

/-- A list of nodes that a call made, trees of blocks from base on. -/
def Nl (w : World) (base : Nat) (v : Value) (us : List Tn) : Prop :=
  (v = .slice none 0 0 ∧ us = []) ∨ ∃ g, v = .slice (some ⟨g, 0, none⟩) us.length us.length ∧ base ≤ g ∧ us.length ≤ 65536 ∧ w.heap[g]? = some (.cells (us.flatMap Tn.cells).toArray 24 (0, 0)) ∧ ∀ u ∈ us, TnOk w u ∧ ∀ b ∈ u.blocks, base ≤ b

theorem Nl.moved {w w' : World} {base B : Nat} {v : Value} {us : List Tn} (h : Nl w base v us) (hB : B ≤ base) (hs : w.heap.size ≤ w'.heap.size) (hg : ∀ k, B ≤ k → k < w.heap.size → w'.heap[k]? = w.heap[k]?) : Nl w' base v us := by
  rcases h with h | ⟨g, h1, h2, h3, h4, h5⟩
  · exact .inl h
  · have hlt : g < w.heap.size := by
      rcases Nat.lt_or_ge g w.heap.size with h' | h'
      · exact h'
      · rw [Array.getElem?_eq_none h'] at h4; cases h4
    refine .inr ⟨g, h1, h2, h3, (hg g (by omega) hlt).trans h4, fun u hu => ⟨(h5 u hu).1.moved hs hg (fun b hb => ?_), (h5 u hu).2⟩⟩
    have := (h5 u hu).2 b hb
    omega

theorem Nl.low {w : World} {base B : Nat} {v : Value} {us : List Tn} (h : Nl w base v us) (hB : B ≤ base) : Nl w B v us := by
  rcases h with h | ⟨g, h1, h2, h3, h4, h5⟩
  · exact .inl h
  · exact .inr ⟨g, h1, by omega, h3, h4, fun u hu => ⟨(h5 u hu).1, fun b hb => by have := (h5 u hu).2 b hb; omega⟩⟩

end Go.Proofs.YtmoeibhenihhfaaGreatDoor

/- Contracts of Go's own library at this program, each one application of the guide's: strings_CutPrefix, strings_Cut, strings_HasSuffix, strings_TrimPrefix, slices_Contains_int, slices_Contains_int_empty, stringslite_Clone. -/
namespace Go.Proofs.YtmoeibhenihhfaaGreatDoor
open Go.Shelf

def Sh.lays103_ren : Go.Shelf.Ren := ⟨fun | 103 => 63 | 210 => 76 | 206 => 74 | n => n, fun | 9 => 9 | 4 => 4 | 24 => 52 | 3 => 3 | n => n, fun | n => n⟩

theorem Sh.lays103 : Go.Proofs.Lays.n103 Tryz.prog Sh.lays103_ren := {
  mixed := by kernel_rfl
  f103 := Tryz.func63.trans (congrArg some (by kernel_rfl))
  f206 := Tryz.func74.trans (congrArg some (by kernel_rfl))
  f210 := Tryz.func76.trans (congrArg some (by kernel_rfl))
  t3 := Tryz.underlying3
  a3 := Tryz.isAgg3
  z3 := Tryz.sizeOf3
  v3 := Tryz.zeroValue3
  t4 := Tryz.underlying4
  a4 := Tryz.isAgg4
  z4 := Tryz.sizeOf4
  v4 := Tryz.zeroValue4
  t9 := Tryz.underlying9
  a9 := Tryz.isAgg9
  z9 := Tryz.sizeOf9
  v9 := Tryz.zeroValue9
  t24 := Tryz.underlying52
  a24 := Tryz.isAgg52
  z24 := Tryz.sizeOf52
  v24 := Tryz.zeroValue52 }

open Go.RowKit in
theorem Sh.strings_CutPrefix (s p : ByteArray) (w : World) :
    Calls Tryz.prog 63 #[.string s, .string p] w fun e w' => e = .returned (.tuple #[.string ⟨(Lib.trimPrefix s.data.toList p.data.toList).toArray⟩, .bool (Lib.hasPrefix s.data.toList p.data.toList)]) ∧ w' = w := Any.strings_CutPrefix Sh.lays103 s p w

def Sh.laysM316_ren : Go.Shelf.Ren := ⟨fun | 316 => 56 | n => n, fun | 9 => 9 | 3 => 3 | 4 => 4 | 37 => 60 | 0 => 0 | 127 => 61 | 5 => 5 | n => n, fun | n => n⟩

theorem Sh.laysM316 : Go.Proofs.LaysM.n316 Tryz.prog Sh.laysM316_ren := {
  mixed := by kernel_rfl
  f316 := Tryz.func56.trans (congrArg some (by kernel_rfl))
  t0 := Tryz.underlying0
  a0 := Tryz.isAgg0
  z0 := Tryz.sizeOf0
  v0 := Tryz.zeroValue0
  t3 := Tryz.underlying3
  a3 := Tryz.isAgg3
  z3 := Tryz.sizeOf3
  v3 := Tryz.zeroValue3
  t4 := Tryz.underlying4
  a4 := Tryz.isAgg4
  z4 := Tryz.sizeOf4
  v4 := Tryz.zeroValue4
  t9 := Tryz.underlying9
  a9 := Tryz.isAgg9
  z9 := Tryz.sizeOf9
  v9 := Tryz.zeroValue9
  t37 := Tryz.underlying60
  a37 := Tryz.isAgg60
  z37 := Tryz.sizeOf60
  v37 := Tryz.zeroValue60
  t127 := Tryz.underlying61
  a127 := Tryz.isAgg61
  z127 := Tryz.sizeOf61
  v127 := Tryz.zeroValue61
  t5 := Tryz.underlying5
  a5 := Tryz.isAgg5
  z5 := Tryz.sizeOf5
  v5 := Tryz.zeroValue5
  i0 := by kernel_rfl
  i3 := by kernel_rfl
  i4 := by kernel_rfl
  i5 := by kernel_rfl
  i9 := by kernel_rfl
  i37 := by kernel_rfl
  i127 := by kernel_rfl }

open Go.RowKit in
theorem Sh.stringslite_Clone (s : ByteArray) (w : World) (hlim : s.size ≤ 281474976710656) :
    Calls Tryz.prog 56 #[.string s] w fun e w' => e = .returned (.string s) ∧ Below w.heap.size w w' := Any.stringslite_Clone Sh.laysM316 s w hlim

def Sh.lays145_ren : Go.Shelf.Ren := ⟨fun | 145 => 64 | 220 => 77 | 219 => 84 | 217 => 88 | 225 => 89 | 224 => 90 | 267 => 91 | 266 => 96 | 314 => 97 | n => n, fun | 9 => 9 | 4 => 4 | 59 => 54 | 3 => 3 | 5 => 5 | 46 => 72 | 146 => 80 | 51 => 79 | n => n, fun | 1 => 0 | n => n⟩

theorem Sh.lays145 : Go.Proofs.Lays.n145 Tryz.prog Sh.lays145_ren := {
  mixed := by kernel_rfl
  f145 := Tryz.func64.trans (congrArg some (by kernel_rfl))
  f217 := Tryz.func88.trans (congrArg some (by kernel_rfl))
  f219 := Tryz.func84.trans (congrArg some (by kernel_rfl))
  f220 := Tryz.func77.trans (congrArg some (by kernel_rfl))
  f224 := Tryz.func90.trans (congrArg some (by kernel_rfl))
  f225 := Tryz.func89.trans (congrArg some (by kernel_rfl))
  f266 := Tryz.func96.trans (congrArg some (by kernel_rfl))
  f267 := Tryz.func91.trans (congrArg some (by kernel_rfl))
  f314 := Tryz.func97.trans (congrArg some (by kernel_rfl))
  t3 := Tryz.underlying3
  a3 := Tryz.isAgg3
  z3 := Tryz.sizeOf3
  v3 := Tryz.zeroValue3
  t4 := Tryz.underlying4
  a4 := Tryz.isAgg4
  z4 := Tryz.sizeOf4
  v4 := Tryz.zeroValue4
  t5 := Tryz.underlying5
  a5 := Tryz.isAgg5
  z5 := Tryz.sizeOf5
  v5 := Tryz.zeroValue5
  t9 := Tryz.underlying9
  a9 := Tryz.isAgg9
  z9 := Tryz.sizeOf9
  v9 := Tryz.zeroValue9
  t46 := Tryz.underlying72
  a46 := Tryz.isAgg72
  z46 := Tryz.sizeOf72
  v46 := Tryz.zeroValue72
  t51 := Tryz.underlying79
  a51 := Tryz.isAgg79
  z51 := Tryz.sizeOf79
  v51 := Tryz.zeroValue79
  t59 := Tryz.underlying54
  a59 := Tryz.isAgg54
  z59 := Tryz.sizeOf54
  v59 := Tryz.zeroValue54
  t146 := Tryz.underlying80
  a146 := Tryz.isAgg80
  z146 := Tryz.sizeOf80
  v146 := Tryz.zeroValue80
  g1 := by kernel_rfl }

open Go.RowKit Go.Lib in
theorem Sh.strings_Cut (s sep : ByteArray) (m : Int) (w : World) (hs : s.size < 4294967281) (hm : w.cell? ⟨0, 0, none⟩ = some (.int .i64 m)) :
    Calls Tryz.prog 64 #[.string s, .string sep] w fun e w' => e = .returned (.tuple #[.string ⟨(Lib.cut s.data.toList sep.data.toList).1.toArray⟩, .string ⟨(Lib.cut s.data.toList sep.data.toList).2.1.toArray⟩, .bool (Lib.cut s.data.toList sep.data.toList).2.2]) ∧ ∃ n, w' = w.drewN n := Any.strings_Cut Sh.lays145 s sep m w hs hm

def Sh.lays100_ren : Go.Shelf.Ren := ⟨fun | 100 => 71 | 207 => 82 | n => n, fun | 9 => 9 | 4 => 4 | 3 => 3 | n => n, fun | n => n⟩

theorem Sh.lays100 : Go.Proofs.Lays.n100 Tryz.prog Sh.lays100_ren := {
  mixed := by kernel_rfl
  f100 := Tryz.func71.trans (congrArg some (by kernel_rfl))
  f207 := Tryz.func82.trans (congrArg some (by kernel_rfl))
  t3 := Tryz.underlying3
  a3 := Tryz.isAgg3
  z3 := Tryz.sizeOf3
  v3 := Tryz.zeroValue3
  t4 := Tryz.underlying4
  a4 := Tryz.isAgg4
  z4 := Tryz.sizeOf4
  v4 := Tryz.zeroValue4
  t9 := Tryz.underlying9
  a9 := Tryz.isAgg9
  z9 := Tryz.sizeOf9
  v9 := Tryz.zeroValue9 }

open Go.RowKit Go.Lib in
theorem Sh.strings_HasSuffix (s p : ByteArray) (w : World) (hs : s.size ≤ 9223372036854775807) :
    Calls Tryz.prog 71 #[.string s, .string p] w fun e w' => e = .returned (.bool (Lib.hasSuffix s.data.toList p.data.toList)) ∧ w' = w := Any.strings_HasSuffix Sh.lays100 s p w hs

def Sh.lays101_ren : Go.Shelf.Ren := ⟨fun | 101 => 30 | 208 => 58 | 206 => 74 | n => n, fun | 9 => 9 | 4 => 4 | 3 => 3 | n => n, fun | n => n⟩

theorem Sh.lays101 : Go.Proofs.Lays.n101 Tryz.prog Sh.lays101_ren := {
  mixed := by kernel_rfl
  f101 := Tryz.func30.trans (congrArg some (by kernel_rfl))
  f206 := Tryz.func74.trans (congrArg some (by kernel_rfl))
  f208 := Tryz.func58.trans (congrArg some (by kernel_rfl))
  t3 := Tryz.underlying3
  a3 := Tryz.isAgg3
  z3 := Tryz.sizeOf3
  v3 := Tryz.zeroValue3
  t4 := Tryz.underlying4
  a4 := Tryz.isAgg4
  z4 := Tryz.sizeOf4
  v4 := Tryz.zeroValue4
  t9 := Tryz.underlying9
  a9 := Tryz.isAgg9
  z9 := Tryz.sizeOf9
  v9 := Tryz.zeroValue9 }

open Go.RowKit Go.Lib in
theorem Sh.strings_TrimPrefix (s p : ByteArray) (w : World) :
    Calls Tryz.prog 30 #[.string s, .string p] w fun e w' => e = .returned (.string ⟨(Lib.trimPrefix s.data.toList p.data.toList).toArray⟩) ∧ w' = w := Any.strings_TrimPrefix Sh.lays101 s p w

def Sh.lays107_ren : Go.Shelf.Ren := ⟨fun | 107 => 61 | 108 => 75 | n => n, fun | 28 => 50 | 3 => 3 | 4 => 4 | 0 => 0 | n => n, fun | n => n⟩

theorem Sh.lays107 : Go.Proofs.Lays.n107 Tryz.prog Sh.lays107_ren := {
  mixed := by kernel_rfl
  f107 := Tryz.func61.trans (congrArg some (by kernel_rfl))
  f108 := Tryz.func75.trans (congrArg some (by kernel_rfl))
  t0 := Tryz.underlying0
  a0 := Tryz.isAgg0
  z0 := Tryz.sizeOf0
  v0 := Tryz.zeroValue0
  t3 := Tryz.underlying3
  a3 := Tryz.isAgg3
  z3 := Tryz.sizeOf3
  v3 := Tryz.zeroValue3
  t4 := Tryz.underlying4
  a4 := Tryz.isAgg4
  z4 := Tryz.sizeOf4
  v4 := Tryz.zeroValue4
  t28 := Tryz.underlying50
  a28 := Tryz.isAgg50
  z28 := Tryz.sizeOf50
  v28 := Tryz.zeroValue50 }

open Go.Lib in
theorem Sh.slices_Contains_int (b off n c : Nat) (zs : List Int) (x : Int) (w : World) (hz : n ≤ zs.length) (hbig : n ≤ 9223372036854775807) (hc : ∀ j, j < zs.length → w.cell? ⟨b, off + j, none⟩ = some (.int .i64 (zs.getD j 0))) :
    Calls Tryz.prog 61 #[.slice (some ⟨b, off, none⟩) n c, .int .i64 x] w fun e w' => e = .returned (.bool ((zs.take n).contains x)) ∧ w' = w := Any.slices_Contains_int Sh.lays107 b off n c zs x w hz hbig hc

open Go.Lib in
theorem Sh.slices_Contains_int_empty (a : Option Addr) (c : Nat) (x : Int) (w : World) :
    Calls Tryz.prog 61 #[.slice a 0 c, .int .i64 x] w fun e w' => e = .returned (.bool false) ∧ w' = w := Any.slices_Contains_int_empty Sh.lays107 a c x w

end Go.Proofs.YtmoeibhenihhfaaGreatDoor

/- A region that draws its order, by what holds whatever has come up so far: one look at each operation serves every order. -/
namespace Go.Proofs.YtmoeibhenihhfaaGreatDoor
open Go.RowKit
set_option linter.unusedVariables false
set_option linter.unusedSimpArgs false

theorem filter_less {p q : Nat → Bool} : ∀ (l : List Nat) (i : Nat), (∀ x, q x = true → p x = true) → i ∈ l → p i = true → q i = false → (l.filter q).length < (l.filter p).length
  | [], i, _, h, _, _ => by cases h
  | x :: r, i, hm, hi, hp, hq => by
    have le : (r.filter q).length ≤ (r.filter p).length := by
      clear hi
      induction r with
      | nil => simp
      | cons y r ih =>
        by_cases hy : q y = true
        · rw [List.filter_cons_of_pos hy, List.filter_cons_of_pos (hm y hy)]; simp; exact ih
        · rw [List.filter_cons_of_neg hy]
          by_cases hy2 : p y = true
          · rw [List.filter_cons_of_pos hy2]; simp; omega
          · rw [List.filter_cons_of_neg hy2]; exact ih
    by_cases hx : x = i
    · subst hx
      rw [List.filter_cons_of_pos hp, List.filter_cons_of_neg (by simp [hq])]
      simp; omega
    · have hir : i ∈ r := by
        rcases List.mem_cons.1 hi with h | h
        · exact absurd h.symm hx
        · exact h
      have := filter_less r i hm hir hp hq
      by_cases hy : q x = true
      · rw [List.filter_cons_of_pos hy, List.filter_cons_of_pos (hm x hy)]; simp; exact this
      · rw [List.filter_cons_of_neg hy]
        by_cases hy2 : p x = true
        · rw [List.filter_cons_of_pos hy2]; simp; omega
        · rw [List.filter_cons_of_neg hy2]; exact this

theorem getD_set (l : Array Bool) (i k : Nat) (hi : i < l.size) (d : Bool) : (l.setIfInBounds i true).getD k d = if k = i then true else l.getD k d := by
  by_cases hk : k = i
  · subst hk; simp [hi]
  · rw [if_neg hk]
    simp [Array.getD_eq_getD_getElem?, Array.getElem?_setIfInBounds, Ne.symm hk]

theorem wp_region_inv {P : Program} {id : Nat} {Q : Exit → Act → World → Prop} {a : Act} {w : World} {ops : Array Oper} (hm : P.follows .mixedOrders = true)
    (hlex : ∀ (i : Nat) (o : Oper), ops[i]? = some o → ∀ e ∈ o.after, Region.binds .any e = true → e.on < i)
    (I : (Nat → Bool) → Act → World → Prop) (h0 : I (fun _ => false) a { w with drawn := w.drawn + 1 })
    (hstep : ∀ (L : Nat → Bool) (a : Act) (w : World) (i : Nat) (o : Oper), I L a w → ops[i]? = some o → L i = false → (∀ e ∈ o.after, Region.binds .any e = true → L e.on = true) → wpOp P ops Q i (fun a' w' => I (fun k => if k = i then true else L k) a' w') a w)
    (hend : ∀ (L : Nat → Bool) (a : Act) (w : World), I L a w → (∀ i, i < ops.size → L i = true) → Q .normal a w) :
    (Code.region id ops true).wp P Q a w := by
  refine wp_region_any hm ?_
  have all_of_nil : ∀ listed : Array Bool, listed.size = ops.size → Region.ready .any ops listed = [] → ∀ i, i < ops.size → listed.getD i false = true := by
    intro listed hs hr i
    induction i using Nat.strongRecOn with
    | _ i ih =>
      intro hi
      by_cases hl : listed.getD i false = true
      · exact hl
      · exfalso
        have : i ∈ Region.ready .any ops listed := by
          rw [mem_ready]
          refine ⟨?_, ops[i], Array.getElem?_eq_getElem hi, fun e he hb => ?_⟩
          · simp [Array.getD_eq_getD_getElem?, hs, hi] at hl ⊢; exact hl
          · have hlt := hlex i _ (Array.getElem?_eq_getElem hi) e he hb
            exact ih e.on hlt (by omega)
        rw [hr] at this
        cases this
  have main : ∀ (fuel : Nat) (listed : Array Bool) (a : Act) (w : World), listed.size = ops.size → ((List.range ops.size).filter fun i => !listed.getD i false).length ≤ fuel → I (fun k => listed.getD k false) a w → wpAny P .any ops Q fuel listed a w := by
    intro fuel
    induction fuel with
    | zero =>
      intro listed a w hs hf hI
      have hnil : ((List.range ops.size).filter fun i => !listed.getD i false) = [] := List.eq_nil_of_length_eq_zero (by omega)
      have hall : ∀ i, i < ops.size → listed.getD i false = true := fun i hi => by
        have := List.filter_eq_nil_iff.1 hnil i (List.mem_range.2 hi)
        simpa using this
      refine ⟨?_, hend _ _ _ hI hall⟩
      cases hr : Region.ready .any ops listed with
      | nil => rfl
      | cons i r =>
        have hi : i ∈ Region.ready .any ops listed := by rw [hr]; exact List.mem_cons_self ..
        obtain ⟨h1, o, ho, _⟩ := mem_ready.1 hi
        have hlt : i < ops.size := (Array.getElem?_eq_some_iff.1 ho).1
        have := hall i hlt
        simp [Array.getD_eq_getD_getElem?, hs, hlt] at this h1
        rw [this] at h1; cases h1
    | succ fuel ih =>
      intro listed a w hs hf hI
      refine ⟨fun hr => hend _ _ _ hI (all_of_nil listed hs hr), fun i hi => ?_⟩
      obtain ⟨h1, o, ho, hd⟩ := mem_ready.1 hi
      have hlt : i < ops.size := (Array.getElem?_eq_some_iff.1 ho).1
      have h1' : listed.getD i false = false := by
        simp [Array.getD_eq_getD_getElem?, hs, hlt] at h1 ⊢; exact h1
      refine wpOp_mono ?_ (hstep _ a w i o hI ho h1' hd)
      intro a' w' hI'
      refine ih _ a' w' (by simpa using hs) ?_ ?_
      · have := filter_less (p := fun k => !listed.getD k false) (q := fun k => !(listed.setIfInBounds i true).getD k false) (List.range ops.size) i (fun x hx => by
          rw [getD_set _ _ _ (by omega)] at hx
          by_cases hxi : x = i
          · simp [hxi] at hx
          · simpa [hxi] using hx) (List.mem_range.2 hlt) (by simp only [h1', Bool.not_false]) (by simp [getD_set _ _ _ (show i < listed.size by omega)])
        omega
      · have e : (fun k => (listed.setIfInBounds i true).getD k false) = fun k => if k = i then true else listed.getD k false := by
          funext k; exact getD_set _ _ _ (by omega) _
        rw [e]; exact hI'
  refine main ops.size (Array.replicate ops.size false) a _ (by simp) ?_ ?_
  · exact Nat.le_trans (List.length_filter_le _ _) (by simp)
  · have e : (fun k => (Array.replicate ops.size false).getD k false) = fun _ => false := by
      funext k
      rw [Array.getD_eq_getD_getElem?, Array.getElem?_replicate]
      split <;> rfl
    rw [e]; exact h0

/-- Each operation waits for such ahead of it alone. -/
def lexOkB : Nat → List Oper → Bool
  | _, [] => true
  | k, o :: l => (o.after.all fun e => decide (e.on < k)) && lexOkB (k + 1) l

theorem lexOk_of : ∀ {l : List Oper} {k : Nat}, lexOkB k l = true → ∀ (j : Nat) (o : Oper), l[j]? = some o → ∀ e ∈ o.after, e.on < k + j
  | [], k, _, j, o, h => by simp at h
  | o0 :: l, k, h, 0, o, ho => by
    simp at ho
    subst ho
    rw [lexOkB, Bool.and_eq_true] at h
    intro e he
    have := Array.all_eq_true_iff_forall_mem.1 h.1 e he
    simpa using this
  | o0 :: l, k, h, j + 1, o, ho => by
    rw [lexOkB, Bool.and_eq_true] at h
    intro e he
    have := lexOk_of h.2 j o (by simpa using ho) e he
    omega

theorem wp_region_inv' {P : Program} {id : Nat} {Q : Exit → Act → World → Prop} {a : Act} {w : World} {l : List Oper} (hm : P.follows .mixedOrders = true) (hlex : lexOkB 0 l = true)
    (I : (Nat → Bool) → Act → World → Prop) (h0 : I (fun _ => false) a { w with drawn := w.drawn + 1 })
    (hstep : ∀ (L : Nat → Bool) (a : Act) (w : World) (i : Nat) (o : Oper), I L a w → l.toArray[i]? = some o → L i = false → (∀ e ∈ o.after, Region.binds .any e = true → L e.on = true) → wpOp P l.toArray Q i (fun a' w' => I (fun k => if k = i then true else L k) a' w') a w)
    (hend : ∀ (L : Nat → Bool) (a : Act) (w : World), I L a w → (∀ i, i < l.length → L i = true) → Q .normal a w) :
    (Code.region id l.toArray true).wp P Q a w :=
  wp_region_inv hm (fun i o ho e he _ => by have := lexOk_of hlex i o (by simpa using ho) e he; omega) I h0 hstep (fun L a w h hl => hend L a w h (fun i hi => hl i (by simpa using hi)))

end Go.Proofs.YtmoeibhenihhfaaGreatDoor
