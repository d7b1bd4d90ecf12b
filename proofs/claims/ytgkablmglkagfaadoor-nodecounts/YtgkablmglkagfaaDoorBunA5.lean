/- Put together by a program out of these texts of mine: TSame, PSm0, PEqf, PSame, TShort, QDig, QTxt, QPs, QPd, QSh. -/
import Derived.Deep.RegionWith
import Derived.Deep.QuietTactic
import Derived.BigQuiet
import Derived.Shelf.Strings.Prefix
import Derived.Test.YtgkablmglkagfaaDoorProg
import Derived.Test.YtgkablmglkagfaaDoorBunA3
import Derived.Test.YtgkablmglkagfaaDoorBunA4

/- The contracts of the reference's own same, Same. -/
namespace Go.Proofs.YtgkablmglkagfaaDoor
open Go.RowKit
set_option linter.unusedVariables false
set_option linter.unusedSimpArgs false

theorem tsames_cons (x : Tn) (r : List Tn) (y : Tn) (q : List Tn) : tsames (x :: r) (y :: q) = (tsame x y && tsames r q) := by rw [tsames]

set_option maxRecDepth 10000 in
set_option maxHeartbeats 4000000 in
theorem rsame_tn {w : World} {t : Tn} (h : TnOk w t) : ∀ (u : Tn) (hu : TnOk w u) (W : World), Below w.heap.size w W →
    Calls Tryd.prog 29 #[t.val, u.val] W fun e W' => e = .returned (.bool (tsame t u)) ∧ Below W.heap.size W W' := by
  induction h with
  | @mk k1 t1 n1 m1 a1 p1 d1 ad1 cap1 kids1 hkind htext htl hn hm ha hpos hdoc hdl hkl hcap hnone hmem hkids ih =>
    intro u hu W hB
    cases hu with
    | @mk k2 t2 n2 m2 a2 p2 d2 ad2 cap2 kids2 hkind2 htext2 htl2 hn2 hm2 ha2 hpos2 hdoc2 hdl2 hkl2 hcap2 hnone2 hmem2 hkids2 =>
    obtain ⟨R, hR⟩ : ∃ R, R = tsame (.mk k1 t1 n1 m1 a1 p1 d1 ad1 cap1 kids1) (.mk k2 t2 n2 m2 a2 p2 d2 ad2 cap2 kids2) := ⟨_, rfl⟩
    rw [← hR]
    rw [tsame] at hR
    change Calls Tryd.prog 29 #[.agg #[.int .i64 k1, .string (strOfNums t1), .int .i64 n1, .int .i64 m1, .int .i64 a1, .int .i64 p1, .string (strOfNums d1), .slice ad1 kids1.length cap1], .agg #[.int .i64 k2, .string (strOfNums t2), .int .i64 n2, .int .i64 m2, .int .i64 a2, .int .i64 p2, .string (strOfNums d2), .slice ad2 kids2.length cap2]] W _
    have HIH : Hid _ := ih
    have HM1 : Hid _ := hmem
    have HM2 : Hid _ := hmem2
    have HK2 : Hid _ := hkids2
    have HB0 : Hid (Below w.heap.size w W) := hB
    have HBA : Hid (Below W.heap.size W ((W.alloc (.cells #[.int .i64 k1, .string (strOfNums t1), .int .i64 n1, .int .i64 m1, .int .i64 a1, .int .i64 p1, .string (strOfNums d1), .slice ad1 kids1.length cap1] 24)).alloc (.cells #[.int .i64 k2, .string (strOfNums t2), .int .i64 n2, .int .i64 m2, .int .i64 a2, .int .i64 p2, .string (strOfNums d2), .slice ad2 kids2.length cap2] 24))) := ((Below.refl _ _).alloc (Nat.le_refl _) _).alloc (by simp) _
    have et := str_eq htext htext2
    have ed := str_eq hdoc hdoc2
    clear ih hmem hkids hB htext hdoc hnone hmem2 hkids2 htext2 hdoc2 hnone2
    have HRD : Hid (R = (decide (k1 = k2 ∧ t1 = t2 ∧ n1 = n2 ∧ m1 = m2 ∧ a1 = a2 ∧ d1 = d2 ∧ kids1.length = kids2.length) && tsames kids1 kids2)) := hR
    clear hR
    have no : ¬ (k1 = k2 ∧ t1 = t2 ∧ n1 = n2 ∧ m1 = m2 ∧ a1 = a2 ∧ d1 = d2 ∧ kids1.length = kids2.length) → R = false := fun hne => by rw [HRD.out, decide_eq_false hne]; rfl
    have HNO : Hid _ := no
    clear no
    by_cases g1 : k1 = k2
    case neg =>
      have E : Hid (R = false) := HNO.out (fun h => g1 h.1)
      have e1 : (k1 != k2) = true := by simpa using g1
      clear HRD HNO
      generalize strOfNums t1 = T1 at HBA et ⊢
      generalize strOfNums d1 = D1 at HBA ed ⊢
      generalize strOfNums t2 = T2 at HBA et ⊢
      generalize strOfNums d2 = D2 at HBA ed ⊢
      go_enter Tryd.func29, Tryd.ntmps29
      go_wp2
      go_ret
      exact ⟨by rw [E.out]; rfl, HBA.out⟩
    subst g1
    by_cases g2 : t1 = t2
    case neg =>
      have E : Hid (R = false) := HNO.out (fun h => g2 h.2.1)
      have e1 : (t1 == t2) = false := by simpa using g2
      rw [e1] at et
      clear HRD HNO
      generalize strOfNums t1 = T1 at HBA et ⊢
      generalize strOfNums d1 = D1 at HBA ed ⊢
      generalize strOfNums t2 = T2 at HBA et ⊢
      generalize strOfNums d2 = D2 at HBA ed ⊢
      go_enter Tryd.func29, Tryd.ntmps29
      go_wp2
      go_ret
      exact ⟨by rw [E.out]; rfl, HBA.out⟩
    rw [show (t1 == t2) = true by simpa using g2] at et
    have HG2 : Hid (t1 = t2) := g2
    clear g2
    by_cases g3 : n1 = n2
    case neg =>
      have E : Hid (R = false) := HNO.out (fun h => g3 h.2.2.1)
      have e1 : (n1 != n2) = true := by simpa using g3
      clear HRD HNO
      generalize strOfNums t1 = T1 at HBA et ⊢
      generalize strOfNums d1 = D1 at HBA ed ⊢
      generalize strOfNums t2 = T2 at HBA et ⊢
      generalize strOfNums d2 = D2 at HBA ed ⊢
      go_enter Tryd.func29, Tryd.ntmps29
      go_wp2
      go_ret
      exact ⟨by rw [E.out]; rfl, HBA.out⟩
    subst g3
    by_cases g4 : m1 = m2
    case neg =>
      have E : Hid (R = false) := HNO.out (fun h => g4 h.2.2.2.1)
      have e1 : (m1 != m2) = true := by simpa using g4
      clear HRD HNO
      generalize strOfNums t1 = T1 at HBA et ⊢
      generalize strOfNums d1 = D1 at HBA ed ⊢
      generalize strOfNums t2 = T2 at HBA et ⊢
      generalize strOfNums d2 = D2 at HBA ed ⊢
      go_enter Tryd.func29, Tryd.ntmps29
      go_wp2
      go_ret
      exact ⟨by rw [E.out]; rfl, HBA.out⟩
    subst g4
    by_cases g5 : a1 = a2
    case neg =>
      have E : Hid (R = false) := HNO.out (fun h => g5 h.2.2.2.2.1)
      have e1 : (a1 != a2) = true := by simpa using g5
      clear HRD HNO
      generalize strOfNums t1 = T1 at HBA et ⊢
      generalize strOfNums d1 = D1 at HBA ed ⊢
      generalize strOfNums t2 = T2 at HBA et ⊢
      generalize strOfNums d2 = D2 at HBA ed ⊢
      go_enter Tryd.func29, Tryd.ntmps29
      go_wp2
      go_ret
      exact ⟨by rw [E.out]; rfl, HBA.out⟩
    subst g5
    by_cases g6 : d1 = d2
    case neg =>
      have E : Hid (R = false) := HNO.out (fun h => g6 h.2.2.2.2.2.1)
      have e1 : (d1 == d2) = false := by simpa using g6
      rw [e1] at ed
      clear HRD HNO
      generalize strOfNums t1 = T1 at HBA et ⊢
      generalize strOfNums d1 = D1 at HBA ed ⊢
      generalize strOfNums t2 = T2 at HBA et ⊢
      generalize strOfNums d2 = D2 at HBA ed ⊢
      go_enter Tryd.func29, Tryd.ntmps29
      go_wp2
      go_ret
      exact ⟨by rw [E.out]; rfl, HBA.out⟩
    rw [show (d1 == d2) = true by simpa using g6] at ed
    have HG6 : Hid (d1 = d2) := g6
    clear g6
    by_cases g7 : kids1.length = kids2.length
    case neg =>
      have E : Hid (R = false) := HNO.out (fun h => g7 h.2.2.2.2.2.2)
      have e1 : ((kids1.length : Int) != (kids2.length : Int)) = true := by simp; omega
      clear HRD HNO
      generalize strOfNums t1 = T1 at HBA et ⊢
      generalize strOfNums d1 = D1 at HBA ed ⊢
      generalize strOfNums t2 = T2 at HBA et ⊢
      generalize strOfNums d2 = D2 at HBA ed ⊢
      go_enter Tryd.func29, Tryd.ntmps29
      go_wp2
      go_ret
      exact ⟨by rw [E.out]; rfl, HBA.out⟩
    have q7 : ((kids1.length : Int) != (kids2.length : Int)) = false := by simp; omega
    have HR : Hid (R = tsames (kids1.drop 0) (kids2.drop 0)) := by
      show _ = _
      rw [HRD.out, decide_eq_true ⟨rfl, HG2.out, rfl, rfl, rfl, HG6.out, g7⟩]
      rfl
    have HG7 : Hid (kids1.length = kids2.length) := g7
    clear HRD HNO g7
    generalize strOfNums t1 = T1 at HBA et ⊢
    generalize strOfNums d1 = D1 at HBA ed ⊢
    generalize strOfNums t2 = T2 at HBA et ⊢
    generalize strOfNums d2 = D2 at HBA ed ⊢
    go_enter Tryd.func29, Tryd.ntmps29
    go_wp2
    have HX1 : Hid (∀ X, Below (W.heap.size + 2) ((W.alloc (.cells #[.int .i64 k1, .string T1, .int .i64 n1, .int .i64 m1, .int .i64 a1, .int .i64 p1, .string D1, .slice ad1 kids1.length cap1] 24)).alloc (.cells #[.int .i64 k1, .string T2, .int .i64 n1, .int .i64 m1, .int .i64 a1, .int .i64 p2, .string D2, .slice ad2 kids2.length cap2] 24)) X → X.cell? ⟨W.heap.size, 7, none⟩ = some (.slice ad1 kids1.length cap1) ∧ X.cell? ⟨W.heap.size + 1, 7, none⟩ = some (.slice ad2 kids2.length cap2)) := fun X hX => by
      have e : (W.alloc (.cells #[.int .i64 k1, .string T1, .int .i64 n1, .int .i64 m1, .int .i64 a1, .int .i64 p1, .string D1, .slice ad1 kids1.length cap1] 24)).heap.size = W.heap.size + 1 := by simp
      refine ⟨(hX.cell (p := ⟨W.heap.size, 7, none⟩) (by simp)).trans ?_, (hX.cell (p := ⟨W.heap.size + 1, 7, none⟩) (by simp)).trans ?_⟩
      · rw [World.cell?_of_block (w := W.alloc (.cells #[.int .i64 k1, .string T1, .int .i64 n1, .int .i64 m1, .int .i64 a1, .int .i64 p1, .string D1, .slice ad1 kids1.length cap1] 24)) (Below.heap_alloc _ _ _ (by simp)), World.cell?_alloc_new]
        rfl
      · have := World.cell?_alloc_new (W.alloc (.cells #[.int .i64 k1, .string T1, .int .i64 n1, .int .i64 m1, .int .i64 a1, .int .i64 p1, .string D1, .slice ad1 kids1.length cap1] 24)) #[.int .i64 k1, .string T2, .int .i64 n1, .int .i64 m1, .int .i64 a1, .int .i64 p2, .string D2, .slice ad2 kids2.length cap2] 24 7
        rw [e] at this
        exact this
    have HSZ : Hid (((W.alloc (.cells #[.int .i64 k1, .string T1, .int .i64 n1, .int .i64 m1, .int .i64 a1, .int .i64 p1, .string D1, .slice ad1 kids1.length cap1] 24)).alloc (.cells #[.int .i64 k1, .string T2, .int .i64 n1, .int .i64 m1, .int .i64 a1, .int .i64 p2, .string D2, .slice ad2 kids2.length cap2] 24)).heap.size = W.heap.size + 2) := by show _ = _; simp
    go_loopw [58] (fun v wr => ∃ k : Nat, v = .int .i64 (k : Int) ∧ k ≤ kids1.length ∧ Hid (R = tsames (kids1.drop k) (kids2.drop k)) ∧ Hid (Below (W.heap.size + 2) ((W.alloc (.cells #[.int .i64 k1, .string T1, .int .i64 n1, .int .i64 m1, .int .i64 a1, .int .i64 p1, .string D1, .slice ad1 kids1.length cap1] 24)).alloc (.cells #[.int .i64 k1, .string T2, .int .i64 n1, .int .i64 m1, .int .i64 a1, .int .i64 p2, .string D2, .slice ad2 kids2.length cap2] 24)) wr)) (fun v _ => kids1.length - (intOf v).toNat)
    case atStart => exact ⟨0, rfl, by omega, HR, Below.refl _ _⟩
    case round =>
      obtain ⟨k, rfl, hk, HJ, HBw⟩ := hrel
      by_cases hkl : k < kids1.length
      · have hkl2 : k < kids2.length := by have := HG7.out; omega
        obtain ⟨b1, o1, rfl, hlt1, hc1⟩ := HM1.out (by omega)
        obtain ⟨b2, o2, rfl, hlt2, hc2⟩ := HM2.out (by omega)
        obtain ⟨⟨xk, xt, xn, xm, xa, xp, xd, xad, xcap, xks⟩, hx⟩ : ∃ t, kids1[k]? = some t := ⟨kids1[k]'hkl, List.getElem?_eq_getElem hkl⟩
        obtain ⟨⟨yk, yt, yn, ym, ya, yp, yd, yad, ycap, yks⟩, hy⟩ : ∃ t, kids2[k]? = some t := ⟨kids2[k]'hkl2, List.getElem?_eq_getElem hkl2⟩
        obtain ⟨z1, z2⟩ := HX1.out wr HBw.out
        have hBW : Below W.heap.size W wr := HBA.out.trans (HBw.out.mono (by omega))
        have hBB : Below w.heap.size w wr := HB0.out.trans (hBW.mono HB0.out.size)
        obtain ⟨c0, c1, c2, c3, c4, c5, c6, c7⟩ := kid_cells hlt1 hBB hc1 hx
        obtain ⟨f0, f1, f2, f3, f4, f5, f6, f7⟩ := kid_cells hlt2 hBB hc2 hy
        have q := HIH.out k _ hx _ (HK2.out k _ hy) wr.drew hBB.drew
        change Calls Tryd.prog 29 #[.agg #[.int .i64 xk, .string (strOfNums xt), .int .i64 xn, .int .i64 xm, .int .i64 xa, .int .i64 xp, .string (strOfNums xd), .slice xad xks.length xcap], .agg #[.int .i64 yk, .string (strOfNums yt), .int .i64 yn, .int .i64 ym, .int .i64 ya, .int .i64 yp, .string (strOfNums yd), .slice yad yks.length ycap]] _ _ at q
        have HJ' := HJ.out
        rw [List.drop_eq_getElem_cons hkl, List.drop_eq_getElem_cons hkl2, show kids1[k] = .mk xk xt xn xm xa xp xd xad xcap xks by rw [List.getElem?_eq_getElem hkl] at hx; exact Option.some.inj hx, show kids2[k] = .mk yk yt yn ym ya yp yd yad ycap yks by rw [List.getElem?_eq_getElem hkl2] at hy; exact Option.some.inj hy, tsames_cons] at HJ'
        generalize tsame (.mk xk xt xn xm xa xp xd xad xcap xks) (.mk yk yt yn ym ya yp yd yad ycap yks) = B at q HJ'
        generalize strOfNums xt = U1 at c1 q
        generalize strOfNums xd = U2 at c6 q
        generalize strOfNums yt = U3 at f1 q
        generalize strOfNums yd = U4 at f6 q
        have Q : Hid _ := q
        have hszw : W.heap.size + 2 ≤ wr.heap.size := by have := HSZ.out; have := HBw.out.size; omega
        clear q hc1 hc2 HJ hx hy hBB
        cases B with
        | true =>
          have HE : Hid (R = tsames (kids1.drop (k + 1)) (kids2.drop (k + 1))) := by show _ = _; rw [HJ']; rfl
          clear HJ'
          go_wp2
          go_region_with (go_at_call 29; refine Calls.mono Q.out ?_; rintro e w2 ⟨rfl, hb2⟩)
          all_goals
            have HB2 : Hid (Below _ _ _) := HBw.out.drew.trans (hb2.mono hszw)
            clear hb2
            go_wp2
            go_roundw
            case rel => first | exact ⟨k + 1, by go_num, by omega, HE, HB2⟩ | ((repeat apply Exists.intro); exact ⟨⟨k + 1, by go_num, by omega, HE, HB2⟩, rfl⟩)
            case measure => simp [intOf]; omega
        | false =>
          have HE : Hid (R = false) := by show _ = _; rw [HJ']; rfl
          clear HJ'
          go_wp2
          go_region_with (go_at_call 29; refine Calls.mono Q.out ?_; rintro e w2 ⟨rfl, hb2⟩)
          all_goals
            have HB2 : Hid (Below _ _ _) := HBw.out.drew.trans (hb2.mono hszw)
            clear hb2
            go_wp2
            go_ret
            exact ⟨by rw [HE.out]; rfl, HBA.out.trans (HB2.out.mono (by omega))⟩
      · obtain rfl : k = kids1.length := by omega
        have E : Hid (R = true) := by show _ = _; rw [HJ.out, List.drop_length, tsames]
        clear HJ
        go_wp2
        go_ret
        exact ⟨by rw [E.out]; rfl, HBA.out.trans (HBw.out.mono (by omega))⟩

end Go.Proofs.YtgkablmglkagfaaDoor

/- The program's own Same as plain functions; its alike. -/
namespace Go.Proofs.YtgkablmglkagfaaDoor
open Go.RowKit
set_option linter.unusedVariables false
set_option linter.unusedSimpArgs false

/-- Alike but for their places and kids. -/
def palk : Tn → Tn → Bool
  | .mk k1 t1 n1 m1 a1 _ d1 _ _ _, .mk k2 t2 n2 m2 a2 _ d2 _ _ _ => (k1 == k2) && ((t1 == t2) && ((n1 == n2) && ((m1 == m2) && ((a1 == a2) && (d1 == d2)))))

/-- .. all the way down, so many levels at most. -/
def psm : Nat → Tn → Tn → Bool
  | 0, _, _ => false
  | l + 1, t, u => palk t u && (decide (t.kids.length = u.kids.length) && (t.kids.zip u.kids).all fun p => psm l p.1 p.2)

mutual
/-- How high a tree is. -/
def tht : Tn → Nat
  | .mk _ _ _ _ _ _ _ _ _ kids => thts kids + 1
def thts : List Tn → Nat
  | [] => 0
  | k :: r => max (tht k) (thts r)
end

mutual
theorem tdp_ht : ∀ (t : Tn) (x : Int), x ≤ 65 → (64 < tdp t x ↔ 64 < x - 1 + tht t)
  | .mk _ _ _ _ _ _ _ _ _ kids, x, h => by
    rw [tdp, tht]
    by_cases hx : 64 < x
    · rw [if_pos hx]; omega
    · rw [if_neg hx, tdps_ht kids x x (by omega) (by omega) (by omega)]; omega
theorem tdps_ht : ∀ (l : List Tn) (x d : Int), x ≤ 64 → x ≤ d → d ≤ 64 → (64 < tdps l x d ↔ 64 < x + thts l)
  | [], x, d, h0, h1, h2 => by rw [tdps, thts]; omega
  | k :: r, x, d, h0, h1, h2 => by
    have hk := tdp_ht k (x + 1) (by omega)
    have hb := tdp_bd k (x + 1) (by omega)
    rw [tdps, thts]
    by_cases h : 64 < max d (tdp k (x + 1))
    · rw [if_pos h]; omega
    · rw [if_neg h, tdps_ht r x _ h0 (by omega) (by omega)]; omega
end

theorem tdeep_ht (t : Tn) : tdeep t ≤ 64 ↔ tht t ≤ 64 := by
  have h := tdp_ht t 1 (by omega)
  unfold tdeep
  split <;> omega

mutual
theorem tsame_ht : ∀ (t u : Tn), tsame t u = true → tht t = tht u
  | .mk k1 t1 n1 m1 a1 _ d1 _ _ kids1, .mk k2 t2 n2 m2 a2 _ d2 _ _ kids2, h => by
    rw [tsame, Bool.and_eq_true] at h
    obtain ⟨h1, h2⟩ := h
    have h1 := of_decide_eq_true h1
    rw [tht, tht, tsames_ht kids1 kids2 h1.2.2.2.2.2.2 h2]
theorem tsames_ht : ∀ (l r : List Tn), l.length = r.length → tsames l r = true → thts l = thts r
  | [], [], _, _ => rfl
  | [], _ :: _, h, _ => by simp at h
  | _ :: _, [], h, _ => by simp at h
  | x :: l, y :: r, h, h2 => by
    rw [tsames, Bool.and_eq_true] at h2
    rw [thts, thts, tsame_ht x y h2.1, tsames_ht l r (by simpa using h) h2.2]
end

theorem psms_eq {l : Nat} (ih : ∀ t u, psm l t u = (tsame t u && decide (tht t ≤ l))) : ∀ (ks us : List Tn), ks.length = us.length → ((ks.zip us).all fun p => psm l p.1 p.2) = (tsames ks us && decide (thts ks ≤ l))
  | [], [], _ => by simp [tsames, thts]
  | [], _ :: _, h => by simp at h
  | _ :: _, [], h => by simp at h
  | x :: r, y :: q, h => by
    rw [List.zip_cons_cons, List.all_cons, psms_eq ih r q (by simpa using h), tsames, thts, ih x y]
    rw [Bool.eq_iff_iff]
    simp only [Bool.and_eq_true, decide_eq_true_eq]
    constructor
    · rintro ⟨⟨a, b⟩, c, d⟩; exact ⟨⟨a, c⟩, by omega⟩
    · rintro ⟨⟨a, c⟩, d⟩; exact ⟨⟨a, by omega⟩, c, by omega⟩

theorem psm_eq : ∀ (l : Nat) (t u : Tn), psm l t u = (tsame t u && decide (tht t ≤ l))
  | 0, .mk _ _ _ _ _ _ _ _ _ kids, u => by rw [psm, tht, decide_eq_false (by omega), Bool.and_false]
  | l + 1, .mk k1 t1 n1 m1 a1 _ d1 _ _ kids1, .mk k2 t2 n2 m2 a2 _ d2 _ _ kids2 => by
    rw [psm, tsame, tht]
    show (palk _ _ && (decide (kids1.length = kids2.length) && (kids1.zip kids2).all fun p => psm l p.1 p.2)) = _
    by_cases hl : kids1.length = kids2.length
    · rw [psms_eq (psm_eq l) kids1 kids2 hl]
      rw [Bool.eq_iff_iff]
      simp only [palk, Bool.and_eq_true, decide_eq_true_eq, beq_iff_eq]
      constructor
      · rintro ⟨⟨a, b, c, d, e, f⟩, g, h, i⟩; exact ⟨⟨⟨a, b, c, d, e, f, g⟩, h⟩, by omega⟩
      · rintro ⟨⟨⟨a, b, c, d, e, f, g⟩, h⟩, i⟩; exact ⟨⟨a, b, c, d, e, f⟩, g, h, by omega⟩
    · rw [decide_eq_false hl, decide_eq_false (fun h => hl h.2.2.2.2.2.2)]; simp

theorem psm_tSame (t u : Tn) : psm 64 t u = tSame t u := by
  rw [psm_eq]
  unfold tSame
  rw [Bool.eq_iff_iff]
  simp only [Bool.and_eq_true, decide_eq_true_eq, tdeep_ht]
  constructor
  · rintro ⟨a, b⟩; exact ⟨b, by rw [← tsame_ht t u a]; exact b, a⟩
  · rintro ⟨a, b, c⟩; exact ⟨c, a⟩

set_option maxRecDepth 10000 in
set_option maxHeartbeats 2000000 in
theorem palike_raw (k1 n1 m1 a1 p1 k2 n2 m2 a2 p2 : Int) (T1 D1 T2 D2 : ByteArray) (s1 s2 : Value) (c1 : s1.oneCell' = true) (c2 : s2.oneCell' = true) (B1 B2 B3 B4 B5 B6 : Bool) (W : World)
    (e1 : (k1 == k2) = B1) (e2 : (T1.toList == T2.toList) = B2) (e3 : (n1 == n2) = B3) (e4 : (m1 == m2) = B4) (e5 : (a1 == a2) = B5) (e6 : (D1.toList == D2.toList) = B6) :
    Calls Tryd.prog 26 #[.agg #[.int .i64 k1, .string T1, .int .i64 n1, .int .i64 m1, .int .i64 a1, .int .i64 p1, .string D1, s1], .agg #[.int .i64 k2, .string T2, .int .i64 n2, .int .i64 m2, .int .i64 a2, .int .i64 p2, .string D2, s2]] W fun e W' => e = .returned (.bool (B1 && (B2 && (B3 && (B4 && (B5 && B6)))))) ∧ Below W.heap.size W W' := by
  have HBA : Hid (Below W.heap.size W ((W.alloc (.cells #[.int .i64 k1, .string T1, .int .i64 n1, .int .i64 m1, .int .i64 a1, .int .i64 p1, .string D1, s1] 24)).alloc (.cells #[.int .i64 k2, .string T2, .int .i64 n2, .int .i64 m2, .int .i64 a2, .int .i64 p2, .string D2, s2] 24))) := ((Below.refl _ _).alloc (Nat.le_refl _) _).alloc (by simp only [World.size_alloc]; omega) _
  cases B1
  case false =>
    go_enter Tryd.func26, Tryd.ntmps26
    go_wp2
    go_ret
    exact ⟨rfl, HBA.out⟩
  cases B2
  case false =>
    go_enter Tryd.func26, Tryd.ntmps26
    go_wp2
    go_ret
    exact ⟨rfl, HBA.out⟩
  cases B3
  case false =>
    go_enter Tryd.func26, Tryd.ntmps26
    go_wp2
    go_ret
    exact ⟨rfl, HBA.out⟩
  cases B4
  case false =>
    go_enter Tryd.func26, Tryd.ntmps26
    go_wp2
    go_ret
    exact ⟨rfl, HBA.out⟩
  cases B5
  case false =>
    go_enter Tryd.func26, Tryd.ntmps26
    go_wp2
    go_ret
    exact ⟨rfl, HBA.out⟩
  cases B6
  all_goals
    go_enter Tryd.func26, Tryd.ntmps26
    go_wp2
    go_ret
    exact ⟨rfl, HBA.out⟩

theorem palike_any {w : World} {t u : Tn} (h : TnOk w t) (hu : TnOk w u) (W : World) : Calls Tryd.prog 26 #[t.val, u.val] W fun e W' => e = .returned (.bool (palk t u)) ∧ Below W.heap.size W W' := by
  cases h with
  | @mk k1 t1 n1 m1 a1 p1 d1 ad1 cap1 kids1 hkind htext htl hn hm ha hpos hdoc hdl hkl hcap hnone hmem hkids =>
  cases hu with
  | @mk k2 t2 n2 m2 a2 p2 d2 ad2 cap2 kids2 hkind2 htext2 htl2 hn2 hm2 ha2 hpos2 hdoc2 hdl2 hkl2 hcap2 hnone2 hmem2 hkids2 =>
  exact palike_raw k1 n1 m1 a1 p1 k2 n2 m2 a2 p2 _ _ _ _ _ _ rfl rfl _ _ _ _ _ _ W rfl (str_eq htext htext2) rfl rfl rfl (str_eq hdoc hdoc2)

end Go.Proofs.YtgkablmglkagfaaDoor

/- The contract of slices.EqualFunc at nodes, of whatever function value it is handed. -/
namespace Go.Proofs.YtgkablmglkagfaaDoor
open Go.RowKit
set_option linter.unusedVariables false
set_option linter.unusedSimpArgs false

set_option maxRecDepth 10000 in
set_option maxHeartbeats 4000000 in
theorem peqf_any {w : World} {ad1 ad2 : Option Addr} {cap1 cap2 : Nat} {ks1 ks2 : List Tn} (h1 : Kl w ad1 cap1 ks1) (h2 : Kl w ad2 cap2 ks2) (kf : FuncId) (hin : Goin kf) (caps : Array Value) (P : Tn → Tn → Bool) (W : World) (hB : Below w.heap.size w W)
    (hf : ∀ (i : Nat) (t u : Tn), ks1[i]? = some t → ks2[i]? = some u → ∀ V, Below W.heap.size W V → Calls Tryd.prog kf (#[t.val, u.val] ++ caps) V fun e V' => e = .returned (.bool (P t u)) ∧ Below V.heap.size V V') :
    Calls Tryd.prog 27 #[.slice ad1 ks1.length cap1, .slice ad2 ks2.length cap2, .func (.func kf) #[] caps] W fun e W' => e = .returned (.bool (decide (ks1.length = ks2.length) && (ks1.zip ks2).all fun p => P p.1 p.2)) ∧ Below W.heap.size W W' := by
  have hkl := h1.hlen
  have hkl2 := h2.hlen
  have HM1 : Hid _ := h1.hmem
  have HM2 : Hid _ := h2.hmem
  have HF : Hid _ := hf
  have HB0 : Hid (Below w.heap.size w W) := hB
  clear h1 h2 hf hB
  unfold Goin at hin
  by_cases hl : ks1.length = ks2.length
  case neg =>
    have e1 : ((ks1.length : Int) != (ks2.length : Int)) = true := by simp; omega
    have E : Hid ((decide (ks1.length = ks2.length) && (ks1.zip ks2).all fun p => P p.1 p.2) = false) := by show _ = _; rw [decide_eq_false hl]; rfl
    rw [E.out]
    have HB : Hid (Below W.heap.size W W) := Below.refl _ _
    clear E HM1 HM2 HF
    go_enter Tryd.func27, Tryd.ntmps27
    go_wp2
    go_ret
    exact ⟨rfl, HB.out⟩
  rw [decide_eq_true hl, Bool.true_and]
  obtain ⟨R, hR⟩ : ∃ R, R = (((ks1.drop 0).zip (ks2.drop 0)).all fun p => P p.1 p.2) := ⟨_, rfl⟩
  rw [show ((ks1.zip ks2).all fun p => P p.1 p.2) = R by rw [hR]; rfl]
  have HR : Hid (R = (((ks1.drop 0).zip (ks2.drop 0)).all fun p => P p.1 p.2)) := hR
  have HL : Hid (ks1.length = ks2.length) := hl
  have HBr : Hid (Below W.heap.size W W) := Below.refl _ _
  rw [← hl] at hkl2 ⊢
  clear hR hl hkl2
  generalize hN : ks1.length = N at hkl ⊢
  have HN : Hid (ks1.length = N) := hN
  clear hN
  go_enter Tryd.func27, Tryd.ntmps27
  go_wp2
  go_loopw [17] (fun v wr => ∃ (k : Nat), v = .int .i64 (k : Int) ∧ k ≤ N ∧ Hid (R = (((ks1.drop k).zip (ks2.drop k)).all fun p => P p.1 p.2)) ∧ Hid (Below W.heap.size W wr)) (fun v _ => N - (intOf v).toNat)
  case atStart => exact ⟨0, rfl, by omega, HR, HBr⟩
  case round =>
    obtain ⟨k, rfl, hk, HJ, HBw⟩ := hrel
    by_cases hkl2 : k < N
    · have hk1 : k < ks1.length := by have := HN.out; omega
      have hk2 : k < ks2.length := by have := HN.out; have := HL.out; omega
      obtain ⟨b1, off1, rfl, hlt1, hc1⟩ := HM1.out (by omega)
      obtain ⟨b2, off2, rfl, hlt2, hc2⟩ := HM2.out (by omega)
      obtain ⟨t, hkid⟩ : ∃ t, ks1[k]? = some t := ⟨ks1[k]'hk1, List.getElem?_eq_getElem hk1⟩
      obtain ⟨u, hkid2⟩ : ∃ t, ks2[k]? = some t := ⟨ks2[k]'hk2, List.getElem?_eq_getElem hk2⟩
      have HJ' := HJ.out
      rw [List.drop_eq_getElem_cons hk1, List.drop_eq_getElem_cons hk2, show ks1[k] = t by rw [List.getElem?_eq_getElem hk1] at hkid; exact Option.some.inj hkid, show ks2[k] = u by rw [List.getElem?_eq_getElem hk2] at hkid2; exact Option.some.inj hkid2, List.zip_cons_cons, List.all_cons] at HJ'
      have q := fun V hV => HF.out k t u hkid hkid2 V hV
      change R = (P t u && _) at HJ'
      generalize P t u = C at q HJ'
      obtain ⟨kd, tx, n2, m2, a2, pos2, doc2, ad2, cap2, ks⟩ := t
      obtain ⟨kd3, tx3, n3, m3, a3, pos3, doc3, ad3, cap3, ks3⟩ := u
      have hBB : Below w.heap.size w wr := HB0.out.trans (HBw.out.mono HB0.out.size)
      obtain ⟨c0, c1, c2, c3, c4, c5, c6, c7⟩ := kid_cells hlt1 hBB hc1 hkid
      obtain ⟨d0, d1, d2, d3, d4, d5, d6, d7⟩ := kid_cells hlt2 hBB hc2 hkid2
      change ∀ V, _ → Calls Tryd.prog kf ((#[Value.agg #[.int .i64 kd, .string (strOfNums tx), .int .i64 n2, .int .i64 m2, .int .i64 a2, .int .i64 pos2, .string (strOfNums doc2), .slice ad2 ks.length cap2], Value.agg #[.int .i64 kd3, .string (strOfNums tx3), .int .i64 n3, .int .i64 m3, .int .i64 a3, .int .i64 pos3, .string (strOfNums doc3), .slice ad3 ks3.length cap3]] : Array Value) ++ caps) V _ at q
      generalize strOfNums tx = U1 at c1 q
      generalize strOfNums doc2 = U2 at c6 q
      generalize strOfNums tx3 = U3 at d1 q
      generalize strOfNums doc3 = U4 at d6 q
      have hlt1' : b1 < wr.heap.size := Nat.lt_of_lt_of_le hlt1 hBB.size
      have hlt2' : b2 < wr.heap.size := Nat.lt_of_lt_of_le hlt2 hBB.size
      have HBn : Hid (Below W.heap.size W ((wr.alloc (.cells #[.int .i64 kd, .string U1, .int .i64 n2, .int .i64 m2, .int .i64 a2, .int .i64 pos2, .string U2, .slice ad2 ks.length cap2] 24)).alloc (.cells #[.int .i64 kd3, .string U3, .int .i64 n3, .int .i64 m3, .int .i64 a3, .int .i64 pos3, .string U4, .slice ad3 ks3.length cap3] 24))) := (HBw.out.alloc HBw.out.size _).alloc (by have := HBw.out.size; simp only [World.size_alloc]; omega) _
      have Q : Hid _ := q _ HBn.out
      clear q hc1 hc2 hkid hkid2 hBB HJ
      cases C with
      | false =>
        have HE : Hid (R = false) := HJ'
        clear HJ'
        go_wp2_with fail
        refine Calls.mono Q.out ?_
        rintro e w2 ⟨rfl, hb2⟩
        go_wp2
        go_ret
        exact ⟨by rw [HE.out]; rfl, HBn.out.trans (hb2.mono HBn.out.size)⟩
      | true =>
        have HE : Hid (R = (((ks1.drop (k + 1)).zip (ks2.drop (k + 1))).all fun p => P p.1 p.2)) := HJ'
        clear HJ'
        go_wp2_with fail
        refine Calls.mono Q.out ?_
        rintro e w2 ⟨rfl, hb2⟩
        have HB2 : Hid (Below W.heap.size W w2) := HBn.out.trans (hb2.mono HBn.out.size)
        clear hb2
        go_wp2
        go_roundw
        case rel => first | exact ⟨k + 1, by go_num, by omega, HE, HB2⟩ | ((repeat apply Exists.intro); exact ⟨⟨k + 1, by go_num, by omega, HE, HB2⟩, rfl⟩)
        case measure => simp [intOf]; omega
    · obtain rfl : k = N := by omega
      have E : Hid (R = true) := by show _ = _; rw [HJ.out, ← HN.out, List.drop_length]; rfl
      clear HJ
      go_wp2
      go_ret
      exact ⟨by rw [E.out]; rfl, HBw.out⟩

end Go.Proofs.YtgkablmglkagfaaDoor

/- The contracts of the program's own node.Same and its closures. -/
namespace Go.Proofs.YtgkablmglkagfaaDoor
open Go.RowKit
set_option linter.unusedVariables false
set_option linter.unusedSimpArgs false

theorem blk_cell {w : World} {g : Nat} {cs : Array Value} {t : TypeId} {fr : Nat × Nat} (h : w.heap[g]? = some (.cells cs t fr)) (i : Nat) (v : Value) (hv : cs[i]? = some v) : w.cell? ⟨g, i, none⟩ = some v := by
  simp [World.cell?, h, hv]

set_option maxRecDepth 10000 in
set_option maxHeartbeats 2000000 in
theorem psm2_any (t u : Tn) (V : World) (g gl : Nat) (l : Int) (R : Bool) (h0 : 1 ≤ l) (h1 : l ≤ 64)
    (hself : V.heap[g]? = some (.cells #[.func (.func 25) #[] #[.pointer (some ⟨g, 0, none⟩)]] 38 (0, 0))) (hl : V.heap[gl]? = some (.cells #[.int .i64 l] 3 (0, 0)))
    (hq : ∀ V', Below V.heap.size V V' → Calls Tryd.prog 25 #[t.val, u.val, .int .i64 (l - 1), .pointer (some ⟨g, 0, none⟩)] V' fun e V'' => e = .returned (.bool R) ∧ Below V'.heap.size V' V'') :
    Calls Tryd.prog 28 #[t.val, u.val, .pointer (some ⟨g, 0, none⟩), .pointer (some ⟨gl, 0, none⟩)] V fun e V' => e = .returned (.bool R) ∧ Below V.heap.size V V' := by
  obtain ⟨k1, t1, n1, m1, a1, p1, d1, ad1, cap1, ks1⟩ := t
  obtain ⟨k2, t2, n2, m2, a2, p2, d2, ad2, cap2, ks2⟩ := u
  change Calls Tryd.prog 28 #[.agg #[.int .i64 k1, .string (strOfNums t1), .int .i64 n1, .int .i64 m1, .int .i64 a1, .int .i64 p1, .string (strOfNums d1), .slice ad1 ks1.length cap1], .agg #[.int .i64 k2, .string (strOfNums t2), .int .i64 n2, .int .i64 m2, .int .i64 a2, .int .i64 p2, .string (strOfNums d2), .slice ad2 ks2.length cap2], .pointer (some ⟨g, 0, none⟩), .pointer (some ⟨gl, 0, none⟩)] V _
  change ∀ V', _ → Calls Tryd.prog 25 #[.agg #[.int .i64 k1, .string (strOfNums t1), .int .i64 n1, .int .i64 m1, .int .i64 a1, .int .i64 p1, .string (strOfNums d1), .slice ad1 ks1.length cap1], .agg #[.int .i64 k2, .string (strOfNums t2), .int .i64 n2, .int .i64 m2, .int .i64 a2, .int .i64 p2, .string (strOfNums d2), .slice ad2 ks2.length cap2], .int .i64 (l - 1), .pointer (some ⟨g, 0, none⟩)] V' _ at hq
  generalize strOfNums t1 = T1 at hq ⊢
  generalize strOfNums d1 = D1 at hq ⊢
  generalize strOfNums t2 = T2 at hq ⊢
  generalize strOfNums d2 = D2 at hq ⊢
  have hc := one_cell_of hself
  have hcl := one_cell_of hl
  have hlt := one_lt hself
  have hltl := one_lt hl
  have HBA : Hid (Below V.heap.size V ((V.alloc (.cells #[.int .i64 k1, .string T1, .int .i64 n1, .int .i64 m1, .int .i64 a1, .int .i64 p1, .string D1, .slice ad1 ks1.length cap1] 24)).alloc (.cells #[.int .i64 k2, .string T2, .int .i64 n2, .int .i64 m2, .int .i64 a2, .int .i64 p2, .string D2, .slice ad2 ks2.length cap2] 24))) := ((Below.refl _ _).alloc (Nat.le_refl _) _).alloc (by simp only [World.size_alloc]; omega) _
  have Q : Hid _ := hq
  clear hself hl hq
  go_enter Tryd.func28, Tryd.ntmps28
  go_wp2_with fail
  refine Calls.mono (Q.out _ HBA.out) ?_
  rintro e w2 ⟨rfl, hb2⟩
  go_wp2
  go_ret
  exact ⟨rfl, HBA.out.trans (hb2.mono HBA.out.size)⟩

set_option maxRecDepth 10000 in
set_option maxHeartbeats 4000000 in
theorem psm_any {w : World} {t : Tn} (h : TnOk w t) : ∀ (u : Tn) (hu : TnOk w u) (V : World) (g : Nat) (l : Nat), Below w.heap.size w V →
    V.heap[g]? = some (.cells #[.func (.func 25) #[] #[.pointer (some ⟨g, 0, none⟩)]] 38 (0, 0)) → l ≤ 64 →
    Calls Tryd.prog 25 #[t.val, u.val, .int .i64 (l : Int), .pointer (some ⟨g, 0, none⟩)] V fun e V' => e = .returned (.bool (psm l t u)) ∧ Below V.heap.size V V' := by
  induction h with
  | @mk k1 t1 n1 m1 a1 p1 d1 ad1 cap1 ks1 hkind htext htl hn hm ha hpos hdoc hdl hkl hcap hnone hmem hkids ih =>
    intro u hu V g l hB hself hl64
    have hok : TnOk w (.mk k1 t1 n1 m1 a1 p1 d1 ad1 cap1 ks1) := .mk hkind htext htl hn hm ha hpos hdoc hdl hkl hcap hnone hmem hkids
    have qa := fun W => palike_any hok hu W
    obtain ⟨k2, t2, n2, m2, a2, p2, d2, ad2, cap2, ks2⟩ := u
    have hcell := one_cell_of hself
    have hlt := one_lt hself
    have hmf : ∀ (fn : Fn) (first cap : Array Value) (w : World), (Instr.makeFunc fn first cap).run Tryd.prog w = .ok (.func fn first cap) w := fun _ _ _ _ => rfl
    obtain ⟨A, hA⟩ : ∃ A, A = palk (.mk k1 t1 n1 m1 a1 p1 d1 ad1 cap1 ks1) (.mk k2 t2 n2 m2 a2 p2 d2 ad2 cap2 ks2) := ⟨_, rfl⟩
    rw [← hA] at qa
    change ∀ W, Calls Tryd.prog 26 #[.agg #[.int .i64 k1, .string (strOfNums t1), .int .i64 n1, .int .i64 m1, .int .i64 a1, .int .i64 p1, .string (strOfNums d1), .slice ad1 ks1.length cap1], .agg #[.int .i64 k2, .string (strOfNums t2), .int .i64 n2, .int .i64 m2, .int .i64 a2, .int .i64 p2, .string (strOfNums d2), .slice ad2 ks2.length cap2]] W _ at qa
    change Calls Tryd.prog 25 #[.agg #[.int .i64 k1, .string (strOfNums t1), .int .i64 n1, .int .i64 m1, .int .i64 a1, .int .i64 p1, .string (strOfNums d1), .slice ad1 ks1.length cap1], .agg #[.int .i64 k2, .string (strOfNums t2), .int .i64 n2, .int .i64 m2, .int .i64 a2, .int .i64 p2, .string (strOfNums d2), .slice ad2 ks2.length cap2], .int .i64 (l : Int), .pointer (some ⟨g, 0, none⟩)] V _
    generalize strOfNums t1 = T1 at qa ⊢
    generalize strOfNums d1 = D1 at qa ⊢
    generalize strOfNums t2 = T2 at qa ⊢
    generalize strOfNums d2 = D2 at qa ⊢
    have HBA : Hid (Below V.heap.size V (((V.alloc (.cells #[.int .i64 k1, .string T1, .int .i64 n1, .int .i64 m1, .int .i64 a1, .int .i64 p1, .string D1, .slice ad1 ks1.length cap1] 24)).alloc (.cells #[.int .i64 k2, .string T2, .int .i64 n2, .int .i64 m2, .int .i64 a2, .int .i64 p2, .string D2, .slice ad2 ks2.length cap2] 24)).alloc (.cells #[.int .i64 (l : Int)] 3))) := (((Below.refl _ _).alloc (Nat.le_refl _) _).alloc (by simp only [World.size_alloc]; omega) _).alloc (by simp only [World.size_alloc]; omega) _
    have QA : Hid _ := qa
    cases l with
    | zero =>
      have E : Hid (psm 0 (.mk k1 t1 n1 m1 a1 p1 d1 ad1 cap1 ks1) (.mk k2 t2 n2 m2 a2 p2 d2 ad2 cap2 ks2) = false) := by show _ = _; rw [psm]
      rw [E.out]
      clear ih hmem hkids hB htext hdoc hnone hok qa hA E hself QA
      simp only [Int.natCast_zero] at HBA ⊢
      go_enter Tryd.func25, Tryd.ntmps25
      go_wp2
      go_ret
      exact ⟨rfl, HBA.out⟩
    | succ l =>
      have E : psm (l + 1) (.mk k1 t1 n1 m1 a1 p1 d1 ad1 cap1 ks1) (.mk k2 t2 n2 m2 a2 p2 d2 ad2 cap2 ks2) = (A && (decide (ks1.length = ks2.length) && (ks1.zip ks2).all fun p => psm l p.1 p.2)) := by rw [psm, hA]; rfl
      rw [E]
      have qe := fun (gl : Nat) (W : World) (hW : Below w.heap.size w W) (hs : W.heap[g]? = some (.cells #[.func (.func 25) #[] #[.pointer (some ⟨g, 0, none⟩)]] 38 (0, 0))) (hl : W.heap[gl]? = some (.cells #[.int .i64 ((l + 1 : Nat) : Int)] 3 (0, 0))) =>
        peqf_any hok.kl hu.kl 28 Tryd.call28 #[.pointer (some ⟨g, 0, none⟩), .pointer (some ⟨gl, 0, none⟩)] (psm l) W hW
          (fun i t u hi hu' U hU => psm2_any t u U g gl ((l + 1 : Nat) : Int) (psm l t u) (by omega) (by omega) ((hU.block _ (one_lt hs)).trans hs) ((hU.block _ (one_lt hl)).trans hl) (fun U' hU' => by
            have hk := hu.kl.hall i u hu'
            have := ih i t hi u hk U' g l (hW.trans ((hU.trans (hU'.mono hU.size)).mono hW.size)) ((hU'.block _ (Nat.lt_of_lt_of_le (one_lt hs) hU.size)).trans ((hU.block _ (one_lt hs)).trans hs)) (by omega)
            rw [show ((l + 1 : Nat) : Int) - 1 = (l : Int) by omega]
            exact this))
      generalize (decide (ks1.length = ks2.length) && (ks1.zip ks2).all fun p => psm l p.1 p.2) = RR at qe ⊢
      have QE : Hid _ := qe
      have HB0 : Hid (Below w.heap.size w V) := hB
      have HS : Hid (V.heap[g]? = some (.cells #[.func (.func 25) #[] #[.pointer (some ⟨g, 0, none⟩)]] 38 (0, 0))) := hself
      have hl1 : (0 : Int) < ((l + 1 : Nat) : Int) := by omega
      have hLb : ((l + 1 : Nat) : Int) ≤ 64 := by omega
      generalize hL : ((l + 1 : Nat) : Int) = L at *
      clear ih hmem hkids hB htext hdoc hnone hok qa hA E hself qe hu hL hkind htl hn hm ha hpos hdl hcap
      cases A with
      | false =>
        go_enter Tryd.func25, Tryd.ntmps25
        go_wp2_with fail
        refine Calls.mono (QA.out _) ?_
        rintro e w2 ⟨rfl, hb2⟩
        go_wp2
        go_ret
        exact ⟨rfl, HBA.out.trans (hb2.mono HBA.out.size)⟩
      | true =>
        go_enter Tryd.func25, Tryd.ntmps25
        go_wp2_with fail
        refine Calls.mono (QA.out _) ?_
        rintro e w2 ⟨rfl, hb2⟩
        have b0 := (hb2.block _ (by simp only [World.size_alloc]; omega)).trans (alloc_old (alloc_old (alloc_at V (.cells #[.int .i64 k1, .string T1, .int .i64 n1, .int .i64 m1, .int .i64 a1, .int .i64 p1, .string D1, .slice ad1 ks1.length cap1] 24) rfl)))
        have b1 := (hb2.block _ (by simp only [World.size_alloc]; omega)).trans (alloc_old (alloc_at (V.alloc (.cells #[.int .i64 k1, .string T1, .int .i64 n1, .int .i64 m1, .int .i64 a1, .int .i64 p1, .string D1, .slice ad1 ks1.length cap1] 24)) (.cells #[.int .i64 k2, .string T2, .int .i64 n2, .int .i64 m2, .int .i64 a2, .int .i64 p2, .string D2, .slice ad2 ks2.length cap2] 24) (k := V.heap.size + 1) (by simp)))
        have b2 := (hb2.block (V.heap.size + 2) (by simp only [World.size_alloc]; omega)).trans (alloc_at _ _ (by simp))
        have c1 := blk_cell b0 7 _ rfl
        have c2 := blk_cell b1 7 _ rfl
        have HB2 : Hid (Below V.heap.size V w2) := HBA.out.trans (hb2.mono HBA.out.size)
        have Q : Hid _ := QE.out (V.heap.size + 2) w2 (HB0.out.trans (HB2.out.mono HB0.out.size)) ((HB2.out.block _ (one_lt HS.out)).trans HS.out) b2
        clear b0 b1 b2 hb2 QE
        go_wp2_with fail
        refine Calls.mono Q.out ?_
        rintro e w3 ⟨rfl, hb3⟩
        go_wp2
        go_ret
        exact ⟨rfl, HB2.out.trans (hb3.mono HB2.out.size)⟩

set_option maxRecDepth 10000 in
set_option maxHeartbeats 2000000 in
theorem psame_all {w : World} {t u : Tn} (h : TnOk w t) (hu : TnOk w u) (W : World) (hB : Below w.heap.size w W) :
    Calls Tryd.prog 13 #[t.val, u.val] W fun e W' => e = .returned (.bool (tSame t u)) ∧ Below W.heap.size W W' := by
  have q := fun V hV => psm_any (h.under hB) u (hu.under hB) V (W.heap.size + 2) 64 hV
  rw [psm_tSame t u] at q
  generalize tSame t u = R at q ⊢
  have hmf : ∀ (fn : Fn) (first cap : Array Value) (w : World), (Instr.makeFunc fn first cap).run Tryd.prog w = .ok (.func fn first cap) w := fun _ _ _ _ => rfl
  obtain ⟨k1, t1, n1, m1, a1, p1, d1, ad1, cap1, ks1⟩ := t
  obtain ⟨k2, t2, n2, m2, a2, p2, d2, ad2, cap2, ks2⟩ := u
  change Calls Tryd.prog 13 #[.agg #[.int .i64 k1, .string (strOfNums t1), .int .i64 n1, .int .i64 m1, .int .i64 a1, .int .i64 p1, .string (strOfNums d1), .slice ad1 ks1.length cap1], .agg #[.int .i64 k2, .string (strOfNums t2), .int .i64 n2, .int .i64 m2, .int .i64 a2, .int .i64 p2, .string (strOfNums d2), .slice ad2 ks2.length cap2]] W _
  change ∀ V, Below W.heap.size W V → _ → _ → Calls Tryd.prog 25 #[.agg #[.int .i64 k1, .string (strOfNums t1), .int .i64 n1, .int .i64 m1, .int .i64 a1, .int .i64 p1, .string (strOfNums d1), .slice ad1 ks1.length cap1], .agg #[.int .i64 k2, .string (strOfNums t2), .int .i64 n2, .int .i64 m2, .int .i64 a2, .int .i64 p2, .string (strOfNums d2), .slice ad2 ks2.length cap2], .int .i64 64, .pointer (some ⟨W.heap.size + 2, 0, none⟩)] V _ at q
  generalize strOfNums t1 = T1 at q ⊢
  generalize strOfNums d1 = D1 at q ⊢
  generalize strOfNums t2 = T2 at q ⊢
  generalize strOfNums d2 = D2 at q ⊢
  have HBA : Hid (Below W.heap.size W (((W.alloc (.cells #[.int .i64 k1, .string T1, .int .i64 n1, .int .i64 m1, .int .i64 a1, .int .i64 p1, .string D1, .slice ad1 ks1.length cap1] 24)).alloc (.cells #[.int .i64 k2, .string T2, .int .i64 n2, .int .i64 m2, .int .i64 a2, .int .i64 p2, .string D2, .slice ad2 ks2.length cap2] 24)).alloc (.cells #[.func (.func 25) #[] #[.pointer (some ⟨W.heap.size + 2, 0, none⟩)]] 38))) := (((Below.refl _ _).alloc (Nat.le_refl _) _).alloc (by simp only [World.size_alloc]; omega) _).alloc (by simp only [World.size_alloc]; omega) _
  have Q : Hid _ := q _ HBA.out (alloc_at _ _ (by simp)) (by omega)
  clear q h hu hB
  go_enter Tryd.func13, Tryd.ntmps13
  go_wp2_with fail
  refine Calls.mono Q.out ?_
  rintro e w3 ⟨rfl, hb3⟩
  go_wp2
  go_ret
  exact ⟨rfl, HBA.out.trans (hb3.mono HBA.out.size)⟩

end Go.Proofs.YtgkablmglkagfaaDoor

/- Trees none of whose texts is long. -/
namespace Go.Proofs.YtgkablmglkagfaaDoor
set_option linter.unusedVariables false

/-- No text is long. -/
inductive TnShort : Tn → Prop
  | mk {kind : Int} {text : List Int} {n m a pos : Int} {doc : List Int} {ad : Option Addr} {cap : Nat} {kids : List Tn} (hl : (text.length : Int) ≤ 100000) (hk : ∀ (i : Nat) (t : Tn), kids[i]? = some t → TnShort t) : TnShort (.mk kind text n m a pos doc ad cap kids)

theorem tszs_low : ∀ (l : List Tn) (x d : Int), tszs l x d ≤ 400 → x ≤ 400
  | [], x, d, h => by rw [tszs] at h; exact h
  | k :: r, x, d, h => by
    rw [tszs] at h
    by_cases hx : 400 < x
    · rw [if_pos hx] at h; omega
    · omega

mutual
theorem tsz_short : ∀ (t : Tn) (x d : Int), tsz t x d ≤ 400 → TnShort t
  | .mk _ text _ _ _ _ doc _ _ kids, x, d, h => by
    rw [tsz] at h
    by_cases hx : 80 < d ∨ 2000 < (text.length : Int) ∨ 2000 < (doc.length : Int)
    · rw [if_pos hx] at h; omega
    · rw [if_neg hx] at h
      exact .mk (by omega) (tszs_short kids _ _ h)
theorem tszs_short : ∀ (l : List Tn) (x d : Int), tszs l x d ≤ 400 → ∀ (i : Nat) (t : Tn), l[i]? = some t → TnShort t
  | [], _, _, _, i, t, hi => by simp at hi
  | k :: r, x, d, h, i, t, hi => by
    rw [tszs] at h
    by_cases hx : 400 < x
    · rw [if_pos hx] at h; omega
    · rw [if_neg hx] at h
      cases i with
      | zero => simp at hi; rw [← hi]; exact tsz_short k x d (tszs_low _ _ _ h)
      | succ j => exact tszs_short r _ _ h j t (by simpa using hi)
end

theorem tfew_short {t : Tn} (h : tfew t = true) : TnShort t := tsz_short t 0 0 (of_decide_eq_true h)

end Go.Proofs.YtgkablmglkagfaaDoor

/- The contract of the document's own decimal digits (the reference's Digits), over the turned text. -/
namespace Go.Proofs.YtgkablmglkagfaaDoor
open Go.RowKit
set_option linter.unusedVariables false

/-- What holds at a round's beginning: the number that is left, the digits that are there, how many more there may be. -/
def DigJ (N n : Int) (D : List Int) (f : Nat) : Prop :=
  (D = [] ∧ n = N ∧ f = 20) ∨ (D ≠ [] ∧ n = 0 ∧ qdg 20 N = D) ∨ (D ≠ [] ∧ 0 < n ∧ qdg 20 N = qdg f n ++ D)

theorem DigJ.step {N n : Int} {D : List Int} {f : Nat} (h : DigJ N n D (f + 1)) (hn : 0 ≤ n) (hgo : 0 < n ∨ D = []) : DigJ N (n / 10) ((48 + n % 10) :: D) f := by
  have key : ∀ t, qdg 20 N = qdg (f + 1) n ++ t → DigJ N (n / 10) ((48 + n % 10) :: t) f := by
    intro t e
    by_cases k : n < 10
    · refine .inr (.inl ⟨by simp, by omega, ?_⟩)
      rw [e, qdg_ten f n k, show n % 10 = n by omega]
      rfl
    · refine .inr (.inr ⟨by simp, by omega, ?_⟩)
      rw [e, qdg_more f n (by omega)]
      simp
  rcases h with ⟨rfl, rfl, h⟩ | ⟨h1, h2, _⟩ | ⟨_, h2, h3⟩
  · exact key [] (by rw [h]; simp)
  · rcases hgo with h | h
    · omega
    · exact absurd h h1
  · exact key D h3

set_option maxHeartbeats 1000000 in
theorem rdig_any (N : Int) (w : World) (h0 : 0 ≤ N) (h1 : N ≤ 18446744073709551615) :
    Calls Tryd.prog 35 #[.int .u64 N] w fun e w' => e = .returned (.string (strOfNums (qdg 20 N))) ∧ w = w' := by
  go_enter Tryd.func35, Tryd.ntmps35
  go_wp2
  go_loopw [0, 3] (fun m v wr => ∃ (n : Int) (D : List Int) (f : Nat), m = .int .u64 n ∧ v = .string (strOfNums D) ∧ 0 ≤ n ∧ n ≤ 18446744073709551615 ∧ D.length + f ≤ 20 ∧ Hid (n < 10 ^ f) ∧ Hid (DigJ N n D f) ∧ wr = w)
    (fun m v _ => (intOf m).toNat + (match v with | .string b => if b.size = 0 then 1 else 0 | _ => 0))
  case atStart => exact ⟨N, [], 20, rfl, rfl, h0, h1, by simp, (by show N < 10 ^ 20; omega), .inl ⟨rfl, rfl, rfl⟩, rfl⟩
  case round =>
    obtain ⟨n, D, f, rfl, rfl, n0, n1, hD, HF, HJ, rfl⟩ := hrel
    by_cases hgo : 0 < n ∨ D = []
    · obtain ⟨g, rfl⟩ : ∃ g, f = g + 1 := by
        cases f with
        | zero =>
          have hf := HF.out
          simp at hf
          rcases HJ.out with ⟨_, _, h⟩ | ⟨h, h2, _⟩ | ⟨_, h2, _⟩
          · omega
          · rcases hgo with h' | h'
            · omega
            · exact absurd h' h
          · omega
        | succ g => exact ⟨g, rfl⟩
      have HF' : Hid (n / 10 < 10 ^ g) := by show _ < _; have := HF.out; rw [Int.pow_succ] at this; omega
      have HJ' : Hid (DigJ N (n / 10) ((48 + n % 10) :: D) g) := HJ.out.step n0 hgo
      have henc := enc_1 (48 + n % 10) (by omega) (by omega)
      have hadd := fun W => run_add W [48 + n % 10] D (by simp only [List.length_cons, List.length_nil]; omega)
      have hs1 := strOfNums_size ((48 + n % 10) :: D)
      simp only [List.cons_append, List.nil_append, List.length_cons] at hadd hs1
      have HS1 : Hid _ := hs1
      clear HF HJ hs1
      by_cases hn : 0 < n
      · clear hgo
        have HM : Hid ((intOf (.int .u64 (n / 10))).toNat < (intOf (.int .u64 n)).toNat) := by show (n / 10).toNat < n.toNat; omega
        go_wp2
        go_roundw
        case rel => exact ⟨n / 10, _, g, rfl, rfl, by omega, by omega, by simp only [List.length_cons]; omega, HF', HJ', by first | rfl | trivial⟩
        case measure =>
          have := HM.out; have e := HS1.out
          simp only [e]
          simp at this ⊢
          omega
      · have hD0 : D = [] := by rcases hgo with h | h; exact absurd h hn; exact h
        subst hD0
        obtain rfl : n = 0 := by omega
        have hne : ((strOfNums []).toList == []) = true := by rw [str_list]; rfl
        have hs0 : (strOfNums []).size = 0 := strOfNums_size []
        clear hgo
        have e48 : Utf8.encode 48 ++ strOfNums [] = strOfNums [48] := by rw [enc_1 48 (by omega) (by omega), str_app]; rfl
        have E48 : Hid _ := e48
        have s48 : (strOfNums [48]).size = 1 := strOfNums_size [48]
        clear e48 henc hadd HS1
        go_wp2
        rw [E48.out]
        go_roundw
        case rel => exact ⟨0, [48], g, rfl, rfl, by omega, by omega, by simp only [List.length_cons, List.length_nil] at hD ⊢; omega, HF', HJ', by first | rfl | trivial⟩
        case measure => simp [s48, hs0]
    · have hn : n = 0 := by omega
      subst hn
      have E : Hid (qdg 20 N = D) := by
        rcases HJ.out with ⟨h, _, _⟩ | ⟨_, _, h⟩ | ⟨_, h, _⟩
        · exact absurd (Or.inr h) hgo
        · exact h
        · omega
      have hne : ((strOfNums D).toList == []) = false := by
        cases D with
        | nil => exact absurd (Or.inr rfl) hgo
        | cons c r => exact str_ne c r
      clear HJ HF hgo
      go_wp2
      go_ret
      exact ⟨by rw [E.out]; rfl, rfl⟩

end Go.Proofs.YtgkablmglkagfaaDoor

/- The contract of the document's own quoted text (the reference's Text), over the turned text. -/
namespace Go.Proofs.YtgkablmglkagfaaDoor
open Go.RowKit
set_option linter.unusedVariables false
set_option linter.unusedSimpArgs false

theorem flat_take (zs : List Int) (k : Nat) (h : k < zs.length) : (zs.take (k + 1)).flatMap qch = (zs.take k).flatMap qch ++ qch (zs.getD k 0) := by
  rw [List.take_succ_eq_append_getElem h, List.flatMap_append]
  simp [List.getD, List.getElem?_eq_getElem h]

end Go.Proofs.YtgkablmglkagfaaDoor

/- The contracts of the program's own quote.appendSign and quote.Text, over the turned text. -/
namespace Go.Proofs.YtgkablmglkagfaaDoor
open Go.RowKit
set_option linter.unusedVariables false
set_option linter.unusedSimpArgs false

theorem lits_bs (w : World) (C : Array Value) (zs : List Int) (n : Nat) (hC : C.toList = zs.map (Value.int .u8)) (hn : zs.length = n) (h1 : n ≤ 1000) (hb : ∀ c ∈ zs, 0 ≤ c ∧ c ≤ 255) : Bs (w.alloc (.cells C 5)) (some ⟨w.heap.size, 0, none⟩) n n zs := by
  refine Bs.of_owns (zs := zs) (base := w.heap.size) (n := n) ?_ hb
  have hs : C.size = n := by
    have := congrArg List.length hC
    simp at this
    omega
  rw [← hC]
  exact lit_row w 5 C n hs h1

theorem own_alloc {W : World} {base e sz n : Nat} {v : Value} {xs : List Value} (h : W.ownsRow base e sz v n xs) (o : Obj) : (W.alloc o).ownsRow base e sz v n xs :=
  own_below h ((Below.refl _ _).alloc (Nat.le_refl _) _)

/-- What a way of appendSign ends in: the signs stand behind what was there. -/
def SignEnd (base n : Nat) (xs : List Value) (w : World) (o : List Int) (e : Ending) (w' : World) : Prop :=
  ∃ v', e = .returned v' ∧ w'.ownsRow base 5 1 v' (n + o.length) (xs ++ o.map (Value.int .u8)) ∧ Below base w w'

theorem and7_u8 : ∀ a : Fin 256, bits .and .u8 (a.val : Int) 7 = ((a.val % 8 : Nat) : Int) := by decide +kernel

theorem bits_and7 (x : Int) (h0 : 0 ≤ x) (h1 : x ≤ 255) : bits .and .u8 x 7 = x % 8 := by
  have := and7_u8 ⟨x.toNat, by omega⟩
  simp only at this
  rw [show ((x.toNat : Nat) : Int) = x by omega] at this
  rw [this]; omega

end Go.Proofs.YtgkablmglkagfaaDoor

/- The contracts of the program's own digits: the closure that quote.digitsOf answers, quote.takeDigits, over the turned text. -/
namespace Go.Proofs.YtgkablmglkagfaaDoor
open Go.RowKit
set_option linter.unusedVariables false
set_option linter.unusedSimpArgs false

/-- What the closure tells as a sign's worth: the base itself, if it is no digit. -/
def pdv (base c : Int) : Int := if dgt c = 99 then base else dgt c

theorem pdv_in {base c : Int} (h : dgt c < base) (hb : base ≤ 16) : pdv base c = dgt c := by unfold pdv; rw [if_neg (by omega)]

theorem pdv_bd (base c : Int) (h0 : 0 ≤ base) (h1 : base ≤ 16) : 0 ≤ pdv base c ∧ pdv base c ≤ 16 := by
  have h : dgt c = 99 ∨ (0 ≤ dgt c ∧ dgt c ≤ 15) := by unfold dgt; repeat' split <;> omega
  unfold pdv
  split <;> omega

theorem Below.drewN'' (w : World) : ∀ n, Below w.heap.size w (w.drewN n)
  | 0 => Below.refl _ _
  | n + 1 => (Below.drewN'' w n).drew

set_option maxHeartbeats 1000000 in
theorem pclo_1 (c base : Int) (g : Nat) (w : World) (h0 : 48 ≤ c) (h1 : c ≤ 57) (b0 : 0 ≤ base) (b1 : base ≤ 16) (hc : w.cell? ⟨g, 0, none⟩ = some (.int .u64 base)) :
    Calls Tryd.prog 78 #[.int .u8 c, .pointer (some ⟨g, 0, none⟩)] w fun e w' => e = .returned (.tuple #[.int .u64 (c - 48), .bool (decide (c - 48 < base))]) ∧ ∃ n, w' = w.drewN n := by
  go_enter Tryd.func78, Tryd.ntmps78
  go_wp2
  go_quiet (fail)
  rename_i K _ hK
  refine hK _ _ ?_
  go_wp2
  go_ret2
  exact ⟨rfl, _, rfl⟩

set_option maxHeartbeats 1000000 in
theorem pclo_2 (c base : Int) (g : Nat) (w : World) (h0 : 97 ≤ c) (h1 : c ≤ 102) (b0 : 0 ≤ base) (b1 : base ≤ 16) (hc : w.cell? ⟨g, 0, none⟩ = some (.int .u64 base)) :
    Calls Tryd.prog 78 #[.int .u8 c, .pointer (some ⟨g, 0, none⟩)] w fun e w' => e = .returned (.tuple #[.int .u64 (c - 97 + 10), .bool (decide (c - 97 + 10 < base))]) ∧ ∃ n, w' = w.drewN n := by
  have e1 : ¬ c ≤ 57 := by omega
  go_enter Tryd.func78, Tryd.ntmps78
  go_wp2
  go_quiet (fail)
  rename_i K _ hK
  refine hK _ _ ?_
  go_wp2
  go_ret2
  exact ⟨rfl, _, rfl⟩

set_option maxHeartbeats 1000000 in
theorem pclo_3 (c base : Int) (g : Nat) (w : World) (h0 : 65 ≤ c) (h1 : c ≤ 70) (b0 : 0 ≤ base) (b1 : base ≤ 16) (hc : w.cell? ⟨g, 0, none⟩ = some (.int .u64 base)) :
    Calls Tryd.prog 78 #[.int .u8 c, .pointer (some ⟨g, 0, none⟩)] w fun e w' => e = .returned (.tuple #[.int .u64 (c - 65 + 10), .bool (decide (c - 65 + 10 < base))]) ∧ ∃ n, w' = w.drewN n := by
  have e2 : ¬ 97 ≤ c := by omega
  have e1 : ¬ c ≤ 57 := by omega
  go_enter Tryd.func78, Tryd.ntmps78
  go_wp2
  go_quiet (fail)
  rename_i K _ hK
  refine hK _ _ ?_
  go_wp2
  go_ret2
  exact ⟨rfl, _, rfl⟩

set_option maxHeartbeats 1000000 in
theorem pclo_4 (c base : Int) (g : Nat) (w : World) (h0 : 0 ≤ c) (h1 : c ≤ 255) (k1 : ¬ (48 ≤ c ∧ c ≤ 57)) (k2 : ¬ (97 ≤ c ∧ c ≤ 102)) (k3 : ¬ (65 ≤ c ∧ c ≤ 70)) (b0 : 0 ≤ base) (b1 : base ≤ 16) (hc : w.cell? ⟨g, 0, none⟩ = some (.int .u64 base)) :
    Calls Tryd.prog 78 #[.int .u8 c, .pointer (some ⟨g, 0, none⟩)] w fun e w' => e = .returned (.tuple #[.int .u64 base, .bool false]) ∧ ∃ n, w' = w.drewN n := by
  have hways : c < 48 ∨ (57 < c ∧ c < 65) ∨ (70 < c ∧ c < 97) ∨ 102 < c := by omega
  clear k1 k2 k3
  rcases hways with h | ⟨h, h'⟩ | ⟨h, h'⟩ | h
  all_goals
    go_enter Tryd.func78, Tryd.ntmps78
    go_wp2
    go_quiet (fail)
    first | (rename_i K _ hK; refine hK _ _ ?_) | (rename_i K _ hK _; refine hK _ _ ?_) | (rename_i K _ hK _ _; refine hK _ _ ?_) | (rename_i K _ hK _ _ _; refine hK _ _ ?_)
    go_wp2
    go_ret2
    exact ⟨by simp, _, rfl⟩

theorem pclo_any (c base : Int) (g : Nat) (w : World) (h0 : 0 ≤ c) (h1 : c ≤ 255) (b0 : 0 ≤ base) (b1 : base ≤ 16) (hc : w.cell? ⟨g, 0, none⟩ = some (.int .u64 base)) :
    Calls Tryd.prog 78 #[.int .u8 c, .pointer (some ⟨g, 0, none⟩)] w fun e w' => e = .returned (.tuple #[.int .u64 (pdv base c), .bool (decide (dgt c < base))]) ∧ Below w.heap.size w w' := by
  have fin : ∀ (x : Int) (y : Bool), x = pdv base c → y = decide (dgt c < base) → Calls Tryd.prog 78 #[.int .u8 c, .pointer (some ⟨g, 0, none⟩)] w (fun e w' => e = .returned (.tuple #[.int .u64 x, .bool y]) ∧ ∃ n, w' = w.drewN n) →
      Calls Tryd.prog 78 #[.int .u8 c, .pointer (some ⟨g, 0, none⟩)] w fun e w' => e = .returned (.tuple #[.int .u64 (pdv base c), .bool (decide (dgt c < base))]) ∧ Below w.heap.size w w' := by
    intro x y hx hy h
    refine h.mono ?_
    rintro e w' ⟨rfl, n, rfl⟩
    exact ⟨by rw [hx, hy], Below.drewN'' _ _⟩
  by_cases k1 : 48 ≤ c ∧ c ≤ 57
  · have e := dgt_1 k1
    exact fin _ _ (by unfold pdv; rw [e, if_neg (by omega)]) (by rw [e]) (pclo_1 c base g w k1.1 k1.2 b0 b1 hc)
  by_cases k2 : 97 ≤ c ∧ c ≤ 102
  · have e := dgt_2 k2
    exact fin _ _ (by unfold pdv; rw [e, if_neg (by omega)]; omega) (by rw [e, show c - 97 + 10 = c - 87 by omega]) (pclo_2 c base g w k2.1 k2.2 b0 b1 hc)
  by_cases k3 : 65 ≤ c ∧ c ≤ 70
  · have e := dgt_3 k3
    exact fin _ _ (by unfold pdv; rw [e, if_neg (by omega)]; omega) (by rw [e, show c - 65 + 10 = c - 55 by omega]) (pclo_3 c base g w k3.1 k3.2 b0 b1 hc)
  · have e := dgt_4 k1 k2 k3
    exact fin _ _ (by unfold pdv; rw [e, if_pos rfl]) (by rw [e]; simp; omega) (pclo_4 c base g w h0 h1 k1 k2 k3 b0 b1 hc)

/-- What holds at takeDigits' label: k digits are read. -/
def DJ (w : World) (S : ByteArray) (zs : List Int) (base : Int) (most : Nat) (a' : Act) (w' : World) : Prop :=
  ∃ (n : Int) (k : Nat) (us : Nat → Value), a' = { tmps := #[.string S, .int .u32 base, .int .i64 (most : Int), undef, undef, undef, .int .u32 0, .int .i64 0, .func (.func 78) #[] #[.pointer (some ⟨w.heap.size, 0, none⟩)], .int .u32 n, .int .i64 (k : Int), us 11, us 12, us 13, us 14, us 15, us 16, us 17, us 18, us 19, us 20, us 21, us 22, us 23, us 24, us 25, us 26, us 27, us 28, us 29, us 30, us 31, us 32, us 33, us 34, us 35, us 36, us 37, us 38, us 39, us 40, us 41, us 42, us 43], defers := [] } ∧
    0 ≤ n ∧ k ≤ most ∧ k ≤ zs.length ∧ Hid (n < ((16 ^ k : Nat) : Int)) ∧ Hid (qrn base most zs 0 = ((qrn base (most - k) (zs.drop k) n).1, (qrn base (most - k) (zs.drop k) n).2 + k)) ∧ w.heap.size < w'.heap.size ∧ w'.cell? ⟨w.heap.size, 0, none⟩ = some (.int .u64 base) ∧ Below w.heap.size w w'

theorem DJ.mk {w : World} {S : ByteArray} {zs : List Int} {base : Int} {most : Nat} {a' : Act} {w' : World} (n : Int) (k : Nat) (us : Nat → Value) (_hu : us = fun k => a'.tmps.getD k undef)
    (h1 : a' = { tmps := #[.string S, .int .u32 base, .int .i64 (most : Int), undef, undef, undef, .int .u32 0, .int .i64 0, .func (.func 78) #[] #[.pointer (some ⟨w.heap.size, 0, none⟩)], .int .u32 n, .int .i64 (k : Int), us 11, us 12, us 13, us 14, us 15, us 16, us 17, us 18, us 19, us 20, us 21, us 22, us 23, us 24, us 25, us 26, us 27, us 28, us 29, us 30, us 31, us 32, us 33, us 34, us 35, us 36, us 37, us 38, us 39, us 40, us 41, us 42, us 43], defers := [] })
    (h2 : 0 ≤ n) (h3 : k ≤ most) (h4 : k ≤ zs.length) (h5 : n < ((16 ^ k : Nat) : Int)) (h6 : qrn base most zs 0 = ((qrn base (most - k) (zs.drop k) n).1, (qrn base (most - k) (zs.drop k) n).2 + k)) (h7 : w.heap.size < w'.heap.size) (h8 : w'.cell? ⟨w.heap.size, 0, none⟩ = some (.int .u64 base)) (h9 : Below w.heap.size w w') : DJ w S zs base most a' w' :=
  ⟨n, k, us, h1, h2, h3, h4, h5, h6, h7, h8, h9⟩

end Go.Proofs.YtgkablmglkagfaaDoor

/- Contracts of Go's own library at this program, each one application of the guide's: strings_HasPrefix. -/
namespace Go.Proofs.YtgkablmglkagfaaDoor
open Go.Shelf

def Sh.lays99_ren : Go.Shelf.Ren := ⟨fun | 99 => 77 | 206 => 76 | n => n, fun | 9 => 9 | 4 => 4 | 3 => 3 | n => n, fun | n => n⟩

theorem Sh.lays99 : Go.Proofs.Lays.n99 Tryd.prog Sh.lays99_ren := {
  mixed := by kernel_rfl
  f99 := Tryd.func77.trans (congrArg some (by kernel_rfl))
  f206 := Tryd.func76.trans (congrArg some (by kernel_rfl))
  t3 := Tryd.underlying3
  a3 := Tryd.isAgg3
  z3 := Tryd.sizeOf3
  v3 := Tryd.zeroValue3
  t4 := Tryd.underlying4
  a4 := Tryd.isAgg4
  z4 := Tryd.sizeOf4
  v4 := Tryd.zeroValue4
  t9 := Tryd.underlying9
  a9 := Tryd.isAgg9
  z9 := Tryd.sizeOf9
  v9 := Tryd.zeroValue9 }

open Go.RowKit Go.Lib in
theorem Sh.strings_HasPrefix (s p : ByteArray) (w : World) :
    Calls Tryd.prog 77 #[.string s, .string p] w fun e w' => e = .returned (.bool (Lib.hasPrefix s.data.toList p.data.toList)) ∧ w' = w := Any.strings_HasPrefix Sh.lays99 s p w

end Go.Proofs.YtgkablmglkagfaaDoor
