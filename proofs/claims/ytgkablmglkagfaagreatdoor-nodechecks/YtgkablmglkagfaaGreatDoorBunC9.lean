/- Put together by a program out of these texts of mine: TKidD. -/
import Derived.Test.YtgkablmglkagfaaGreatDoorBunC8

/- The contract of the reference's own kids: types and options, or none. -/
namespace Go.Proofs.YtgkablmglkagfaaGreatDoor
open Go.RowKit
set_option linter.unusedVariables false
set_option linter.unusedSimpArgs false

def tkd (ty : Int) : List Tn → Int → Bool
  | [], _ => true
  | .mk kd _ _ _ _ _ _ _ _ _ :: r, i => if ty = 0 ∨ (i < ty ∧ kd ≠ 18) ∨ (ty ≤ i ∧ kd ≠ 4) then false else tkd ty r (i + 1)

def ttext0 (l : List Tn) : List Int := match l[0]? with | some t => t.text | none => []

set_option maxRecDepth 10000 in
set_option maxHeartbeats 16000000 in
theorem rkidsD9 {w : World} {text : List Int} {n m a pos : Int} {doc : List Int} {ad : Option Addr} {cap : Nat} {kids : List Tn} (h : TnOk w (.mk 9 text n m a pos doc ad cap kids)) (W : World) (hB : Below w.heap.size w W) :
    Calls Tryz.prog 71 #[(Tn.mk 9 text n m a pos doc ad cap kids).val] W fun e W' => e = .returned (.bool (tkd 1 kids 0 && (decide ((1 : Int) ≤ kids.length)))) ∧ Below W.heap.size W W' := by
  cases h with
  | mk hkind htext htl hn hm ha hpos hdoc hdl hkl hcap hnone hmem hkids =>
  obtain ⟨R, hR⟩ : ∃ R : Bool, R = (tkd 1 kids 0 && (decide ((1 : Int) ≤ kids.length))) := ⟨_, rfl⟩
  rw [← hR]
  show Calls Tryz.prog 71 #[.agg #[.int .i64 9, .string (strOfNums text), .int .i64 n, .int .i64 m, .int .i64 a, .int .i64 pos, .string (strOfNums doc), .slice ad kids.length cap]] W fun e W' => e = .returned (.bool R) ∧ Below W.heap.size W W'
  generalize strOfNums text = T1
  generalize strOfNums doc = T2
  have HK : Hid (∀ (i : Nat) (t : Tn), kids[i]? = some t → TnOk w t) := hkids
  have HMem : Hid _ := hmem
  have HB0 : Hid (Below w.heap.size w W) := hB
  have HBA : Hid (Below W.heap.size W (W.alloc (.cells #[.int .i64 9, .string T1, .int .i64 n, .int .i64 m, .int .i64 a, .int .i64 pos, .string T2, .slice ad kids.length cap] 24))) := (Below.refl _ _).alloc (Nat.le_refl _) _
  have HR : Hid (R = (tkd 1 kids 0 && (decide ((1 : Int) ≤ kids.length)))) := hR
  clear hkids hmem hB htext hdoc hnone hR htl hdl
  obtain ⟨Z, hZ⟩ : ∃ Z : Bool, Z = (decide ((1 : Int) ≤ kids.length)) := ⟨_, rfl⟩
  have HZ : Hid (Z = (decide ((1 : Int) ≤ kids.length))) := hZ
  have HR0 : Hid (R = (tkd 1 (kids.drop 0) (0 : Nat) && Z)) := by show _ = _; rw [HR.out, hZ]; rfl
  clear HR hZ
  go_enter Tryz.func71, Tryz.ntmps71
  go_wp2
  go_loopw [154] (fun v wr => ∃ (k : Nat), v = .int .i64 (k : Int) ∧ k ≤ kids.length ∧ Hid (R = (tkd 1 (kids.drop k) (k : Nat) && Z)) ∧ Hid (Below (W.alloc (.cells #[.int .i64 9, .string T1, .int .i64 n, .int .i64 m, .int .i64 a, .int .i64 pos, .string T2, .slice ad kids.length cap] 24)).heap.size (W.alloc (.cells #[.int .i64 9, .string T1, .int .i64 n, .int .i64 m, .int .i64 a, .int .i64 pos, .string T2, .slice ad kids.length cap] 24)) wr)) (fun v _ => kids.length - (intOf v).toNat)
  case atStart => exact ⟨0, rfl, by omega, HR0, Below.refl _ _⟩
  case round =>
    obtain ⟨k, rfl, hk, HJ, HBw⟩ := hrel
    have o0 := own_cells HBw.out 0 _ rfl
    have hBW : Below W.heap.size W wr := HBA.out.trans (HBw.out.mono HBA.out.size)
    have hBB : Below w.heap.size w wr := HB0.out.trans (hBW.mono HB0.out.size)
    by_cases hkl2 : k < kids.length
    · obtain ⟨b, off, rfl, hlt, hc⟩ := HMem.out (by omega)
      obtain ⟨⟨kd, tx, n2, m2, a2, pos2, doc2, ad2, cap2, ks⟩, hkid⟩ : ∃ t, kids[k]? = some t := ⟨kids[k]'hkl2, List.getElem?_eq_getElem hkl2⟩
      obtain ⟨c0, c1, c2, c3, c4, c5, c6, c7⟩ := kid_cells hlt hBB hc hkid
      have hkd : i64b kd := by have := HK.out k _ hkid; cases this; assumption
      have HJ' := HJ.out
      rw [List.drop_eq_getElem_cons hkl2, show kids[k] = .mk kd tx n2 m2 a2 pos2 doc2 ad2 cap2 ks by rw [List.getElem?_eq_getElem hkl2] at hkid; exact Option.some.inj hkid, tkd] at HJ'
      generalize strOfNums tx = U1 at c1
      generalize strOfNums doc2 = U2 at c6
      have HBn : Hid (Below (W.alloc (.cells #[.int .i64 9, .string T1, .int .i64 n, .int .i64 m, .int .i64 a, .int .i64 pos, .string T2, .slice _ kids.length cap] 24)).heap.size (W.alloc (.cells #[.int .i64 9, .string T1, .int .i64 n, .int .i64 m, .int .i64 a, .int .i64 pos, .string T2, .slice _ kids.length cap] 24)) (wr.alloc (.cells #[.int .i64 kd, .string U1, .int .i64 n2, .int .i64 m2, .int .i64 a2, .int .i64 pos2, .string U2, .slice ad2 ks.length cap2] 24))) := HBw.out.alloc HBw.out.size _
      have HBf : Hid (Below W.heap.size W (wr.alloc (.cells #[.int .i64 kd, .string U1, .int .i64 n2, .int .i64 m2, .int .i64 a2, .int .i64 pos2, .string U2, .slice ad2 ks.length cap2] 24))) := hBW.alloc hBW.size _
      obtain ⟨hkd0, hkd1⟩ := hkd
      clear hc HJ hkid hBB hBW HBw o0
      by_cases hi : (k : Int) < 1
      · by_cases h18 : kd = 18
        · subst h18
          rw [if_neg (by simp; omega)] at HJ'
          have HE : Hid (R = (tkd 1 (kids.drop (k + 1)) ((k + 1 : Nat) : Int) && Z)) := HJ'
          clear HJ'
          go_wp2
          go_roundw
          case rel => first | exact ⟨k + 1, by go_num, by omega, HE, HBn⟩ | ((repeat apply Exists.intro); exact ⟨⟨k + 1, by go_num, by omega, HE, HBn⟩, rfl⟩)
          case measure => simp [intOf]; omega
        · rw [if_pos (.inr (.inl ⟨hi, h18⟩))] at HJ'
          have HE : Hid (R = false) := by show _ = _; rw [HJ']; rfl
          clear HJ'
          go_wp2
          go_ret
          exact ⟨by rw [HE.out]; rfl, HBf.out⟩
      · by_cases h4 : kd = 4
        · subst h4
          rw [if_neg (by simp; omega)] at HJ'
          have HE : Hid (R = (tkd 1 (kids.drop (k + 1)) ((k + 1 : Nat) : Int) && Z)) := HJ'
          clear HJ'
          go_wp2
          go_roundw
          case rel => first | exact ⟨k + 1, by go_num, by omega, HE, HBn⟩ | ((repeat apply Exists.intro); exact ⟨⟨k + 1, by go_num, by omega, HE, HBn⟩, rfl⟩)
          case measure => simp [intOf]; omega
        · rw [if_pos (.inr (.inr ⟨by omega, h4⟩))] at HJ'
          have HE : Hid (R = false) := by show _ = _; rw [HJ']; rfl
          clear HJ'
          go_wp2
          go_ret
          exact ⟨by rw [HE.out]; rfl, HBf.out⟩
    · obtain rfl : k = kids.length := by omega
      have HJ' := HJ.out
      rw [List.drop_length, tkd, HZ.out, Bool.true_and] at HJ'
      have HBF : Hid (Below W.heap.size W wr) := hBW
      by_cases hl : (1 : Int) ≤ kids.length
      · have HE : Hid (R = true) := by show _ = _; rw [HJ', decide_eq_true hl]
        clear HJ HJ' HZ hBB hBW
        go_wp2
        go_ret
        exact ⟨by rw [HE.out]; first | rfl | (simp <;> omega), HBF.out⟩
      · have HE : Hid (R = false) := by show _ = _; rw [HJ', decide_eq_false hl]
        clear HJ HJ' HZ hBB hBW
        go_wp2
        go_ret
        exact ⟨by rw [HE.out]; first | rfl | (simp <;> omega), HBF.out⟩

set_option maxRecDepth 10000 in
set_option maxHeartbeats 16000000 in
theorem rkidsD10 {w : World} {text : List Int} {n m a pos : Int} {doc : List Int} {ad : Option Addr} {cap : Nat} {kids : List Tn} (h : TnOk w (.mk 10 text n m a pos doc ad cap kids)) (W : World) (hB : Below w.heap.size w W) :
    Calls Tryz.prog 71 #[(Tn.mk 10 text n m a pos doc ad cap kids).val] W fun e W' => e = .returned (.bool (tkd 2 kids 0 && (decide ((2 : Int) ≤ kids.length) && decide (nword (ttext0 kids) ≠ 0)))) ∧ Below W.heap.size W W' := by
  cases h with
  | mk hkind htext htl hn hm ha hpos hdoc hdl hkl hcap hnone hmem hkids =>
  obtain ⟨R, hR⟩ : ∃ R : Bool, R = (tkd 2 kids 0 && (decide ((2 : Int) ≤ kids.length) && decide (nword (ttext0 kids) ≠ 0))) := ⟨_, rfl⟩
  rw [← hR]
  show Calls Tryz.prog 71 #[.agg #[.int .i64 10, .string (strOfNums text), .int .i64 n, .int .i64 m, .int .i64 a, .int .i64 pos, .string (strOfNums doc), .slice ad kids.length cap]] W fun e W' => e = .returned (.bool R) ∧ Below W.heap.size W W'
  generalize strOfNums text = T1
  generalize strOfNums doc = T2
  have HK : Hid (∀ (i : Nat) (t : Tn), kids[i]? = some t → TnOk w t) := hkids
  have HMem : Hid _ := hmem
  have HB0 : Hid (Below w.heap.size w W) := hB
  have HBA : Hid (Below W.heap.size W (W.alloc (.cells #[.int .i64 10, .string T1, .int .i64 n, .int .i64 m, .int .i64 a, .int .i64 pos, .string T2, .slice ad kids.length cap] 24))) := (Below.refl _ _).alloc (Nat.le_refl _) _
  have HR : Hid (R = (tkd 2 kids 0 && (decide ((2 : Int) ≤ kids.length) && decide (nword (ttext0 kids) ≠ 0)))) := hR
  clear hkids hmem hB htext hdoc hnone hR htl hdl
  obtain ⟨Z, hZ⟩ : ∃ Z : Bool, Z = (decide ((2 : Int) ≤ kids.length) && decide (nword (ttext0 kids) ≠ 0)) := ⟨_, rfl⟩
  have HZ : Hid (Z = (decide ((2 : Int) ≤ kids.length) && decide (nword (ttext0 kids) ≠ 0))) := hZ
  have HR0 : Hid (R = (tkd 2 (kids.drop 0) (0 : Nat) && Z)) := by show _ = _; rw [HR.out, hZ]; rfl
  clear HR hZ
  go_enter Tryz.func71, Tryz.ntmps71
  go_wp2
  go_loopw [154] (fun v wr => ∃ (k : Nat), v = .int .i64 (k : Int) ∧ k ≤ kids.length ∧ Hid (R = (tkd 2 (kids.drop k) (k : Nat) && Z)) ∧ Hid (Below (W.alloc (.cells #[.int .i64 10, .string T1, .int .i64 n, .int .i64 m, .int .i64 a, .int .i64 pos, .string T2, .slice ad kids.length cap] 24)).heap.size (W.alloc (.cells #[.int .i64 10, .string T1, .int .i64 n, .int .i64 m, .int .i64 a, .int .i64 pos, .string T2, .slice ad kids.length cap] 24)) wr)) (fun v _ => kids.length - (intOf v).toNat)
  case atStart => exact ⟨0, rfl, by omega, HR0, Below.refl _ _⟩
  case round =>
    obtain ⟨k, rfl, hk, HJ, HBw⟩ := hrel
    have o0 := own_cells HBw.out 0 _ rfl
    have hBW : Below W.heap.size W wr := HBA.out.trans (HBw.out.mono HBA.out.size)
    have hBB : Below w.heap.size w wr := HB0.out.trans (hBW.mono HB0.out.size)
    by_cases hkl2 : k < kids.length
    · obtain ⟨b, off, rfl, hlt, hc⟩ := HMem.out (by omega)
      obtain ⟨⟨kd, tx, n2, m2, a2, pos2, doc2, ad2, cap2, ks⟩, hkid⟩ : ∃ t, kids[k]? = some t := ⟨kids[k]'hkl2, List.getElem?_eq_getElem hkl2⟩
      obtain ⟨c0, c1, c2, c3, c4, c5, c6, c7⟩ := kid_cells hlt hBB hc hkid
      have hkd : i64b kd := by have := HK.out k _ hkid; cases this; assumption
      have HJ' := HJ.out
      rw [List.drop_eq_getElem_cons hkl2, show kids[k] = .mk kd tx n2 m2 a2 pos2 doc2 ad2 cap2 ks by rw [List.getElem?_eq_getElem hkl2] at hkid; exact Option.some.inj hkid, tkd] at HJ'
      generalize strOfNums tx = U1 at c1
      generalize strOfNums doc2 = U2 at c6
      have HBn : Hid (Below (W.alloc (.cells #[.int .i64 10, .string T1, .int .i64 n, .int .i64 m, .int .i64 a, .int .i64 pos, .string T2, .slice _ kids.length cap] 24)).heap.size (W.alloc (.cells #[.int .i64 10, .string T1, .int .i64 n, .int .i64 m, .int .i64 a, .int .i64 pos, .string T2, .slice _ kids.length cap] 24)) (wr.alloc (.cells #[.int .i64 kd, .string U1, .int .i64 n2, .int .i64 m2, .int .i64 a2, .int .i64 pos2, .string U2, .slice ad2 ks.length cap2] 24))) := HBw.out.alloc HBw.out.size _
      have HBf : Hid (Below W.heap.size W (wr.alloc (.cells #[.int .i64 kd, .string U1, .int .i64 n2, .int .i64 m2, .int .i64 a2, .int .i64 pos2, .string U2, .slice ad2 ks.length cap2] 24))) := hBW.alloc hBW.size _
      obtain ⟨hkd0, hkd1⟩ := hkd
      clear hc HJ hkid hBB hBW HBw o0
      by_cases hi : (k : Int) < 2
      · by_cases h18 : kd = 18
        · subst h18
          rw [if_neg (by simp; omega)] at HJ'
          have HE : Hid (R = (tkd 2 (kids.drop (k + 1)) ((k + 1 : Nat) : Int) && Z)) := HJ'
          clear HJ'
          go_wp2
          go_roundw
          case rel => first | exact ⟨k + 1, by go_num, by omega, HE, HBn⟩ | ((repeat apply Exists.intro); exact ⟨⟨k + 1, by go_num, by omega, HE, HBn⟩, rfl⟩)
          case measure => simp [intOf]; omega
        · rw [if_pos (.inr (.inl ⟨hi, h18⟩))] at HJ'
          have HE : Hid (R = false) := by show _ = _; rw [HJ']; rfl
          clear HJ'
          go_wp2
          go_ret
          exact ⟨by rw [HE.out]; rfl, HBf.out⟩
      · by_cases h4 : kd = 4
        · subst h4
          rw [if_neg (by simp; omega)] at HJ'
          have HE : Hid (R = (tkd 2 (kids.drop (k + 1)) ((k + 1 : Nat) : Int) && Z)) := HJ'
          clear HJ'
          go_wp2
          go_roundw
          case rel => first | exact ⟨k + 1, by go_num, by omega, HE, HBn⟩ | ((repeat apply Exists.intro); exact ⟨⟨k + 1, by go_num, by omega, HE, HBn⟩, rfl⟩)
          case measure => simp [intOf]; omega
        · rw [if_pos (.inr (.inr ⟨by omega, h4⟩))] at HJ'
          have HE : Hid (R = false) := by show _ = _; rw [HJ']; rfl
          clear HJ'
          go_wp2
          go_ret
          exact ⟨by rw [HE.out]; rfl, HBf.out⟩
    · obtain rfl : k = kids.length := by omega
      have HJ' := HJ.out
      rw [List.drop_length, tkd, HZ.out, Bool.true_and] at HJ'
      have HBF : Hid (Below W.heap.size W wr) := hBW
      by_cases hl : (2 : Int) ≤ kids.length
      · obtain ⟨b, off, rfl, hlt, hc⟩ := HMem.out (by omega)
        have hkl0 : 0 < kids.length := by omega
        obtain ⟨⟨kd, tx, n2, m2, a2, pos2, doc2, ad2, cap2, ks⟩, hkid⟩ : ∃ t, kids[0]? = some t := ⟨kids[0]'hkl0, List.getElem?_eq_getElem hkl0⟩
        have c1 := (kid_cells hlt hBB hc hkid).2.1
        rw [Nat.zero_mul, Nat.add_zero] at c1
        have htx : byts tx := by have := HK.out 0 _ hkid; cases this; assumption
        have q := fun W => rword_any tx W htx
        have HJ2 : R = decide (nword tx ≠ 0) := by rw [HJ', decide_eq_true hl, show ttext0 kids = tx by unfold ttext0; rw [hkid]; rfl]; rfl
        generalize nword tx = N at q HJ2
        generalize strOfNums tx = U1 at c1 q
        have Q : Hid _ := q
        clear q hc hkid HJ HJ' hBB hBW HZ htx
        by_cases hN : N = 0
        · subst hN
          have HE : Hid (R = false) := by show _ = _; rw [HJ2]; rfl
          clear HJ2
          go_wp2_with fail
          refine Calls.mono (Q.out _) ?_
          rintro e w2 ⟨rfl, hb2⟩
          go_wp2
          go_ret
          exact ⟨by rw [HE.out]; first | rfl | (simp <;> omega), HBF.out.trans (hb2.mono HBF.out.size)⟩
        · have HE : Hid (R = true) := by show _ = _; rw [HJ2]; exact decide_eq_true hN
          have hN' : ¬ (N : Int) = 0 := by omega
          clear HJ2
          go_wp2_with fail
          refine Calls.mono (Q.out _) ?_
          rintro e w2 ⟨rfl, hb2⟩
          go_wp2
          go_ret
          exact ⟨by rw [HE.out]; first | rfl | (simp <;> omega), HBF.out.trans (hb2.mono HBF.out.size)⟩
      · have HE : Hid (R = false) := by show _ = _; rw [HJ', decide_eq_false hl]; rfl
        clear HJ HJ' HZ hBB hBW
        go_wp2
        go_ret
        exact ⟨by rw [HE.out]; first | rfl | (simp <;> omega), HBF.out⟩

set_option maxRecDepth 10000 in
set_option maxHeartbeats 16000000 in
theorem rkidsD17 {w : World} {text : List Int} {n m a pos : Int} {doc : List Int} {ad : Option Addr} {cap : Nat} {kids : List Tn} (h : TnOk w (.mk 17 text n m a pos doc ad cap kids)) (W : World) (hB : Below w.heap.size w W) :
    Calls Tryz.prog 71 #[(Tn.mk 17 text n m a pos doc ad cap kids).val] W fun e W' => e = .returned (.bool (tkd 2 kids 0 && (decide ((2 : Int) ≤ kids.length)))) ∧ Below W.heap.size W W' := by
  cases h with
  | mk hkind htext htl hn hm ha hpos hdoc hdl hkl hcap hnone hmem hkids =>
  obtain ⟨R, hR⟩ : ∃ R : Bool, R = (tkd 2 kids 0 && (decide ((2 : Int) ≤ kids.length))) := ⟨_, rfl⟩
  rw [← hR]
  show Calls Tryz.prog 71 #[.agg #[.int .i64 17, .string (strOfNums text), .int .i64 n, .int .i64 m, .int .i64 a, .int .i64 pos, .string (strOfNums doc), .slice ad kids.length cap]] W fun e W' => e = .returned (.bool R) ∧ Below W.heap.size W W'
  generalize strOfNums text = T1
  generalize strOfNums doc = T2
  have HK : Hid (∀ (i : Nat) (t : Tn), kids[i]? = some t → TnOk w t) := hkids
  have HMem : Hid _ := hmem
  have HB0 : Hid (Below w.heap.size w W) := hB
  have HBA : Hid (Below W.heap.size W (W.alloc (.cells #[.int .i64 17, .string T1, .int .i64 n, .int .i64 m, .int .i64 a, .int .i64 pos, .string T2, .slice ad kids.length cap] 24))) := (Below.refl _ _).alloc (Nat.le_refl _) _
  have HR : Hid (R = (tkd 2 kids 0 && (decide ((2 : Int) ≤ kids.length)))) := hR
  clear hkids hmem hB htext hdoc hnone hR htl hdl
  obtain ⟨Z, hZ⟩ : ∃ Z : Bool, Z = (decide ((2 : Int) ≤ kids.length)) := ⟨_, rfl⟩
  have HZ : Hid (Z = (decide ((2 : Int) ≤ kids.length))) := hZ
  have HR0 : Hid (R = (tkd 2 (kids.drop 0) (0 : Nat) && Z)) := by show _ = _; rw [HR.out, hZ]; rfl
  clear HR hZ
  go_enter Tryz.func71, Tryz.ntmps71
  go_wp2
  go_loopw [154] (fun v wr => ∃ (k : Nat), v = .int .i64 (k : Int) ∧ k ≤ kids.length ∧ Hid (R = (tkd 2 (kids.drop k) (k : Nat) && Z)) ∧ Hid (Below (W.alloc (.cells #[.int .i64 17, .string T1, .int .i64 n, .int .i64 m, .int .i64 a, .int .i64 pos, .string T2, .slice ad kids.length cap] 24)).heap.size (W.alloc (.cells #[.int .i64 17, .string T1, .int .i64 n, .int .i64 m, .int .i64 a, .int .i64 pos, .string T2, .slice ad kids.length cap] 24)) wr)) (fun v _ => kids.length - (intOf v).toNat)
  case atStart => exact ⟨0, rfl, by omega, HR0, Below.refl _ _⟩
  case round =>
    obtain ⟨k, rfl, hk, HJ, HBw⟩ := hrel
    have o0 := own_cells HBw.out 0 _ rfl
    have hBW : Below W.heap.size W wr := HBA.out.trans (HBw.out.mono HBA.out.size)
    have hBB : Below w.heap.size w wr := HB0.out.trans (hBW.mono HB0.out.size)
    by_cases hkl2 : k < kids.length
    · obtain ⟨b, off, rfl, hlt, hc⟩ := HMem.out (by omega)
      obtain ⟨⟨kd, tx, n2, m2, a2, pos2, doc2, ad2, cap2, ks⟩, hkid⟩ : ∃ t, kids[k]? = some t := ⟨kids[k]'hkl2, List.getElem?_eq_getElem hkl2⟩
      obtain ⟨c0, c1, c2, c3, c4, c5, c6, c7⟩ := kid_cells hlt hBB hc hkid
      have hkd : i64b kd := by have := HK.out k _ hkid; cases this; assumption
      have HJ' := HJ.out
      rw [List.drop_eq_getElem_cons hkl2, show kids[k] = .mk kd tx n2 m2 a2 pos2 doc2 ad2 cap2 ks by rw [List.getElem?_eq_getElem hkl2] at hkid; exact Option.some.inj hkid, tkd] at HJ'
      generalize strOfNums tx = U1 at c1
      generalize strOfNums doc2 = U2 at c6
      have HBn : Hid (Below (W.alloc (.cells #[.int .i64 17, .string T1, .int .i64 n, .int .i64 m, .int .i64 a, .int .i64 pos, .string T2, .slice _ kids.length cap] 24)).heap.size (W.alloc (.cells #[.int .i64 17, .string T1, .int .i64 n, .int .i64 m, .int .i64 a, .int .i64 pos, .string T2, .slice _ kids.length cap] 24)) (wr.alloc (.cells #[.int .i64 kd, .string U1, .int .i64 n2, .int .i64 m2, .int .i64 a2, .int .i64 pos2, .string U2, .slice ad2 ks.length cap2] 24))) := HBw.out.alloc HBw.out.size _
      have HBf : Hid (Below W.heap.size W (wr.alloc (.cells #[.int .i64 kd, .string U1, .int .i64 n2, .int .i64 m2, .int .i64 a2, .int .i64 pos2, .string U2, .slice ad2 ks.length cap2] 24))) := hBW.alloc hBW.size _
      obtain ⟨hkd0, hkd1⟩ := hkd
      clear hc HJ hkid hBB hBW HBw o0
      by_cases hi : (k : Int) < 2
      · by_cases h18 : kd = 18
        · subst h18
          rw [if_neg (by simp; omega)] at HJ'
          have HE : Hid (R = (tkd 2 (kids.drop (k + 1)) ((k + 1 : Nat) : Int) && Z)) := HJ'
          clear HJ'
          go_wp2
          go_roundw
          case rel => first | exact ⟨k + 1, by go_num, by omega, HE, HBn⟩ | ((repeat apply Exists.intro); exact ⟨⟨k + 1, by go_num, by omega, HE, HBn⟩, rfl⟩)
          case measure => simp [intOf]; omega
        · rw [if_pos (.inr (.inl ⟨hi, h18⟩))] at HJ'
          have HE : Hid (R = false) := by show _ = _; rw [HJ']; rfl
          clear HJ'
          go_wp2
          go_ret
          exact ⟨by rw [HE.out]; rfl, HBf.out⟩
      · by_cases h4 : kd = 4
        · subst h4
          rw [if_neg (by simp; omega)] at HJ'
          have HE : Hid (R = (tkd 2 (kids.drop (k + 1)) ((k + 1 : Nat) : Int) && Z)) := HJ'
          clear HJ'
          go_wp2
          go_roundw
          case rel => first | exact ⟨k + 1, by go_num, by omega, HE, HBn⟩ | ((repeat apply Exists.intro); exact ⟨⟨k + 1, by go_num, by omega, HE, HBn⟩, rfl⟩)
          case measure => simp [intOf]; omega
        · rw [if_pos (.inr (.inr ⟨by omega, h4⟩))] at HJ'
          have HE : Hid (R = false) := by show _ = _; rw [HJ']; rfl
          clear HJ'
          go_wp2
          go_ret
          exact ⟨by rw [HE.out]; rfl, HBf.out⟩
    · obtain rfl : k = kids.length := by omega
      have HJ' := HJ.out
      rw [List.drop_length, tkd, HZ.out, Bool.true_and] at HJ'
      have HBF : Hid (Below W.heap.size W wr) := hBW
      by_cases hl : (2 : Int) ≤ kids.length
      · have HE : Hid (R = true) := by show _ = _; rw [HJ', decide_eq_true hl]
        clear HJ HJ' HZ hBB hBW
        go_wp2
        go_ret
        exact ⟨by rw [HE.out]; first | rfl | (simp <;> omega), HBF.out⟩
      · have HE : Hid (R = false) := by show _ = _; rw [HJ', decide_eq_false hl]
        clear HJ HJ' HZ hBB hBW
        go_wp2
        go_ret
        exact ⟨by rw [HE.out]; first | rfl | (simp <;> omega), HBF.out⟩

set_option maxRecDepth 10000 in
set_option maxHeartbeats 16000000 in
theorem rkidsD0 {w : World} {kind : Int} {text : List Int} {n m a pos : Int} {doc : List Int} {ad : Option Addr} {cap : Nat} {kids : List Tn} (h : TnOk w (.mk kind text n m a pos doc ad cap kids)) (W : World) (hB : Below w.heap.size w W) (n1 : kind ≠ 1) (n5 : kind ≠ 5) (n6 : kind ≠ 6) (n7 : kind ≠ 7) (n8 : kind ≠ 8) (n11 : kind ≠ 11) (n12 : kind ≠ 12) (n23 : kind ≠ 23) (n16 : kind ≠ 16) (n13 : kind ≠ 13) (n4 : kind ≠ 4) (n24 : kind ≠ 24) (n9 : kind ≠ 9) (n10 : kind ≠ 10) (n17 : kind ≠ 17) :
    Calls Tryz.prog 71 #[(Tn.mk kind text n m a pos doc ad cap kids).val] W fun e W' => e = .returned (.bool (tkd 0 kids 0 && (decide ((0 : Int) ≤ kids.length)))) ∧ Below W.heap.size W W' := by
  cases h with
  | mk hkind htext htl hn hm ha hpos hdoc hdl hkl hcap hnone hmem hkids =>
  obtain ⟨R, hR⟩ : ∃ R : Bool, R = (tkd 0 kids 0 && (decide ((0 : Int) ≤ kids.length))) := ⟨_, rfl⟩
  rw [← hR]
  show Calls Tryz.prog 71 #[.agg #[.int .i64 kind, .string (strOfNums text), .int .i64 n, .int .i64 m, .int .i64 a, .int .i64 pos, .string (strOfNums doc), .slice ad kids.length cap]] W fun e W' => e = .returned (.bool R) ∧ Below W.heap.size W W'
  generalize strOfNums text = T1
  generalize strOfNums doc = T2
  have HK : Hid (∀ (i : Nat) (t : Tn), kids[i]? = some t → TnOk w t) := hkids
  have HMem : Hid _ := hmem
  have HB0 : Hid (Below w.heap.size w W) := hB
  have HBA : Hid (Below W.heap.size W (W.alloc (.cells #[.int .i64 kind, .string T1, .int .i64 n, .int .i64 m, .int .i64 a, .int .i64 pos, .string T2, .slice ad kids.length cap] 24))) := (Below.refl _ _).alloc (Nat.le_refl _) _
  have HR : Hid (R = (tkd 0 kids 0 && (decide ((0 : Int) ≤ kids.length)))) := hR
  clear hkids hmem hB htext hdoc hnone hR htl hdl
  obtain ⟨hkk0, hkk1⟩ := hkind
  obtain ⟨Z, hZ⟩ : ∃ Z : Bool, Z = (decide ((0 : Int) ≤ kids.length)) := ⟨_, rfl⟩
  have HZ : Hid (Z = (decide ((0 : Int) ≤ kids.length))) := hZ
  have HR0 : Hid (R = (tkd 0 (kids.drop 0) (0 : Nat) && Z)) := by show _ = _; rw [HR.out, hZ]; rfl
  clear HR hZ
  go_enter Tryz.func71, Tryz.ntmps71
  go_wp2
  go_loopw [154] (fun v wr => ∃ (k : Nat), v = .int .i64 (k : Int) ∧ k ≤ kids.length ∧ Hid (R = (tkd 0 (kids.drop k) (k : Nat) && Z)) ∧ Hid (Below (W.alloc (.cells #[.int .i64 kind, .string T1, .int .i64 n, .int .i64 m, .int .i64 a, .int .i64 pos, .string T2, .slice ad kids.length cap] 24)).heap.size (W.alloc (.cells #[.int .i64 kind, .string T1, .int .i64 n, .int .i64 m, .int .i64 a, .int .i64 pos, .string T2, .slice ad kids.length cap] 24)) wr)) (fun v _ => kids.length - (intOf v).toNat)
  case atStart => exact ⟨0, rfl, by omega, HR0, Below.refl _ _⟩
  case round =>
    obtain ⟨k, rfl, hk, HJ, HBw⟩ := hrel
    have o0 := own_cells HBw.out 0 _ rfl
    have hBW : Below W.heap.size W wr := HBA.out.trans (HBw.out.mono HBA.out.size)
    have hBB : Below w.heap.size w wr := HB0.out.trans (hBW.mono HB0.out.size)
    by_cases hkl2 : k < kids.length
    · obtain ⟨b, off, rfl, hlt, hc⟩ := HMem.out (by omega)
      obtain ⟨⟨kd, tx, n2, m2, a2, pos2, doc2, ad2, cap2, ks⟩, hkid⟩ : ∃ t, kids[k]? = some t := ⟨kids[k]'hkl2, List.getElem?_eq_getElem hkl2⟩
      obtain ⟨c0, c1, c2, c3, c4, c5, c6, c7⟩ := kid_cells hlt hBB hc hkid
      have hkd : i64b kd := by have := HK.out k _ hkid; cases this; assumption
      have HJ' := HJ.out
      rw [List.drop_eq_getElem_cons hkl2, show kids[k] = .mk kd tx n2 m2 a2 pos2 doc2 ad2 cap2 ks by rw [List.getElem?_eq_getElem hkl2] at hkid; exact Option.some.inj hkid, tkd] at HJ'
      generalize strOfNums tx = U1 at c1
      generalize strOfNums doc2 = U2 at c6
      have HBn : Hid (Below (W.alloc (.cells #[.int .i64 kind, .string T1, .int .i64 n, .int .i64 m, .int .i64 a, .int .i64 pos, .string T2, .slice _ kids.length cap] 24)).heap.size (W.alloc (.cells #[.int .i64 kind, .string T1, .int .i64 n, .int .i64 m, .int .i64 a, .int .i64 pos, .string T2, .slice _ kids.length cap] 24)) (wr.alloc (.cells #[.int .i64 kd, .string U1, .int .i64 n2, .int .i64 m2, .int .i64 a2, .int .i64 pos2, .string U2, .slice ad2 ks.length cap2] 24))) := HBw.out.alloc HBw.out.size _
      have HBf : Hid (Below W.heap.size W (wr.alloc (.cells #[.int .i64 kd, .string U1, .int .i64 n2, .int .i64 m2, .int .i64 a2, .int .i64 pos2, .string U2, .slice ad2 ks.length cap2] 24))) := hBW.alloc hBW.size _
      obtain ⟨hkd0, hkd1⟩ := hkd
      clear hc HJ hkid hBB hBW HBw o0
      rw [if_pos (.inl rfl)] at HJ'
      have HE : Hid (R = false) := by show _ = _; rw [HJ']; rfl
      clear HJ'
      go_wp2
      go_ret
      exact ⟨by rw [HE.out]; rfl, HBf.out⟩
    · obtain rfl : k = kids.length := by omega
      have HJ' := HJ.out
      rw [List.drop_length, tkd, HZ.out, Bool.true_and] at HJ'
      have HBF : Hid (Below W.heap.size W wr) := hBW
      by_cases hl : (0 : Int) ≤ kids.length
      · have HE : Hid (R = true) := by show _ = _; rw [HJ', decide_eq_true hl]
        clear HJ HJ' HZ hBB hBW
        go_wp2
        go_ret
        exact ⟨by rw [HE.out]; first | rfl | (simp <;> omega), HBF.out⟩
      · have HE : Hid (R = false) := by show _ = _; rw [HJ', decide_eq_false hl]
        clear HJ HJ' HZ hBB hBW
        go_wp2
        go_ret
        exact ⟨by rw [HE.out]; first | rfl | (simp <;> omega), HBF.out⟩

end Go.Proofs.YtgkablmglkagfaaGreatDoor
