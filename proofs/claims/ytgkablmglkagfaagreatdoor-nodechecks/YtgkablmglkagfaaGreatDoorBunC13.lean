/- Put together by a program out of these texts of mine: TOwnN, TOwn5, TRight, TCheck. -/
import Derived.Test.YtgkablmglkagfaaGreatDoorBunC4
import Derived.Test.YtgkablmglkagfaaGreatDoorBunC10
import Derived.Test.YtgkablmglkagfaaGreatDoorBunC11
import Derived.Test.YtgkablmglkagfaaGreatDoorBunC12

/- The reference's own own. -/
namespace Go.Proofs.YtgkablmglkagfaaGreatDoor
open Go.RowKit
set_option linter.unusedVariables false
set_option linter.unusedSimpArgs false

set_option maxRecDepth 10000 in
set_option maxHeartbeats 8000000 in
theorem own_n (kind : Int) (n m a pos : Int) (T1 T2 : ByteArray) (ad : Option Addr) (len cap : Nat) (W : World) (D TB NB KB : Bool) (dl : Nat) (hk : i64b kind) (ha : i64b a) (hn : i64b n) (hm : i64b m) (hp : i64b pos) (hpos : ¬ pos < 0) (hd : docFit T2 dl D) (h0 : m = 0) (h1 : n ≠ 0) (n14 : kind ≠ 14) (n9 : kind ≠ 9) (n10 : kind ≠ 10) (n16 : kind ≠ 16)
    (QD : Hid (∀ V, Calls Tryz.prog 68 #[.int .i64 kind] V fun e w' => e = .returned (.bool D) ∧ V = w'))
    (QT : Hid (∀ V, Below W.heap.size W V → Calls Tryz.prog 69 #[.agg #[.int .i64 kind, .string T1, .int .i64 n, .int .i64 m, .int .i64 a, .int .i64 pos, .string T2, .slice ad len cap]] V fun e w' => e = .returned (.bool TB) ∧ Below V.heap.size V w'))
    (QN : Hid (∀ V, Below W.heap.size W V → Calls Tryz.prog 70 #[.agg #[.int .i64 kind, .string T1, .int .i64 n, .int .i64 m, .int .i64 a, .int .i64 pos, .string T2, .slice ad len cap]] V fun e w' => e = .returned (.bool NB) ∧ Below V.heap.size V w'))
    (QK : Hid (∀ V, Below W.heap.size W V → Calls Tryz.prog 71 #[.agg #[.int .i64 kind, .string T1, .int .i64 n, .int .i64 m, .int .i64 a, .int .i64 pos, .string T2, .slice ad len cap]] V fun e w' => e = .returned (.bool KB) ∧ Below V.heap.size V w')) :
    Calls Tryz.prog 52 #[.agg #[.int .i64 kind, .string T1, .int .i64 n, .int .i64 m, .int .i64 a, .int .i64 pos, .string T2, .slice ad len cap]] W fun e W' => e = .returned (.bool (false)) ∧ Below W.heap.size W W' := by
  have HBA : Hid (Below W.heap.size W (W.alloc (.cells #[.int .i64 kind, .string T1, .int .i64 n, .int .i64 m, .int .i64 a, .int .i64 pos, .string T2, .slice ad len cap] 24))) := (Below.refl _ _).alloc (Nat.le_refl _) _
  obtain ⟨hk0, hk1⟩ := hk
  obtain ⟨ha0, ha1⟩ := ha
  obtain ⟨hn0, hn1⟩ := hn
  obtain ⟨hm0, hm1⟩ := hm
  obtain ⟨hp0, hp1⟩ := hp
  subst h0
  have b14 : (kind != 14) = true := by simpa using n14
  have b9 : (kind != 9) = true := by simpa using n9
  have b10 : (kind != 10) = true := by simpa using n10
  have b16 : (kind != 16) = true := by simpa using n16
  have bn : (n != 0) = true := by simpa using h1
  clear n14 n9 n10 n16 h1
  rcases hd with s0 | ⟨s0, rfl, hsz, hdl, hd9, hh, hat⟩
  · go_enter Tryz.func52, Tryz.ntmps52
    go_wp2
    go_ret
    exact ⟨rfl, HBA.out⟩
  · have hcast : (dl : Int) - 1 = ((dl - 1 : Nat) : Int) := by omega
    go_enter Tryz.func52, Tryz.ntmps52
    go_wp2_with fail
    refine Calls.mono (QD.out _) ?_
    rintro e w9 ⟨rfl, rfl⟩
    go_wp2
    go_ret
    exact ⟨rfl, HBA.out⟩

end Go.Proofs.YtgkablmglkagfaaGreatDoor

/- The reference's own own, whole. -/
namespace Go.Proofs.YtgkablmglkagfaaGreatDoor
open Go.RowKit
set_option linter.unusedVariables false
set_option linter.unusedSimpArgs false

theorem rown_any {w : World} {kind : Int} {text : List Int} {n m a pos : Int} {doc : List Int} {ad : Option Addr} {cap : Nat} {kids : List Tn} (h : TnOk w (.mk kind text n m a pos doc ad cap kids)) (hlen : (text.length : Int) ≤ 100000) (W : World) (hB : Below w.heap.size w W) :
    Calls Tryz.prog 52 #[(Tn.mk kind text n m a pos doc ad cap kids).val] W fun e W' => e = .returned (.bool (town (.mk kind text n m a pos doc ad cap kids))) ∧ Below W.heap.size W W' := by
  have h' := h
  cases h' with
  | mk hkind htext htl hn hm ha hpos hdoc hdl hkl hcap hnone hmem hkids =>
  show Calls Tryz.prog 52 #[.agg #[.int .i64 kind, .string (strOfNums text), .int .i64 n, .int .i64 m, .int .i64 a, .int .i64 pos, .string (strOfNums doc), .slice ad kids.length cap]] W fun e W' => e = .returned (.bool (town (.mk kind text n m a pos doc ad cap kids))) ∧ Below W.heap.size W W'
  rw [town]
  by_cases hbad : pos < 0 ∨ ¬ tdocOk kind doc
  · rw [if_pos hbad]
    exact rown_bad kind n m a pos (strOfNums text) doc ad kids.length cap W hkind hpos (getD_bd hdoc) hdl hbad
  rw [if_neg hbad]
  have hp : ¬ pos < 0 := fun h => hbad (.inl h)
  have hdok : tdocOk kind doc := Decidable.byContradiction fun h => hbad (.inr h)
  have hd : docFit (strOfNums doc) doc.length (tdocd kind) := by
    by_cases hne : doc = []
    · left; rw [hne, str_list]; rfl
    · rcases hdok with h | ⟨h1, h2, h3⟩
      · exact absurd h hne
      · obtain ⟨e1, e2, e3, e4⟩ := last_sign doc (getD_bd hdoc) _ rfl hne
        exact .inr ⟨e1, h1, e2, e3, h3, by omega, by rw [e4 (by omega), h2]⟩
  have QD : Hid (∀ V, Calls Tryz.prog 68 #[.int .i64 kind] V fun e w' => e = .returned (.bool (tdocd kind)) ∧ V = w') := fun V => rdocd_any kind V hkind
  have QT : Hid (∀ V, Below W.heap.size W V → Calls Tryz.prog 69 #[.agg #[.int .i64 kind, .string (strOfNums text), .int .i64 n, .int .i64 m, .int .i64 a, .int .i64 pos, .string (strOfNums doc), .slice ad kids.length cap]] V fun e w' => e = .returned (.bool (ttext kind a text)) ∧ Below V.heap.size V w') := fun V _ => rtext_any kind n m a pos text (strOfNums doc) ad kids.length cap V hkind ha (getD_bd htext) hlen
  have QN : Hid (∀ V, Below W.heap.size W V → Calls Tryz.prog 70 #[.agg #[.int .i64 kind, .string (strOfNums text), .int .i64 n, .int .i64 m, .int .i64 a, .int .i64 pos, .string (strOfNums doc), .slice ad kids.length cap]] V fun e w' => e = .returned (.bool (tnumber kind n m)) ∧ Below V.heap.size V w') := fun V _ => rnumb_any kind n m a pos (strOfNums text) (strOfNums doc) ad kids.length cap V hkind hn hm
  have QK : Hid (∀ V, Below W.heap.size W V → Calls Tryz.prog 71 #[.agg #[.int .i64 kind, .string (strOfNums text), .int .i64 n, .int .i64 m, .int .i64 a, .int .i64 pos, .string (strOfNums doc), .slice ad kids.length cap]] V fun e w' => e = .returned (.bool (tkids kind kids)) ∧ Below V.heap.size V w') := fun V hV => rkids_any h V (hB.trans (hV.mono hB.size))
  generalize tdocd kind = D at hd QD
  generalize hTB : ttext kind a text = TB at QT ⊢
  generalize hNB : tnumber kind n m = NB at QN ⊢
  generalize hKB : tkids kind kids = KB at QK ⊢
  generalize strOfNums text = T1 at QT QN QK ⊢
  generalize strOfNums doc = T2 at hd QT QN QK ⊢
  clear hTB hNB hKB
  by_cases hm0 : m = 0
  · by_cases hn0 : n = 0
    · rw [if_neg (by omega)]
      by_cases k2 : kind = 2
      · subst k2
        rw [show tmost 2 = 1 from rfl]
        exact own_2 n m a pos T1 T2 ad kids.length cap W D TB NB KB doc.length hkind ha hn hm hpos hp hd hm0 hn0 QD QT QN QK
      by_cases k19 : kind = 19
      · subst k19
        rw [show tmost 19 = 1 from rfl]
        exact own_19 n m a pos T1 T2 ad kids.length cap W D TB NB KB doc.length hkind ha hn hm hpos hp hd hm0 hn0 QD QT QN QK
      by_cases k24 : kind = 24
      · subst k24
        rw [show tmost 24 = 1 from rfl]
        exact own_24 n m a pos T1 T2 ad kids.length cap W D TB NB KB doc.length hkind ha hn hm hpos hp hd hm0 hn0 QD QT QN QK
      by_cases k9 : kind = 9
      · subst k9
        rw [show tmost 9 = 3 from rfl]
        exact own_9 n m a pos T1 T2 ad kids.length cap W D TB NB KB doc.length hkind ha hn hm hpos hp hd hm0 hn0 QD QT QN QK
      by_cases k17 : kind = 17
      · subst k17
        rw [show tmost 17 = 3 from rfl]
        exact own_17 n m a pos T1 T2 ad kids.length cap W D TB NB KB doc.length hkind ha hn hm hpos hp hd hm0 hn0 QD QT QN QK
      rw [show tmost kind = 0 by unfold tmost; rw [if_neg (by omega), if_neg (by omega)]]
      exact own_o kind n m a pos T1 T2 ad kids.length cap W D TB NB KB doc.length hkind ha hn hm hpos hp hd hm0 hn0 k2 k19 k24 k9 k17 QD QT QN QK
    · by_cases k14 : kind = 14
      · subst k14
        rw [if_neg (by omega), show tmost 14 = 0 from rfl]
        exact own_n14 n m a pos T1 T2 ad kids.length cap W D TB NB KB doc.length hkind ha hn hm hpos hp hd hm0 hn0 QD QT QN QK
      by_cases k9 : kind = 9
      · subst k9
        rw [if_neg (by omega), show tmost 9 = 3 from rfl]
        exact own_n9 n m a pos T1 T2 ad kids.length cap W D TB NB KB doc.length hkind ha hn hm hpos hp hd hm0 hn0 QD QT QN QK
      by_cases k10 : kind = 10
      · subst k10
        rw [if_neg (by omega), show tmost 10 = 0 from rfl]
        exact own_n10 n m a pos T1 T2 ad kids.length cap W D TB NB KB doc.length hkind ha hn hm hpos hp hd hm0 hn0 QD QT QN QK
      by_cases k16 : kind = 16
      · subst k16
        rw [if_neg (by omega), show tmost 16 = 0 from rfl]
        exact own_n16 n m a pos T1 T2 ad kids.length cap W D TB NB KB doc.length hkind ha hn hm hpos hp hd hm0 hn0 QD QT QN QK
      rw [if_pos (.inr ⟨hn0, k14, k9, k10, k16⟩)]
      exact own_n kind n m a pos T1 T2 ad kids.length cap W D TB NB KB doc.length hkind ha hn hm hpos hp hd hm0 hn0 k14 k9 k10 k16 QD QT QN QK
  · by_cases k14 : kind = 14
    · subst k14
      rw [if_neg (by omega), show tmost 14 = 0 from rfl]
      by_cases hn0 : n = 0
      · exact own_14m n m a pos T1 T2 ad kids.length cap W D TB NB KB doc.length hkind ha hn hm hpos hp hd hm0 hn0 QD QT QN QK
      · exact own_14mn n m a pos T1 T2 ad kids.length cap W D TB NB KB doc.length hkind ha hn hm hpos hp hd hm0 hn0 QD QT QN QK
    · rw [if_pos (.inl ⟨hm0, k14⟩)]
      exact own_m kind n m a pos T1 T2 ad kids.length cap W D TB NB KB doc.length hkind ha hn hm hpos hp hd hm0 k14 QD QT QN QK

end Go.Proofs.YtgkablmglkagfaaGreatDoor

/- The reference's own right, Check. -/
namespace Go.Proofs.YtgkablmglkagfaaGreatDoor
open Go.RowKit
set_option linter.unusedVariables false
set_option linter.unusedSimpArgs false

mutual
/-- Whether a node and what stands in it may be. -/
def tright : Tn → Bool
  | .mk kind text n m a pos doc ad cap kids => town (.mk kind text n m a pos doc ad cap kids) && trights kids
def trights : List Tn → Bool
  | [] => true
  | k :: r => tright k && trights r
end

set_option maxRecDepth 10000 in
set_option maxHeartbeats 4000000 in
theorem rright_any {w : World} {t : Tn} (h : TnOk w t) : TnShort t → ∀ (W : World), Below w.heap.size w W →
    Calls Tryz.prog 17 #[t.val] W fun e W' => e = .returned (.bool (tright t)) ∧ Below W.heap.size W W' := by
  induction h with
  | @mk kind text n m a pos doc ad cap kids hkind htext htl hn hm ha hpos hdoc hdl hkl hcap hnone hmem hkids ih =>
    intro hs W hB
    obtain ⟨hl, hks⟩ : (text.length : Int) ≤ 100000 ∧ ∀ (i : Nat) (t : Tn), kids[i]? = some t → TnShort t := by cases hs with | mk h1 h2 => exact ⟨h1, h2⟩
    have hok : TnOk w (.mk kind text n m a pos doc ad cap kids) := .mk hkind htext htl hn hm ha hpos hdoc hdl hkl hcap hnone hmem hkids
    have qo : ∀ V, Below w.heap.size w V → _ := fun V hV => rown_any hok hl V hV
    rw [tright]
    obtain ⟨R, hR⟩ : ∃ R, R = trights (kids.drop 0) := ⟨_, rfl⟩
    rw [show trights kids = R by rw [hR]; rfl]
    generalize town (.mk kind text n m a pos doc ad cap kids) = OB at qo ⊢
    show Calls Tryz.prog 17 #[.agg #[.int .i64 kind, .string (strOfNums text), .int .i64 n, .int .i64 m, .int .i64 a, .int .i64 pos, .string (strOfNums doc), .slice ad kids.length cap]] W fun e W' => e = .returned (.bool (OB && R)) ∧ Below W.heap.size W W'
    change ∀ V, Below w.heap.size w V → Calls Tryz.prog 52 #[.agg #[.int .i64 kind, .string (strOfNums text), .int .i64 n, .int .i64 m, .int .i64 a, .int .i64 pos, .string (strOfNums doc), .slice ad kids.length cap]] V (fun e W' => e = .returned (.bool OB) ∧ Below V.heap.size V W') at qo
    have HIH : Hid (∀ (i : Nat) (t : Tn), kids[i]? = some t → ∀ (V : World), Below w.heap.size w V → Calls Tryz.prog 17 #[t.val] V fun e W' => e = .returned (.bool (tright t)) ∧ Below V.heap.size V W') := fun i t hi => ih i t hi (hks i t hi)
    have HMem : Hid _ := hmem
    have HB0 : Hid (Below w.heap.size w W) := hB
    have HR : Hid (R = trights (kids.drop 0)) := hR
    generalize strOfNums text = T1 at qo ⊢
    generalize strOfNums doc = T2 at qo ⊢
    have HBA : Hid (Below W.heap.size W (W.alloc (.cells #[.int .i64 kind, .string T1, .int .i64 n, .int .i64 m, .int .i64 a, .int .i64 pos, .string T2, .slice ad kids.length cap] 24))) := (Below.refl _ _).alloc (Nat.le_refl _) _
    have QO : Hid _ := qo
    clear ih hmem hkids hB htext hdoc hnone hR qo hok hs hks htl hdl hl
    go_enter Tryz.func17, Tryz.ntmps17
    go_wp2_with fail
    refine Calls.mono (QO.out _ (HB0.out.trans (HBA.out.mono HB0.out.size))) ?_
    rintro e w1 ⟨rfl, hb1⟩
    have p7 := own_cells hb1 7 _ rfl
    have HB1 : Hid (Below W.heap.size W w1) := HBA.out.trans (hb1.mono HBA.out.size)
    clear hb1
    cases OB with
    | false =>
      go_wp2
      go_ret
      exact ⟨rfl, HB1.out⟩
    | true =>
      go_wp2
      go_loopw [11] (fun v wr => ∃ (k : Nat), v = .int .i64 (k : Int) ∧ k ≤ kids.length ∧ Hid (R = trights (kids.drop k)) ∧ Hid (Below W.heap.size W wr)) (fun v _ => kids.length - (intOf v).toNat)
      case atStart => exact ⟨0, rfl, by omega, HR, HB1⟩
      case round =>
        obtain ⟨k, rfl, hk, HJ, HBw⟩ := hrel
        clear p7
        by_cases hkl2 : k < kids.length
        · obtain ⟨b, off, rfl, hlt, hc⟩ := HMem.out (by omega)
          obtain ⟨⟨kd, tx, n2, m2, a2, pos2, doc2, ad2, cap2, ks⟩, hkid⟩ : ∃ t, kids[k]? = some t := ⟨kids[k]'hkl2, List.getElem?_eq_getElem hkl2⟩
          have hBB : Below w.heap.size w wr := HB0.out.trans (HBw.out.mono HB0.out.size)
          obtain ⟨c0, c1, c2, c3, c4, c5, c6, c7⟩ := kid_cells hlt hBB hc hkid
          have HBn : Hid (Below w.heap.size w (wr.alloc (.cells #[.int .i64 kd, .string (strOfNums tx), .int .i64 n2, .int .i64 m2, .int .i64 a2, .int .i64 pos2, .string (strOfNums doc2), .slice ad2 ks.length cap2] 24))) := hBB.alloc hBB.size _
          have HBn2 : Hid (Below W.heap.size W (wr.alloc (.cells #[.int .i64 kd, .string (strOfNums tx), .int .i64 n2, .int .i64 m2, .int .i64 a2, .int .i64 pos2, .string (strOfNums doc2), .slice ad2 ks.length cap2] 24))) := HBw.out.alloc HBw.out.size _
          have q := HIH.out k _ hkid _ HBn.out
          have HJ' := HJ.out
          rw [List.drop_eq_getElem_cons hkl2, show kids[k] = .mk kd tx n2 m2 a2 pos2 doc2 ad2 cap2 ks by rw [List.getElem?_eq_getElem hkl2] at hkid; exact Option.some.inj hkid, trights] at HJ'
          change Calls Tryz.prog 17 #[.agg #[.int .i64 kd, .string (strOfNums tx), .int .i64 n2, .int .i64 m2, .int .i64 a2, .int .i64 pos2, .string (strOfNums doc2), .slice ad2 ks.length cap2]] _ _ at q
          generalize tright (.mk kd tx n2 m2 a2 pos2 doc2 ad2 cap2 ks) = C at q HJ'
          generalize strOfNums tx = U1 at c1 q HBn HBn2
          generalize strOfNums doc2 = U2 at c6 q HBn HBn2
          have Q : Hid _ := q
          clear q hc HJ hkid hBB
          cases C with
          | false =>
            have HE : Hid (R = false) := HJ'
            clear HJ'
            go_wp2_with fail
            refine Calls.mono Q.out ?_
            rintro e w2 ⟨rfl, hb2⟩
            go_wp2
            go_ret
            exact ⟨by rw [HE.out]; rfl, HBn2.out.trans (hb2.mono HBn2.out.size)⟩
          | true =>
            have HE : Hid (R = trights (kids.drop (k + 1))) := HJ'
            clear HJ'
            go_wp2_with fail
            refine Calls.mono Q.out ?_
            rintro e w2 ⟨rfl, hb2⟩
            have HB2 : Hid (Below W.heap.size W w2) := HBn2.out.trans (hb2.mono HBn2.out.size)
            clear hb2
            go_wp2
            go_roundw
            case rel => first | exact ⟨k + 1, by go_num, by omega, HE, HB2⟩ | ((repeat apply Exists.intro); exact ⟨⟨k + 1, by go_num, by omega, HE, HB2⟩, rfl⟩)
            case measure => simp [intOf]; omega
        · obtain rfl : k = kids.length := by omega
          have E : Hid (R = true) := by show _ = _; rw [HJ.out, List.drop_length, trights]
          clear HJ
          go_wp2
          go_ret
          exact ⟨by rw [E.out]; rfl, HBw.out⟩

/-- Whether a file may be. -/
def tcheck (t : Tn) : Bool := decide (t.kind = 1) && (decide (tcount t ≤ 20000) && (decide (tdeep t ≤ 64) && tright t))

end Go.Proofs.YtgkablmglkagfaaGreatDoor

/- The reference's own Check. -/
namespace Go.Proofs.YtgkablmglkagfaaGreatDoor
open Go.RowKit
set_option linter.unusedVariables false
set_option linter.unusedSimpArgs false

set_option maxRecDepth 10000 in
set_option maxHeartbeats 4000000 in
theorem rcheck_any {w : World} {t : Tn} (h : TnOk w t) (hs : TnShort t) (W : World) (hB : Below w.heap.size w W) :
    Calls Tryz.prog 7 #[t.val] W fun e W' => e = .returned (.bool (tcheck t)) ∧ Below W.heap.size W W' := by
  have qc := fun V hV => rcount_any h V hV
  have qd := fun V hV => rdeep_any h V hV
  have qr := fun V hV => rright_any h hs V hV
  have hc0 : 0 ≤ tcount t ∧ tcount t ≤ 30000 := by have := tcnt_bd t 0 (by omega) (by omega); unfold tcount; omega
  have hd0 : 1 ≤ tdeep t ∧ tdeep t ≤ 100 := by have := tdp_bd t 1 (by omega); unfold tdeep; split <;> omega
  have E0 : tcheck t = (decide (t.kind = 1) && (decide (tcount t ≤ 20000) && (decide (tdeep t ≤ 64) && tright t))) := rfl
  rw [E0]
  clear E0
  generalize tcount t = CN at qc hc0 ⊢
  generalize tdeep t = DP at qd hd0 ⊢
  generalize tright t = RB at qr ⊢
  obtain ⟨kind, text, n, m, a, pos, doc, ad, cap, kids⟩ := t
  have hkind : i64b kind := by cases h; assumption
  have hkl : (kids.length : Int) ≤ 9223372036854775807 := by cases h; assumption
  obtain ⟨hk0, hk1⟩ := hkind
  obtain ⟨hc0, hc1⟩ := hc0
  obtain ⟨hd0, hd1⟩ := hd0
  show Calls Tryz.prog 7 #[.agg #[.int .i64 kind, .string (strOfNums text), .int .i64 n, .int .i64 m, .int .i64 a, .int .i64 pos, .string (strOfNums doc), .slice ad kids.length cap]] W fun e W' => e = .returned (.bool (decide (kind = 1) && (decide (CN ≤ 20000) && (decide (DP ≤ 64) && RB)))) ∧ Below W.heap.size W W'
  change ∀ V, Below w.heap.size w V → Calls Tryz.prog 15 #[.agg #[.int .i64 kind, .string (strOfNums text), .int .i64 n, .int .i64 m, .int .i64 a, .int .i64 pos, .string (strOfNums doc), .slice ad kids.length cap]] V (fun e W' => e = .returned (.int .i64 CN) ∧ Below V.heap.size V W') at qc
  change ∀ V, Below w.heap.size w V → Calls Tryz.prog 16 #[.agg #[.int .i64 kind, .string (strOfNums text), .int .i64 n, .int .i64 m, .int .i64 a, .int .i64 pos, .string (strOfNums doc), .slice ad kids.length cap]] V (fun e W' => e = .returned (.int .i64 DP) ∧ Below V.heap.size V W') at qd
  change ∀ V, Below w.heap.size w V → Calls Tryz.prog 17 #[.agg #[.int .i64 kind, .string (strOfNums text), .int .i64 n, .int .i64 m, .int .i64 a, .int .i64 pos, .string (strOfNums doc), .slice ad kids.length cap]] V (fun e W' => e = .returned (.bool RB) ∧ Below V.heap.size V W') at qr
  generalize strOfNums text = T1 at qc qd qr ⊢
  generalize strOfNums doc = T2 at qc qd qr ⊢
  have HBA : Hid (Below W.heap.size W (W.alloc (.cells #[.int .i64 kind, .string T1, .int .i64 n, .int .i64 m, .int .i64 a, .int .i64 pos, .string T2, .slice ad kids.length cap] 24))) := (Below.refl _ _).alloc (Nat.le_refl _) _
  have HB0 : Hid (Below w.heap.size w W) := hB
  have QC : Hid _ := qc
  have QD : Hid _ := qd
  have QR : Hid _ := qr
  clear qc qd qr h hs hB
  by_cases hk : kind = 1
  · subst hk
    go_enter Tryz.func7, Tryz.ntmps7
    go_wp2_with fail
    refine Calls.mono (QC.out _ (HB0.out.trans (HBA.out.mono HB0.out.size))) ?_
    rintro e w1 ⟨rfl, hb1⟩
    have p0 := own_cells hb1 0 _ rfl
    have p1 := own_cells hb1 1 _ rfl
    have p2 := own_cells hb1 2 _ rfl
    have p3 := own_cells hb1 3 _ rfl
    have p4 := own_cells hb1 4 _ rfl
    have p5 := own_cells hb1 5 _ rfl
    have p6 := own_cells hb1 6 _ rfl
    have p7 := own_cells hb1 7 _ rfl
    have HB1 : Hid (Below W.heap.size W w1) := HBA.out.trans (hb1.mono HBA.out.size)
    have HC1 : Hid _ := hb1
    clear hb1
    by_cases hc : CN ≤ 20000
    · go_wp2_with fail
      refine Calls.mono (QD.out _ (HB0.out.trans (HB1.out.mono HB0.out.size))) ?_
      rintro e w2 ⟨rfl, hb2⟩
      have hb12 := HC1.out.trans (hb2.mono HC1.out.size)
      have r0 := own_cells hb12 0 _ rfl
      have r1 := own_cells hb12 1 _ rfl
      have r2 := own_cells hb12 2 _ rfl
      have r3 := own_cells hb12 3 _ rfl
      have r4 := own_cells hb12 4 _ rfl
      have r5 := own_cells hb12 5 _ rfl
      have r6 := own_cells hb12 6 _ rfl
      have r7 := own_cells hb12 7 _ rfl
      have HB2 : Hid (Below W.heap.size W w2) := HB1.out.trans (hb2.mono HB1.out.size)
      clear hb2 hb12 p0 p1 p2 p3 p4 p5 p6 p7
      by_cases hd : DP ≤ 64
      · go_wp2_with fail
        refine Calls.mono (QR.out _ (HB0.out.trans (HB2.out.mono HB0.out.size))) ?_
        rintro e w3 ⟨rfl, hb3⟩
        go_wp2
        go_ret
        exact ⟨by first | rfl | (simp [hc, hd]; done) | (simp <;> omega), HB2.out.trans (hb3.mono HB2.out.size)⟩
      · go_wp2
        go_ret
        exact ⟨by first | rfl | (simp <;> omega) | (simp; intros; omega), HB2.out⟩
    · go_wp2
      go_ret
      exact ⟨by first | rfl | (simp <;> omega) | (simp; intros; omega), HB1.out⟩
  · go_enter Tryz.func7, Tryz.ntmps7
    go_wp2
    go_ret
    exact ⟨by first | rfl | (simp <;> omega) | (simp; intros; omega), HBA.out⟩

end Go.Proofs.YtgkablmglkagfaaGreatDoor
