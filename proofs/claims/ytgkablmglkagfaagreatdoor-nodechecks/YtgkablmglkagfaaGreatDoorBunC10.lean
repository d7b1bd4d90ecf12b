/- Put together by a program out of these texts of mine: TKidA, TOwn, TOwn2. -/
import Derived.Test.YtgkablmglkagfaaGreatDoorBunC7
import Derived.Test.YtgkablmglkagfaaGreatDoorBunC8
import Derived.Test.YtgkablmglkagfaaGreatDoorBunC9

/- The contract of the reference's own kids: the kinds whose kids may be of some kinds. -/
namespace Go.Proofs.YtgkablmglkagfaaGreatDoor
open Go.RowKit
set_option linter.unusedVariables false
set_option linter.unusedSimpArgs false

def tka (kind : Int) (ne : Bool) : List Tn → Int → Bool
  | [], p => decide (p ≤ 1) && ne
  | .mk kd _ _ _ a _ _ _ _ _ :: r, p => if tmay kind kd = false ∨ (kind = 11 ∧ kd = 9 ∧ a ≠ 0) then false else tka kind ne r (if kd = 3 then p + 1 else p)

/-- Which kinds have kids of some kinds. -/
def tmany (k : Int) : Prop := k = 1 ∨ k = 5 ∨ k = 6 ∨ k = 7 ∨ k = 8 ∨ k = 11 ∨ k = 12 ∨ k = 23 ∨ k = 16

theorem alloc_lt {w w1 : World} {o : Obj} (hb : Below (w.alloc o).heap.size (w.alloc o) w1) : w.heap.size < w1.heap.size := by
  have := hb.size
  simp at this
  omega

set_option maxRecDepth 10000 in
set_option maxHeartbeats 16000000 in
theorem rkidsA {w : World} {kind : Int} {text : List Int} {n m a pos : Int} {doc : List Int} {ad : Option Addr} {cap : Nat} {kids : List Tn} (h : TnOk w (.mk kind text n m a pos doc ad cap kids)) (W : World) (hB : Below w.heap.size w W) (hm9 : tmany kind) :
    Calls Tryz.prog 71 #[(Tn.mk kind text n m a pos doc ad cap kids).val] W fun e W' => e = .returned (.bool (tka kind (decide (kind ≠ 12 ∨ 0 < kids.length)) kids 0)) ∧ Below W.heap.size W W' := by
  cases h with
  | mk hkind htext htl hn hm ha hpos hdoc hdl hkl hcap hnone hmem hkids =>
  obtain ⟨ne, hne⟩ : ∃ b, b = decide (kind ≠ 12 ∨ 0 < kids.length) := ⟨_, rfl⟩
  rw [← hne]
  obtain ⟨R, hR⟩ : ∃ R, R = tka kind ne (kids.drop 0) 0 := ⟨_, rfl⟩
  rw [show tka kind ne kids 0 = R by rw [hR]; rfl]
  show Calls Tryz.prog 71 #[.agg #[.int .i64 kind, .string (strOfNums text), .int .i64 n, .int .i64 m, .int .i64 a, .int .i64 pos, .string (strOfNums doc), .slice ad kids.length cap]] W fun e W' => e = .returned (.bool R) ∧ Below W.heap.size W W'
  generalize strOfNums text = T1
  generalize strOfNums doc = T2
  have HK : Hid (∀ (i : Nat) (t : Tn), kids[i]? = some t → TnOk w t) := hkids
  have HMem : Hid _ := hmem
  have HB0 : Hid (Below w.heap.size w W) := hB
  have HBA : Hid (Below W.heap.size W (W.alloc (.cells #[.int .i64 kind, .string T1, .int .i64 n, .int .i64 m, .int .i64 a, .int .i64 pos, .string T2, .slice ad kids.length cap] 24))) := (Below.refl _ _).alloc (Nat.le_refl _) _
  have HR : Hid (R = tka kind ne (kids.drop 0) 0) := hR
  have HNE : Hid (ne = decide (kind ≠ 12 ∨ 0 < kids.length)) := hne
  clear hkids hmem hB htext hdoc hnone hR hne htl hdl
  unfold tmany at hm9
  rcases hm9 with rfl | rfl | rfl | rfl | rfl | rfl | rfl | rfl | rfl
  all_goals
    go_enter Tryz.func71, Tryz.ntmps71
    go_wp2
    go_loopw [5, 30] (fun pv v wr => ∃ (k : Nat) (p : Int), pv = .int .i64 p ∧ v = .int .i64 (k : Int) ∧ k ≤ kids.length ∧ 0 ≤ p ∧ p ≤ k ∧ Hid (R = tka _ ne (kids.drop k) p) ∧ Hid (Below (W.alloc (.cells #[.int .i64 _, .string T1, .int .i64 n, .int .i64 m, .int .i64 a, .int .i64 pos, .string T2, .slice ad kids.length cap] 24)).heap.size (W.alloc (.cells #[.int .i64 _, .string T1, .int .i64 n, .int .i64 m, .int .i64 a, .int .i64 pos, .string T2, .slice ad kids.length cap] 24)) wr)) (fun _ v _ => kids.length - (intOf v).toNat)
    case atStart => exact ⟨0, 0, rfl, rfl, by omega, by omega, by omega, HR, Below.refl _ _⟩
    case round =>
      obtain ⟨k, p, rfl, rfl, hk, hp0, hp1, HJ, HBw⟩ := hrel
      have o0 := own_cells HBw.out 0 _ rfl
      have olt := alloc_lt HBw.out
      by_cases hkl2 : k < kids.length
      · obtain ⟨b, off, rfl, hlt, hc⟩ := HMem.out (by omega)
        obtain ⟨⟨kd, tx, n2, m2, a2, pos2, doc2, ad2, cap2, ks⟩, hkid⟩ : ∃ t, kids[k]? = some t := ⟨kids[k]'hkl2, List.getElem?_eq_getElem hkl2⟩
        have hBW : Below W.heap.size W wr := HBA.out.trans (HBw.out.mono HBA.out.size)
        have hBB : Below w.heap.size w wr := HB0.out.trans (hBW.mono HB0.out.size)
        obtain ⟨c0, c1, c2, c3, c4, c5, c6, c7⟩ := kid_cells hlt hBB hc hkid
        have hkd : i64b kd := by have := HK.out k _ hkid; cases this; assumption
        have ha2 : i64b a2 := by have := HK.out k _ hkid; cases this; assumption
        have q := fun W => rmay_any _ kd W hkind hkd
        have HJ' := HJ.out
        rw [List.drop_eq_getElem_cons hkl2, show kids[k] = .mk kd tx n2 m2 a2 pos2 doc2 ad2 cap2 ks by rw [List.getElem?_eq_getElem hkl2] at hkid; exact Option.some.inj hkid, tka] at HJ'
        generalize strOfNums tx = U1 at c1
        generalize strOfNums doc2 = U2 at c6
        have HBn : Hid (Below (W.alloc (.cells #[.int .i64 _, .string T1, .int .i64 n, .int .i64 m, .int .i64 a, .int .i64 pos, .string T2, .slice _ kids.length cap] 24)).heap.size (W.alloc (.cells #[.int .i64 _, .string T1, .int .i64 n, .int .i64 m, .int .i64 a, .int .i64 pos, .string T2, .slice _ kids.length cap] 24)) (wr.alloc (.cells #[.int .i64 kd, .string U1, .int .i64 n2, .int .i64 m2, .int .i64 a2, .int .i64 pos2, .string U2, .slice ad2 ks.length cap2] 24))) := HBw.out.alloc HBw.out.size _
        have HBf : Hid (Below W.heap.size W (wr.alloc (.cells #[.int .i64 kd, .string U1, .int .i64 n2, .int .i64 m2, .int .i64 a2, .int .i64 pos2, .string U2, .slice ad2 ks.length cap2] 24))) := hBW.alloc hBW.size _
        obtain ⟨hkd0, hkd1⟩ := hkd
        obtain ⟨ha20, ha21⟩ := ha2
        generalize tmay _ kd = M at q HJ'
        have Q : Hid _ := q
        clear q hc HJ hkid hBB hBW HBw
        cases M with
        | false =>
          have HE : Hid (R = false) := by show _ = _; rw [HJ', if_pos (.inl rfl)]
          clear HJ'
          go_wp2_with fail
          refine Calls.mono (Q.out _) ?_
          rintro e w2 ⟨rfl, rfl⟩
          go_wp2
          go_ret
          exact ⟨by rw [HE.out]; rfl, HBf.out⟩
        | true =>
          by_cases h9 : kd = 9
          · subst h9
            by_cases ha : a2 = 0
            · subst ha
              simp at HJ'
              have HE : Hid _ := HJ'
              clear HJ'
              go_wp2_with fail
              refine Calls.mono (Q.out _) ?_
              rintro e w2 ⟨rfl, rfl⟩
              go_wp2
              go_roundw
              case rel => first | exact ⟨k + 1, p, rfl, by go_num, by omega, by omega, by omega, HE, HBn⟩ | ((repeat apply Exists.intro); exact ⟨⟨k + 1, p, rfl, by go_num, by omega, by omega, by omega, HE, HBn⟩, rfl⟩)
              case measure => simp [intOf]; omega
            · simp [ha] at HJ'
              first
              | (have HE : Hid (R = false) := HJ'
                 clear HJ'
                 go_wp2_with fail
                 refine Calls.mono (Q.out _) ?_
                 rintro e w2 ⟨rfl, rfl⟩
                 go_wp2
                 go_ret
                 exact ⟨by rw [HE.out]; rfl, HBf.out⟩)
              | (have HE : Hid _ := HJ'
                 clear HJ'
                 go_wp2_with fail
                 refine Calls.mono (Q.out _) ?_
                 rintro e w2 ⟨rfl, rfl⟩
                 go_wp2
                 go_roundw
                 case rel => first | exact ⟨k + 1, p, rfl, by go_num, by omega, by omega, by omega, HE, HBn⟩ | ((repeat apply Exists.intro); exact ⟨⟨k + 1, p, rfl, by go_num, by omega, by omega, by omega, HE, HBn⟩, rfl⟩)
                 case measure => simp [intOf]; omega)
          · by_cases h3 : kd = 3
            · subst h3
              simp at HJ'
              clear h9
              have HE : Hid _ := HJ'
              clear HJ'
              go_wp2_with fail
              refine Calls.mono (Q.out _) ?_
              rintro e w2 ⟨rfl, rfl⟩
              go_wp2
              go_roundw
              case rel => first | exact ⟨k + 1, p + 1, rfl, by go_num, by omega, by omega, by omega, HE, HBn⟩ | ((repeat apply Exists.intro); exact ⟨⟨k + 1, p + 1, rfl, by go_num, by omega, by omega, by omega, HE, HBn⟩, rfl⟩)
              case measure => simp [intOf]; omega
            · simp [h3, h9] at HJ'
              have HE : Hid _ := HJ'
              clear HJ'
              go_wp2_with fail
              refine Calls.mono (Q.out _) ?_
              rintro e w2 ⟨rfl, rfl⟩
              go_wp2
              go_roundw
              case rel => first | exact ⟨k + 1, p, rfl, by go_num, by omega, by omega, by omega, HE, HBn⟩ | ((repeat apply Exists.intro); exact ⟨⟨k + 1, p, rfl, by go_num, by omega, by omega, by omega, HE, HBn⟩, rfl⟩)
              case measure => simp [intOf]; omega
      · obtain rfl : k = kids.length := by omega
        have HJ' := HJ.out
        rw [List.drop_length, tka] at HJ'
        have hne' := HNE.out
        by_cases hp : p ≤ 1
        · by_cases hl : 0 < kids.length
          all_goals
            simp [hl] at hne'
            rw [hne'] at HJ'
            simp [hp] at HJ'
            have HE : Hid _ := HJ'
            clear HJ' hne' HNE HJ
            go_wp2
            go_ret
            exact ⟨by rw [HE.out]; first | rfl | (simp <;> omega), HBA.out.trans (HBw.out.mono HBA.out.size)⟩
        · simp [hp] at HJ'
          have HE : Hid _ := HJ'
          clear HJ' hne' HNE HJ
          go_wp2
          go_ret
          exact ⟨by rw [HE.out]; first | rfl | (simp <;> omega), HBA.out.trans (HBw.out.mono HBA.out.size)⟩

end Go.Proofs.YtgkablmglkagfaaGreatDoor

/- The reference's own kids, put together; its own own: what fails at once. -/
namespace Go.Proofs.YtgkablmglkagfaaGreatDoor
open Go.RowKit
set_option linter.unusedVariables false
set_option linter.unusedSimpArgs false

instance (k : Int) : Decidable (tmany k) := by unfold tmany; infer_instance

def tkids (kind : Int) (kids : List Tn) : Bool :=
  if tmany kind then tka kind (decide (kind ≠ 12 ∨ 0 < kids.length)) kids 0
  else if kind = 13 then tkb (tkind0 kids 0) kids && decide (0 < kids.length)
  else if kind = 4 then tkc kids.length kids 0 && (decide (2 ≤ kids.length) && tworth (tkind0 kids (kids.length - 1)))
  else if kind = 24 then decide (kids.length = 1) && tworth (tkind0 kids 0)
  else if kind = 9 then tkd 1 kids 0 && decide ((1 : Int) ≤ kids.length)
  else if kind = 10 then tkd 2 kids 0 && (decide ((2 : Int) ≤ kids.length) && decide (nword (ttext0 kids) ≠ 0))
  else if kind = 17 then tkd 2 kids 0 && decide ((2 : Int) ≤ kids.length)
  else tkd 0 kids 0 && decide ((0 : Int) ≤ kids.length)

theorem rkids_any {w : World} {kind : Int} {text : List Int} {n m a pos : Int} {doc : List Int} {ad : Option Addr} {cap : Nat} {kids : List Tn} (h : TnOk w (.mk kind text n m a pos doc ad cap kids)) (W : World) (hB : Below w.heap.size w W) :
    Calls Tryz.prog 71 #[(Tn.mk kind text n m a pos doc ad cap kids).val] W fun e W' => e = .returned (.bool (tkids kind kids)) ∧ Below W.heap.size W W' := by
  unfold tkids
  by_cases h1 : tmany kind
  · rw [if_pos h1]; exact rkidsA h W hB h1
  rw [if_neg h1]
  by_cases h2 : kind = 13
  · rw [if_pos h2]; subst h2; exact rkidsB h W hB
  rw [if_neg h2]
  by_cases h3 : kind = 4
  · rw [if_pos h3]; subst h3; exact rkidsC h W hB
  rw [if_neg h3]
  by_cases h4 : kind = 24
  · rw [if_pos h4]; subst h4; exact rkidsE h W hB
  rw [if_neg h4]
  by_cases h5 : kind = 9
  · rw [if_pos h5]; subst h5; exact rkidsD9 h W hB
  rw [if_neg h5]
  by_cases h6 : kind = 10
  · rw [if_pos h6]; subst h6; exact rkidsD10 h W hB
  rw [if_neg h6]
  by_cases h7 : kind = 17
  · rw [if_pos h7]; subst h7; exact rkidsD17 h W hB
  rw [if_neg h7]
  unfold tmany at h1
  exact rkidsD0 h W hB (by omega) (by omega) (by omega) (by omega) (by omega) (by omega) (by omega) (by omega) (by omega) (by omega) (by omega) (by omega) (by omega) (by omega) (by omega)

def tmost (k : Int) : Int := if k = 2 ∨ k = 19 ∨ k = 24 then 1 else if k = 9 ∨ k = 17 then 3 else 0

def tdocOk (kind : Int) (doc : List Int) : Prop := doc = [] ∨ (tdocd kind = true ∧ doc.getD (doc.length - 1) 0 = 10 ∧ (doc.length : Int) ≤ 10000)

instance (kind : Int) (doc : List Int) : Decidable (tdocOk kind doc) := by unfold tdocOk; infer_instance

/-- Whether a node has just what its kind has. -/
def town : Tn → Bool
  | .mk kind text n m a pos doc _ _ kids =>
    if pos < 0 ∨ ¬ tdocOk kind doc then false
    else if (m ≠ 0 ∧ kind ≠ 14) ∨ (n ≠ 0 ∧ kind ≠ 14 ∧ kind ≠ 9 ∧ kind ≠ 10 ∧ kind ≠ 16) then false
    else decide (0 ≤ a ∧ a ≤ tmost kind) && (ttext kind a text && (tnumber kind n m && tkids kind kids))

theorem last_sign (s : List Int) (hz : ∀ i, 0 ≤ s.getD i 0 ∧ s.getD i 0 ≤ 255) (X : ByteArray) (hX : X = strOfNums s) (hne : s ≠ []) :
    (X.toList == []) = false ∧ X.size = s.length ∧ 0 < s.length ∧ ∀ h : s.length - 1 < X.size, ((X[s.length - 1]'h).toNat : Int) = s.getD (s.length - 1) 0 := by
  subst hX
  cases s with
  | nil => exact absurd rfl hne
  | cons c r => exact ⟨str_ne c r, strOfNums_size _, by simp, fun h => str_at _ hz _ h⟩

set_option maxRecDepth 10000 in
set_option maxHeartbeats 4000000 in
theorem rown_bad (kind n m a pos : Int) (T1 : ByteArray) (doc : List Int) (ad : Option Addr) (len cap : Nat) (W : World) (hk : i64b kind) (hp : i64b pos) (hz : Hid (∀ i, 0 ≤ doc.getD i 0 ∧ doc.getD i 0 ≤ 255)) (hdl : (doc.length : Int) ≤ 9223372036854775807) (hbad : pos < 0 ∨ ¬ tdocOk kind doc) :
    Calls Tryz.prog 52 #[.agg #[.int .i64 kind, .string T1, .int .i64 n, .int .i64 m, .int .i64 a, .int .i64 pos, .string (strOfNums doc), .slice ad len cap]] W fun e W' => e = .returned (.bool false) ∧ Below W.heap.size W W' := by
  obtain ⟨T2, hX⟩ : ∃ X, X = strOfNums doc := ⟨_, rfl⟩
  have HBA : Hid (Below W.heap.size W (W.alloc (.cells #[.int .i64 kind, .string T1, .int .i64 n, .int .i64 m, .int .i64 a, .int .i64 pos, .string T2, .slice ad len cap] 24))) := (Below.refl _ _).alloc (Nat.le_refl _) _
  have q := fun W => rdocd_any kind W hk
  obtain ⟨hk0, hk1⟩ := hk
  obtain ⟨hp0, hp1⟩ := hp
  rw [← hX]
  by_cases hpos : pos < 0
  · clear hbad hX q
    go_enter Tryz.func52, Tryz.ntmps52
    go_wp2
    go_ret
    exact ⟨rfl, HBA.out⟩
  · have hd : ¬ tdocOk kind doc := by rcases hbad with h | h; exact absurd h hpos; exact h
    unfold tdocOk at hd
    obtain ⟨hne, hlast, hsz, hl, hat⟩ : doc ≠ [] ∧ _ := ⟨fun h => hd (.inl h), last_sign doc hz.out T2 hX (fun h => hd (.inl h))⟩
    have hat0 := hat (by omega)
    have hcast : (doc.length : Int) - 1 = ((doc.length - 1 : Nat) : Int) := by omega
    generalize hD : tdocd kind = D at q hd
    generalize doc.getD (doc.length - 1) 0 = c at hat0 hd
    have Q : Hid _ := q
    clear hbad hX q hat hD hz
    cases D with
    | false =>
      clear hd
      go_enter Tryz.func52, Tryz.ntmps52
      go_wp2_with fail
      refine Calls.mono (Q.out _) ?_
      rintro e w2 ⟨rfl, rfl⟩
      go_wp2
      go_ret
      exact ⟨rfl, HBA.out⟩
    | true =>
      by_cases hc : c = 10
      · subst hc
        have hbig : 10000 < (doc.length : Int) := by
          by_cases h : 10000 < (doc.length : Int)
          · exact h
          · exact absurd (.inr ⟨rfl, rfl, by omega⟩) hd
        clear hd hne
        go_enter Tryz.func52, Tryz.ntmps52
        go_wp2_with fail
        refine Calls.mono (Q.out _) ?_
        rintro e w2 ⟨rfl, rfl⟩
        go_wp2
        go_ret
        exact ⟨rfl, HBA.out⟩
      · have ec : (c == 10) = false := by simpa using hc
        clear hd hne
        go_enter Tryz.func52, Tryz.ntmps52
        go_wp2_with fail
        refine Calls.mono (Q.out _) ?_
        rintro e w2 ⟨rfl, rfl⟩
        go_wp2
        go_ret
        exact ⟨rfl, HBA.out⟩

end Go.Proofs.YtgkablmglkagfaaGreatDoor

/- The reference's own own. -/
namespace Go.Proofs.YtgkablmglkagfaaGreatDoor
open Go.RowKit
set_option linter.unusedVariables false
set_option linter.unusedSimpArgs false

/-- A doc that may be: none, or one that ends with its line. -/
def docFit (T2 : ByteArray) (dl : Nat) (D : Bool) : Prop :=
  (T2.toList == []) = true ∨ ((T2.toList == []) = false ∧ D = true ∧ T2.size = dl ∧ 0 < dl ∧ (dl : Int) ≤ 10000 ∧ ∃ h : dl - 1 < T2.size, ((T2[dl - 1]'h).toNat : Int) = 10)

set_option maxRecDepth 10000 in
set_option maxHeartbeats 8000000 in
theorem own_m (kind : Int) (n m a pos : Int) (T1 T2 : ByteArray) (ad : Option Addr) (len cap : Nat) (W : World) (D TB NB KB : Bool) (dl : Nat) (hk : i64b kind) (ha : i64b a) (hn : i64b n) (hm : i64b m) (hp : i64b pos) (hpos : ¬ pos < 0) (hd : docFit T2 dl D) (h1 : m ≠ 0) (h2 : kind ≠ 14)
    (QD : Hid (∀ V, Calls Tryz.prog 68 #[.int .i64 kind] V fun e w' => e = .returned (.bool D) ∧ V = w'))
    (QT : Hid (∀ V, Below W.heap.size W V → Calls Tryz.prog 69 #[.agg #[.int .i64 kind, .string T1, .int .i64 n, .int .i64 m, .int .i64 a, .int .i64 pos, .string T2, .slice ad len cap]] V fun e w' => e = .returned (.bool TB) ∧ Below V.heap.size V w'))
    (QN : Hid (∀ V, Below W.heap.size W V → Calls Tryz.prog 70 #[.agg #[.int .i64 kind, .string T1, .int .i64 n, .int .i64 m, .int .i64 a, .int .i64 pos, .string T2, .slice ad len cap]] V fun e w' => e = .returned (.bool NB) ∧ Below V.heap.size V w'))
    (QK : Hid (∀ V, Below W.heap.size W V → Calls Tryz.prog 71 #[.agg #[.int .i64 kind, .string T1, .int .i64 n, .int .i64 m, .int .i64 a, .int .i64 pos, .string T2, .slice ad len cap]] V fun e w' => e = .returned (.bool KB) ∧ Below V.heap.size V w')) :
    Calls Tryz.prog 52 #[.agg #[.int .i64 kind, .string T1, .int .i64 n, .int .i64 m, .int .i64 a, .int .i64 pos, .string T2, .slice ad len cap]] W fun e W' => e = .returned (.bool (false)) ∧ Below W.heap.size W W' := by
  have HBA : Hid (Below W.heap.size W (W.alloc (.cells #[.int .i64 kind, .string T1, .int .i64 n, .int .i64 m, .int .i64 a, .int .i64 pos, .string T2, .slice ad len cap] 24))) := (Below.refl _ _).alloc (Nat.le_refl _) _
  obtain ⟨hk0, hk1⟩ := hk
  obtain ⟨ha0, ha1⟩ := ha
  obtain ⟨hn0, hn1⟩ := hn
  obtain ⟨hm0, hm1⟩ := hm
  obtain ⟨hp0, hp1⟩ := hp
  rcases hd with s0 | ⟨s0, rfl, hsz, hdl, hd9, hh, hat⟩
  · go_enter Tryz.func52, Tryz.ntmps52
    go_wp2
    go_ret
    exact ⟨rfl, HBA.out⟩
  · have hcast : (dl : Int) - 1 = ((dl - 1 : Nat) : Int) := by omega
    go_enter Tryz.func52, Tryz.ntmps52
    go_wp2_with fail
    refine Calls.mono (QD.out _) ?_
    rintro e w9 ⟨rfl, rfl⟩
    go_wp2
    go_ret
    exact ⟨rfl, HBA.out⟩

set_option maxRecDepth 10000 in
set_option maxHeartbeats 8000000 in
theorem own_2 (n m a pos : Int) (T1 T2 : ByteArray) (ad : Option Addr) (len cap : Nat) (W : World) (D TB NB KB : Bool) (dl : Nat) (hk : i64b 2) (ha : i64b a) (hn : i64b n) (hm : i64b m) (hp : i64b pos) (hpos : ¬ pos < 0) (hd : docFit T2 dl D) (h0 : m = 0) (h1 : n = 0)
    (QD : Hid (∀ V, Calls Tryz.prog 68 #[.int .i64 2] V fun e w' => e = .returned (.bool D) ∧ V = w'))
    (QT : Hid (∀ V, Below W.heap.size W V → Calls Tryz.prog 69 #[.agg #[.int .i64 2, .string T1, .int .i64 n, .int .i64 m, .int .i64 a, .int .i64 pos, .string T2, .slice ad len cap]] V fun e w' => e = .returned (.bool TB) ∧ Below V.heap.size V w'))
    (QN : Hid (∀ V, Below W.heap.size W V → Calls Tryz.prog 70 #[.agg #[.int .i64 2, .string T1, .int .i64 n, .int .i64 m, .int .i64 a, .int .i64 pos, .string T2, .slice ad len cap]] V fun e w' => e = .returned (.bool NB) ∧ Below V.heap.size V w'))
    (QK : Hid (∀ V, Below W.heap.size W V → Calls Tryz.prog 71 #[.agg #[.int .i64 2, .string T1, .int .i64 n, .int .i64 m, .int .i64 a, .int .i64 pos, .string T2, .slice ad len cap]] V fun e w' => e = .returned (.bool KB) ∧ Below V.heap.size V w')) :
    Calls Tryz.prog 52 #[.agg #[.int .i64 2, .string T1, .int .i64 n, .int .i64 m, .int .i64 a, .int .i64 pos, .string T2, .slice ad len cap]] W fun e W' => e = .returned (.bool (decide (0 ≤ a ∧ a ≤ 1) && (TB && (NB && KB)))) ∧ Below W.heap.size W W' := by
  have HBA : Hid (Below W.heap.size W (W.alloc (.cells #[.int .i64 2, .string T1, .int .i64 n, .int .i64 m, .int .i64 a, .int .i64 pos, .string T2, .slice ad len cap] 24))) := (Below.refl _ _).alloc (Nat.le_refl _) _
  obtain ⟨hk0, hk1⟩ := hk
  obtain ⟨ha0, ha1⟩ := ha
  obtain ⟨hn0, hn1⟩ := hn
  obtain ⟨hm0, hm1⟩ := hm
  obtain ⟨hp0, hp1⟩ := hp
  subst h0
  subst h1
  rcases hd with s0 | ⟨s0, rfl, hsz, hdl, hd9, hh, hat⟩
  · rcases (show a < 0 ∨ 1 < a ∨ (0 ≤ a ∧ a ≤ 1) by omega) with h | h | ⟨hA0, hA1⟩
    · rw [decide_eq_false (p := 0 ≤ a ∧ a ≤ 1) (by omega), Bool.false_and]
      go_enter Tryz.func52, Tryz.ntmps52
      go_wp2
      go_ret
      exact ⟨by first | rfl | (simp <;> omega), HBA.out⟩
    · rw [decide_eq_false (p := 0 ≤ a ∧ a ≤ 1) (by omega), Bool.false_and]
      go_enter Tryz.func52, Tryz.ntmps52
      go_wp2
      go_ret
      exact ⟨by first | rfl | (simp <;> omega), HBA.out⟩
    · rw [decide_eq_true (p := 0 ≤ a ∧ a ≤ 1) ⟨hA0, hA1⟩, Bool.true_and]
      go_enter Tryz.func52, Tryz.ntmps52
      go_wp2_with fail
      refine Calls.mono (QT.out _ HBA.out) ?_
      rintro e w1 ⟨rfl, hb1⟩
      have p0 := own_cells hb1 0 _ rfl
      have p1 := own_cells hb1 1 _ rfl
      have p2 := own_cells hb1 2 _ rfl
      have p3 := own_cells hb1 3 _ rfl
      have p4 := own_cells hb1 4 _ rfl
      have p5 := own_cells hb1 5 _ rfl
      have p6 := own_cells hb1 6 _ rfl
      have p7 := own_cells hb1 7 _ rfl
      have HB1 : Hid (Below W.heap.size W w1) := HBA.out.trans (hb1.mono HBA.out.size)
      have HC1 : Hid _ := hb1
      clear hb1
      cases TB with
      | false =>
        go_wp2
        go_ret
        exact ⟨rfl, HB1.out⟩
      | true =>
        go_wp2_with fail
        refine Calls.mono (QN.out _ HB1.out) ?_
        rintro e w2 ⟨rfl, hb2⟩
        have hb12 := HC1.out.trans (hb2.mono HC1.out.size)
        have r0 := own_cells hb12 0 _ rfl
        have r1 := own_cells hb12 1 _ rfl
        have r2 := own_cells hb12 2 _ rfl
        have r3 := own_cells hb12 3 _ rfl
        have r4 := own_cells hb12 4 _ rfl
        have r5 := own_cells hb12 5 _ rfl
        have r6 := own_cells hb12 6 _ rfl
        have r7 := own_cells hb12 7 _ rfl
        have HB2 : Hid (Below W.heap.size W w2) := HB1.out.trans (hb2.mono HB1.out.size)
        clear hb2 hb12 p0 p1 p2 p3 p4 p5 p6 p7
        cases NB with
        | false =>
          go_wp2
          go_ret
          exact ⟨rfl, HB2.out⟩
        | true =>
          go_wp2_with fail
          refine Calls.mono (QK.out _ HB2.out) ?_
          rintro e w3 ⟨rfl, hb3⟩
          go_wp2
          go_ret
          exact ⟨rfl, HB2.out.trans (hb3.mono HB2.out.size)⟩
  · have hcast : (dl : Int) - 1 = ((dl - 1 : Nat) : Int) := by omega
    rcases (show a < 0 ∨ 1 < a ∨ (0 ≤ a ∧ a ≤ 1) by omega) with h | h | ⟨hA0, hA1⟩
    · rw [decide_eq_false (p := 0 ≤ a ∧ a ≤ 1) (by omega), Bool.false_and]
      go_enter Tryz.func52, Tryz.ntmps52
      go_wp2_with fail
      refine Calls.mono (QD.out _) ?_
      rintro e w9 ⟨rfl, rfl⟩
      go_wp2
      go_ret
      exact ⟨by first | rfl | (simp <;> omega), HBA.out⟩
    · rw [decide_eq_false (p := 0 ≤ a ∧ a ≤ 1) (by omega), Bool.false_and]
      go_enter Tryz.func52, Tryz.ntmps52
      go_wp2_with fail
      refine Calls.mono (QD.out _) ?_
      rintro e w9 ⟨rfl, rfl⟩
      go_wp2
      go_ret
      exact ⟨by first | rfl | (simp <;> omega), HBA.out⟩
    · rw [decide_eq_true (p := 0 ≤ a ∧ a ≤ 1) ⟨hA0, hA1⟩, Bool.true_and]
      go_enter Tryz.func52, Tryz.ntmps52
      go_wp2_with fail
      refine Calls.mono (QD.out _) ?_
      rintro e w9 ⟨rfl, rfl⟩
      go_wp2_with fail
      refine Calls.mono (QT.out _ HBA.out) ?_
      rintro e w1 ⟨rfl, hb1⟩
      have p0 := own_cells hb1 0 _ rfl
      have p1 := own_cells hb1 1 _ rfl
      have p2 := own_cells hb1 2 _ rfl
      have p3 := own_cells hb1 3 _ rfl
      have p4 := own_cells hb1 4 _ rfl
      have p5 := own_cells hb1 5 _ rfl
      have p6 := own_cells hb1 6 _ rfl
      have p7 := own_cells hb1 7 _ rfl
      have HB1 : Hid (Below W.heap.size W w1) := HBA.out.trans (hb1.mono HBA.out.size)
      have HC1 : Hid _ := hb1
      clear hb1
      cases TB with
      | false =>
        go_wp2
        go_ret
        exact ⟨rfl, HB1.out⟩
      | true =>
        go_wp2_with fail
        refine Calls.mono (QN.out _ HB1.out) ?_
        rintro e w2 ⟨rfl, hb2⟩
        have hb12 := HC1.out.trans (hb2.mono HC1.out.size)
        have r0 := own_cells hb12 0 _ rfl
        have r1 := own_cells hb12 1 _ rfl
        have r2 := own_cells hb12 2 _ rfl
        have r3 := own_cells hb12 3 _ rfl
        have r4 := own_cells hb12 4 _ rfl
        have r5 := own_cells hb12 5 _ rfl
        have r6 := own_cells hb12 6 _ rfl
        have r7 := own_cells hb12 7 _ rfl
        have HB2 : Hid (Below W.heap.size W w2) := HB1.out.trans (hb2.mono HB1.out.size)
        clear hb2 hb12 p0 p1 p2 p3 p4 p5 p6 p7
        cases NB with
        | false =>
          go_wp2
          go_ret
          exact ⟨rfl, HB2.out⟩
        | true =>
          go_wp2_with fail
          refine Calls.mono (QK.out _ HB2.out) ?_
          rintro e w3 ⟨rfl, hb3⟩
          go_wp2
          go_ret
          exact ⟨rfl, HB2.out.trans (hb3.mono HB2.out.size)⟩

set_option maxRecDepth 10000 in
set_option maxHeartbeats 8000000 in
theorem own_19 (n m a pos : Int) (T1 T2 : ByteArray) (ad : Option Addr) (len cap : Nat) (W : World) (D TB NB KB : Bool) (dl : Nat) (hk : i64b 19) (ha : i64b a) (hn : i64b n) (hm : i64b m) (hp : i64b pos) (hpos : ¬ pos < 0) (hd : docFit T2 dl D) (h0 : m = 0) (h1 : n = 0)
    (QD : Hid (∀ V, Calls Tryz.prog 68 #[.int .i64 19] V fun e w' => e = .returned (.bool D) ∧ V = w'))
    (QT : Hid (∀ V, Below W.heap.size W V → Calls Tryz.prog 69 #[.agg #[.int .i64 19, .string T1, .int .i64 n, .int .i64 m, .int .i64 a, .int .i64 pos, .string T2, .slice ad len cap]] V fun e w' => e = .returned (.bool TB) ∧ Below V.heap.size V w'))
    (QN : Hid (∀ V, Below W.heap.size W V → Calls Tryz.prog 70 #[.agg #[.int .i64 19, .string T1, .int .i64 n, .int .i64 m, .int .i64 a, .int .i64 pos, .string T2, .slice ad len cap]] V fun e w' => e = .returned (.bool NB) ∧ Below V.heap.size V w'))
    (QK : Hid (∀ V, Below W.heap.size W V → Calls Tryz.prog 71 #[.agg #[.int .i64 19, .string T1, .int .i64 n, .int .i64 m, .int .i64 a, .int .i64 pos, .string T2, .slice ad len cap]] V fun e w' => e = .returned (.bool KB) ∧ Below V.heap.size V w')) :
    Calls Tryz.prog 52 #[.agg #[.int .i64 19, .string T1, .int .i64 n, .int .i64 m, .int .i64 a, .int .i64 pos, .string T2, .slice ad len cap]] W fun e W' => e = .returned (.bool (decide (0 ≤ a ∧ a ≤ 1) && (TB && (NB && KB)))) ∧ Below W.heap.size W W' := by
  have HBA : Hid (Below W.heap.size W (W.alloc (.cells #[.int .i64 19, .string T1, .int .i64 n, .int .i64 m, .int .i64 a, .int .i64 pos, .string T2, .slice ad len cap] 24))) := (Below.refl _ _).alloc (Nat.le_refl _) _
  obtain ⟨hk0, hk1⟩ := hk
  obtain ⟨ha0, ha1⟩ := ha
  obtain ⟨hn0, hn1⟩ := hn
  obtain ⟨hm0, hm1⟩ := hm
  obtain ⟨hp0, hp1⟩ := hp
  subst h0
  subst h1
  rcases hd with s0 | ⟨s0, rfl, hsz, hdl, hd9, hh, hat⟩
  · rcases (show a < 0 ∨ 1 < a ∨ (0 ≤ a ∧ a ≤ 1) by omega) with h | h | ⟨hA0, hA1⟩
    · rw [decide_eq_false (p := 0 ≤ a ∧ a ≤ 1) (by omega), Bool.false_and]
      go_enter Tryz.func52, Tryz.ntmps52
      go_wp2
      go_ret
      exact ⟨by first | rfl | (simp <;> omega), HBA.out⟩
    · rw [decide_eq_false (p := 0 ≤ a ∧ a ≤ 1) (by omega), Bool.false_and]
      go_enter Tryz.func52, Tryz.ntmps52
      go_wp2
      go_ret
      exact ⟨by first | rfl | (simp <;> omega), HBA.out⟩
    · rw [decide_eq_true (p := 0 ≤ a ∧ a ≤ 1) ⟨hA0, hA1⟩, Bool.true_and]
      go_enter Tryz.func52, Tryz.ntmps52
      go_wp2_with fail
      refine Calls.mono (QT.out _ HBA.out) ?_
      rintro e w1 ⟨rfl, hb1⟩
      have p0 := own_cells hb1 0 _ rfl
      have p1 := own_cells hb1 1 _ rfl
      have p2 := own_cells hb1 2 _ rfl
      have p3 := own_cells hb1 3 _ rfl
      have p4 := own_cells hb1 4 _ rfl
      have p5 := own_cells hb1 5 _ rfl
      have p6 := own_cells hb1 6 _ rfl
      have p7 := own_cells hb1 7 _ rfl
      have HB1 : Hid (Below W.heap.size W w1) := HBA.out.trans (hb1.mono HBA.out.size)
      have HC1 : Hid _ := hb1
      clear hb1
      cases TB with
      | false =>
        go_wp2
        go_ret
        exact ⟨rfl, HB1.out⟩
      | true =>
        go_wp2_with fail
        refine Calls.mono (QN.out _ HB1.out) ?_
        rintro e w2 ⟨rfl, hb2⟩
        have hb12 := HC1.out.trans (hb2.mono HC1.out.size)
        have r0 := own_cells hb12 0 _ rfl
        have r1 := own_cells hb12 1 _ rfl
        have r2 := own_cells hb12 2 _ rfl
        have r3 := own_cells hb12 3 _ rfl
        have r4 := own_cells hb12 4 _ rfl
        have r5 := own_cells hb12 5 _ rfl
        have r6 := own_cells hb12 6 _ rfl
        have r7 := own_cells hb12 7 _ rfl
        have HB2 : Hid (Below W.heap.size W w2) := HB1.out.trans (hb2.mono HB1.out.size)
        clear hb2 hb12 p0 p1 p2 p3 p4 p5 p6 p7
        cases NB with
        | false =>
          go_wp2
          go_ret
          exact ⟨rfl, HB2.out⟩
        | true =>
          go_wp2_with fail
          refine Calls.mono (QK.out _ HB2.out) ?_
          rintro e w3 ⟨rfl, hb3⟩
          go_wp2
          go_ret
          exact ⟨rfl, HB2.out.trans (hb3.mono HB2.out.size)⟩
  · have hcast : (dl : Int) - 1 = ((dl - 1 : Nat) : Int) := by omega
    rcases (show a < 0 ∨ 1 < a ∨ (0 ≤ a ∧ a ≤ 1) by omega) with h | h | ⟨hA0, hA1⟩
    · rw [decide_eq_false (p := 0 ≤ a ∧ a ≤ 1) (by omega), Bool.false_and]
      go_enter Tryz.func52, Tryz.ntmps52
      go_wp2_with fail
      refine Calls.mono (QD.out _) ?_
      rintro e w9 ⟨rfl, rfl⟩
      go_wp2
      go_ret
      exact ⟨by first | rfl | (simp <;> omega), HBA.out⟩
    · rw [decide_eq_false (p := 0 ≤ a ∧ a ≤ 1) (by omega), Bool.false_and]
      go_enter Tryz.func52, Tryz.ntmps52
      go_wp2_with fail
      refine Calls.mono (QD.out _) ?_
      rintro e w9 ⟨rfl, rfl⟩
      go_wp2
      go_ret
      exact ⟨by first | rfl | (simp <;> omega), HBA.out⟩
    · rw [decide_eq_true (p := 0 ≤ a ∧ a ≤ 1) ⟨hA0, hA1⟩, Bool.true_and]
      go_enter Tryz.func52, Tryz.ntmps52
      go_wp2_with fail
      refine Calls.mono (QD.out _) ?_
      rintro e w9 ⟨rfl, rfl⟩
      go_wp2_with fail
      refine Calls.mono (QT.out _ HBA.out) ?_
      rintro e w1 ⟨rfl, hb1⟩
      have p0 := own_cells hb1 0 _ rfl
      have p1 := own_cells hb1 1 _ rfl
      have p2 := own_cells hb1 2 _ rfl
      have p3 := own_cells hb1 3 _ rfl
      have p4 := own_cells hb1 4 _ rfl
      have p5 := own_cells hb1 5 _ rfl
      have p6 := own_cells hb1 6 _ rfl
      have p7 := own_cells hb1 7 _ rfl
      have HB1 : Hid (Below W.heap.size W w1) := HBA.out.trans (hb1.mono HBA.out.size)
      have HC1 : Hid _ := hb1
      clear hb1
      cases TB with
      | false =>
        go_wp2
        go_ret
        exact ⟨rfl, HB1.out⟩
      | true =>
        go_wp2_with fail
        refine Calls.mono (QN.out _ HB1.out) ?_
        rintro e w2 ⟨rfl, hb2⟩
        have hb12 := HC1.out.trans (hb2.mono HC1.out.size)
        have r0 := own_cells hb12 0 _ rfl
        have r1 := own_cells hb12 1 _ rfl
        have r2 := own_cells hb12 2 _ rfl
        have r3 := own_cells hb12 3 _ rfl
        have r4 := own_cells hb12 4 _ rfl
        have r5 := own_cells hb12 5 _ rfl
        have r6 := own_cells hb12 6 _ rfl
        have r7 := own_cells hb12 7 _ rfl
        have HB2 : Hid (Below W.heap.size W w2) := HB1.out.trans (hb2.mono HB1.out.size)
        clear hb2 hb12 p0 p1 p2 p3 p4 p5 p6 p7
        cases NB with
        | false =>
          go_wp2
          go_ret
          exact ⟨rfl, HB2.out⟩
        | true =>
          go_wp2_with fail
          refine Calls.mono (QK.out _ HB2.out) ?_
          rintro e w3 ⟨rfl, hb3⟩
          go_wp2
          go_ret
          exact ⟨rfl, HB2.out.trans (hb3.mono HB2.out.size)⟩

set_option maxRecDepth 10000 in
set_option maxHeartbeats 8000000 in
theorem own_24 (n m a pos : Int) (T1 T2 : ByteArray) (ad : Option Addr) (len cap : Nat) (W : World) (D TB NB KB : Bool) (dl : Nat) (hk : i64b 24) (ha : i64b a) (hn : i64b n) (hm : i64b m) (hp : i64b pos) (hpos : ¬ pos < 0) (hd : docFit T2 dl D) (h0 : m = 0) (h1 : n = 0)
    (QD : Hid (∀ V, Calls Tryz.prog 68 #[.int .i64 24] V fun e w' => e = .returned (.bool D) ∧ V = w'))
    (QT : Hid (∀ V, Below W.heap.size W V → Calls Tryz.prog 69 #[.agg #[.int .i64 24, .string T1, .int .i64 n, .int .i64 m, .int .i64 a, .int .i64 pos, .string T2, .slice ad len cap]] V fun e w' => e = .returned (.bool TB) ∧ Below V.heap.size V w'))
    (QN : Hid (∀ V, Below W.heap.size W V → Calls Tryz.prog 70 #[.agg #[.int .i64 24, .string T1, .int .i64 n, .int .i64 m, .int .i64 a, .int .i64 pos, .string T2, .slice ad len cap]] V fun e w' => e = .returned (.bool NB) ∧ Below V.heap.size V w'))
    (QK : Hid (∀ V, Below W.heap.size W V → Calls Tryz.prog 71 #[.agg #[.int .i64 24, .string T1, .int .i64 n, .int .i64 m, .int .i64 a, .int .i64 pos, .string T2, .slice ad len cap]] V fun e w' => e = .returned (.bool KB) ∧ Below V.heap.size V w')) :
    Calls Tryz.prog 52 #[.agg #[.int .i64 24, .string T1, .int .i64 n, .int .i64 m, .int .i64 a, .int .i64 pos, .string T2, .slice ad len cap]] W fun e W' => e = .returned (.bool (decide (0 ≤ a ∧ a ≤ 1) && (TB && (NB && KB)))) ∧ Below W.heap.size W W' := by
  have HBA : Hid (Below W.heap.size W (W.alloc (.cells #[.int .i64 24, .string T1, .int .i64 n, .int .i64 m, .int .i64 a, .int .i64 pos, .string T2, .slice ad len cap] 24))) := (Below.refl _ _).alloc (Nat.le_refl _) _
  obtain ⟨hk0, hk1⟩ := hk
  obtain ⟨ha0, ha1⟩ := ha
  obtain ⟨hn0, hn1⟩ := hn
  obtain ⟨hm0, hm1⟩ := hm
  obtain ⟨hp0, hp1⟩ := hp
  subst h0
  subst h1
  rcases hd with s0 | ⟨s0, rfl, hsz, hdl, hd9, hh, hat⟩
  · rcases (show a < 0 ∨ 1 < a ∨ (0 ≤ a ∧ a ≤ 1) by omega) with h | h | ⟨hA0, hA1⟩
    · rw [decide_eq_false (p := 0 ≤ a ∧ a ≤ 1) (by omega), Bool.false_and]
      go_enter Tryz.func52, Tryz.ntmps52
      go_wp2
      go_ret
      exact ⟨by first | rfl | (simp <;> omega), HBA.out⟩
    · rw [decide_eq_false (p := 0 ≤ a ∧ a ≤ 1) (by omega), Bool.false_and]
      go_enter Tryz.func52, Tryz.ntmps52
      go_wp2
      go_ret
      exact ⟨by first | rfl | (simp <;> omega), HBA.out⟩
    · rw [decide_eq_true (p := 0 ≤ a ∧ a ≤ 1) ⟨hA0, hA1⟩, Bool.true_and]
      go_enter Tryz.func52, Tryz.ntmps52
      go_wp2_with fail
      refine Calls.mono (QT.out _ HBA.out) ?_
      rintro e w1 ⟨rfl, hb1⟩
      have p0 := own_cells hb1 0 _ rfl
      have p1 := own_cells hb1 1 _ rfl
      have p2 := own_cells hb1 2 _ rfl
      have p3 := own_cells hb1 3 _ rfl
      have p4 := own_cells hb1 4 _ rfl
      have p5 := own_cells hb1 5 _ rfl
      have p6 := own_cells hb1 6 _ rfl
      have p7 := own_cells hb1 7 _ rfl
      have HB1 : Hid (Below W.heap.size W w1) := HBA.out.trans (hb1.mono HBA.out.size)
      have HC1 : Hid _ := hb1
      clear hb1
      cases TB with
      | false =>
        go_wp2
        go_ret
        exact ⟨rfl, HB1.out⟩
      | true =>
        go_wp2_with fail
        refine Calls.mono (QN.out _ HB1.out) ?_
        rintro e w2 ⟨rfl, hb2⟩
        have hb12 := HC1.out.trans (hb2.mono HC1.out.size)
        have r0 := own_cells hb12 0 _ rfl
        have r1 := own_cells hb12 1 _ rfl
        have r2 := own_cells hb12 2 _ rfl
        have r3 := own_cells hb12 3 _ rfl
        have r4 := own_cells hb12 4 _ rfl
        have r5 := own_cells hb12 5 _ rfl
        have r6 := own_cells hb12 6 _ rfl
        have r7 := own_cells hb12 7 _ rfl
        have HB2 : Hid (Below W.heap.size W w2) := HB1.out.trans (hb2.mono HB1.out.size)
        clear hb2 hb12 p0 p1 p2 p3 p4 p5 p6 p7
        cases NB with
        | false =>
          go_wp2
          go_ret
          exact ⟨rfl, HB2.out⟩
        | true =>
          go_wp2_with fail
          refine Calls.mono (QK.out _ HB2.out) ?_
          rintro e w3 ⟨rfl, hb3⟩
          go_wp2
          go_ret
          exact ⟨rfl, HB2.out.trans (hb3.mono HB2.out.size)⟩
  · have hcast : (dl : Int) - 1 = ((dl - 1 : Nat) : Int) := by omega
    rcases (show a < 0 ∨ 1 < a ∨ (0 ≤ a ∧ a ≤ 1) by omega) with h | h | ⟨hA0, hA1⟩
    · rw [decide_eq_false (p := 0 ≤ a ∧ a ≤ 1) (by omega), Bool.false_and]
      go_enter Tryz.func52, Tryz.ntmps52
      go_wp2_with fail
      refine Calls.mono (QD.out _) ?_
      rintro e w9 ⟨rfl, rfl⟩
      go_wp2
      go_ret
      exact ⟨by first | rfl | (simp <;> omega), HBA.out⟩
    · rw [decide_eq_false (p := 0 ≤ a ∧ a ≤ 1) (by omega), Bool.false_and]
      go_enter Tryz.func52, Tryz.ntmps52
      go_wp2_with fail
      refine Calls.mono (QD.out _) ?_
      rintro e w9 ⟨rfl, rfl⟩
      go_wp2
      go_ret
      exact ⟨by first | rfl | (simp <;> omega), HBA.out⟩
    · rw [decide_eq_true (p := 0 ≤ a ∧ a ≤ 1) ⟨hA0, hA1⟩, Bool.true_and]
      go_enter Tryz.func52, Tryz.ntmps52
      go_wp2_with fail
      refine Calls.mono (QD.out _) ?_
      rintro e w9 ⟨rfl, rfl⟩
      go_wp2_with fail
      refine Calls.mono (QT.out _ HBA.out) ?_
      rintro e w1 ⟨rfl, hb1⟩
      have p0 := own_cells hb1 0 _ rfl
      have p1 := own_cells hb1 1 _ rfl
      have p2 := own_cells hb1 2 _ rfl
      have p3 := own_cells hb1 3 _ rfl
      have p4 := own_cells hb1 4 _ rfl
      have p5 := own_cells hb1 5 _ rfl
      have p6 := own_cells hb1 6 _ rfl
      have p7 := own_cells hb1 7 _ rfl
      have HB1 : Hid (Below W.heap.size W w1) := HBA.out.trans (hb1.mono HBA.out.size)
      have HC1 : Hid _ := hb1
      clear hb1
      cases TB with
      | false =>
        go_wp2
        go_ret
        exact ⟨rfl, HB1.out⟩
      | true =>
        go_wp2_with fail
        refine Calls.mono (QN.out _ HB1.out) ?_
        rintro e w2 ⟨rfl, hb2⟩
        have hb12 := HC1.out.trans (hb2.mono HC1.out.size)
        have r0 := own_cells hb12 0 _ rfl
        have r1 := own_cells hb12 1 _ rfl
        have r2 := own_cells hb12 2 _ rfl
        have r3 := own_cells hb12 3 _ rfl
        have r4 := own_cells hb12 4 _ rfl
        have r5 := own_cells hb12 5 _ rfl
        have r6 := own_cells hb12 6 _ rfl
        have r7 := own_cells hb12 7 _ rfl
        have HB2 : Hid (Below W.heap.size W w2) := HB1.out.trans (hb2.mono HB1.out.size)
        clear hb2 hb12 p0 p1 p2 p3 p4 p5 p6 p7
        cases NB with
        | false =>
          go_wp2
          go_ret
          exact ⟨rfl, HB2.out⟩
        | true =>
          go_wp2_with fail
          refine Calls.mono (QK.out _ HB2.out) ?_
          rintro e w3 ⟨rfl, hb3⟩
          go_wp2
          go_ret
          exact ⟨rfl, HB2.out.trans (hb3.mono HB2.out.size)⟩

set_option maxRecDepth 10000 in
set_option maxHeartbeats 8000000 in
theorem own_9 (n m a pos : Int) (T1 T2 : ByteArray) (ad : Option Addr) (len cap : Nat) (W : World) (D TB NB KB : Bool) (dl : Nat) (hk : i64b 9) (ha : i64b a) (hn : i64b n) (hm : i64b m) (hp : i64b pos) (hpos : ¬ pos < 0) (hd : docFit T2 dl D) (h0 : m = 0) (h1 : n = 0)
    (QD : Hid (∀ V, Calls Tryz.prog 68 #[.int .i64 9] V fun e w' => e = .returned (.bool D) ∧ V = w'))
    (QT : Hid (∀ V, Below W.heap.size W V → Calls Tryz.prog 69 #[.agg #[.int .i64 9, .string T1, .int .i64 n, .int .i64 m, .int .i64 a, .int .i64 pos, .string T2, .slice ad len cap]] V fun e w' => e = .returned (.bool TB) ∧ Below V.heap.size V w'))
    (QN : Hid (∀ V, Below W.heap.size W V → Calls Tryz.prog 70 #[.agg #[.int .i64 9, .string T1, .int .i64 n, .int .i64 m, .int .i64 a, .int .i64 pos, .string T2, .slice ad len cap]] V fun e w' => e = .returned (.bool NB) ∧ Below V.heap.size V w'))
    (QK : Hid (∀ V, Below W.heap.size W V → Calls Tryz.prog 71 #[.agg #[.int .i64 9, .string T1, .int .i64 n, .int .i64 m, .int .i64 a, .int .i64 pos, .string T2, .slice ad len cap]] V fun e w' => e = .returned (.bool KB) ∧ Below V.heap.size V w')) :
    Calls Tryz.prog 52 #[.agg #[.int .i64 9, .string T1, .int .i64 n, .int .i64 m, .int .i64 a, .int .i64 pos, .string T2, .slice ad len cap]] W fun e W' => e = .returned (.bool (decide (0 ≤ a ∧ a ≤ 3) && (TB && (NB && KB)))) ∧ Below W.heap.size W W' := by
  have HBA : Hid (Below W.heap.size W (W.alloc (.cells #[.int .i64 9, .string T1, .int .i64 n, .int .i64 m, .int .i64 a, .int .i64 pos, .string T2, .slice ad len cap] 24))) := (Below.refl _ _).alloc (Nat.le_refl _) _
  obtain ⟨hk0, hk1⟩ := hk
  obtain ⟨ha0, ha1⟩ := ha
  obtain ⟨hn0, hn1⟩ := hn
  obtain ⟨hm0, hm1⟩ := hm
  obtain ⟨hp0, hp1⟩ := hp
  subst h0
  subst h1
  rcases hd with s0 | ⟨s0, rfl, hsz, hdl, hd9, hh, hat⟩
  · rcases (show a < 0 ∨ 3 < a ∨ (0 ≤ a ∧ a ≤ 3) by omega) with h | h | ⟨hA0, hA1⟩
    · rw [decide_eq_false (p := 0 ≤ a ∧ a ≤ 3) (by omega), Bool.false_and]
      go_enter Tryz.func52, Tryz.ntmps52
      go_wp2
      go_ret
      exact ⟨by first | rfl | (simp <;> omega), HBA.out⟩
    · rw [decide_eq_false (p := 0 ≤ a ∧ a ≤ 3) (by omega), Bool.false_and]
      go_enter Tryz.func52, Tryz.ntmps52
      go_wp2
      go_ret
      exact ⟨by first | rfl | (simp <;> omega), HBA.out⟩
    · rw [decide_eq_true (p := 0 ≤ a ∧ a ≤ 3) ⟨hA0, hA1⟩, Bool.true_and]
      go_enter Tryz.func52, Tryz.ntmps52
      go_wp2_with fail
      refine Calls.mono (QT.out _ HBA.out) ?_
      rintro e w1 ⟨rfl, hb1⟩
      have p0 := own_cells hb1 0 _ rfl
      have p1 := own_cells hb1 1 _ rfl
      have p2 := own_cells hb1 2 _ rfl
      have p3 := own_cells hb1 3 _ rfl
      have p4 := own_cells hb1 4 _ rfl
      have p5 := own_cells hb1 5 _ rfl
      have p6 := own_cells hb1 6 _ rfl
      have p7 := own_cells hb1 7 _ rfl
      have HB1 : Hid (Below W.heap.size W w1) := HBA.out.trans (hb1.mono HBA.out.size)
      have HC1 : Hid _ := hb1
      clear hb1
      cases TB with
      | false =>
        go_wp2
        go_ret
        exact ⟨rfl, HB1.out⟩
      | true =>
        go_wp2_with fail
        refine Calls.mono (QN.out _ HB1.out) ?_
        rintro e w2 ⟨rfl, hb2⟩
        have hb12 := HC1.out.trans (hb2.mono HC1.out.size)
        have r0 := own_cells hb12 0 _ rfl
        have r1 := own_cells hb12 1 _ rfl
        have r2 := own_cells hb12 2 _ rfl
        have r3 := own_cells hb12 3 _ rfl
        have r4 := own_cells hb12 4 _ rfl
        have r5 := own_cells hb12 5 _ rfl
        have r6 := own_cells hb12 6 _ rfl
        have r7 := own_cells hb12 7 _ rfl
        have HB2 : Hid (Below W.heap.size W w2) := HB1.out.trans (hb2.mono HB1.out.size)
        clear hb2 hb12 p0 p1 p2 p3 p4 p5 p6 p7
        cases NB with
        | false =>
          go_wp2
          go_ret
          exact ⟨rfl, HB2.out⟩
        | true =>
          go_wp2_with fail
          refine Calls.mono (QK.out _ HB2.out) ?_
          rintro e w3 ⟨rfl, hb3⟩
          go_wp2
          go_ret
          exact ⟨rfl, HB2.out.trans (hb3.mono HB2.out.size)⟩
  · have hcast : (dl : Int) - 1 = ((dl - 1 : Nat) : Int) := by omega
    rcases (show a < 0 ∨ 3 < a ∨ (0 ≤ a ∧ a ≤ 3) by omega) with h | h | ⟨hA0, hA1⟩
    · rw [decide_eq_false (p := 0 ≤ a ∧ a ≤ 3) (by omega), Bool.false_and]
      go_enter Tryz.func52, Tryz.ntmps52
      go_wp2_with fail
      refine Calls.mono (QD.out _) ?_
      rintro e w9 ⟨rfl, rfl⟩
      go_wp2
      go_ret
      exact ⟨by first | rfl | (simp <;> omega), HBA.out⟩
    · rw [decide_eq_false (p := 0 ≤ a ∧ a ≤ 3) (by omega), Bool.false_and]
      go_enter Tryz.func52, Tryz.ntmps52
      go_wp2_with fail
      refine Calls.mono (QD.out _) ?_
      rintro e w9 ⟨rfl, rfl⟩
      go_wp2
      go_ret
      exact ⟨by first | rfl | (simp <;> omega), HBA.out⟩
    · rw [decide_eq_true (p := 0 ≤ a ∧ a ≤ 3) ⟨hA0, hA1⟩, Bool.true_and]
      go_enter Tryz.func52, Tryz.ntmps52
      go_wp2_with fail
      refine Calls.mono (QD.out _) ?_
      rintro e w9 ⟨rfl, rfl⟩
      go_wp2_with fail
      refine Calls.mono (QT.out _ HBA.out) ?_
      rintro e w1 ⟨rfl, hb1⟩
      have p0 := own_cells hb1 0 _ rfl
      have p1 := own_cells hb1 1 _ rfl
      have p2 := own_cells hb1 2 _ rfl
      have p3 := own_cells hb1 3 _ rfl
      have p4 := own_cells hb1 4 _ rfl
      have p5 := own_cells hb1 5 _ rfl
      have p6 := own_cells hb1 6 _ rfl
      have p7 := own_cells hb1 7 _ rfl
      have HB1 : Hid (Below W.heap.size W w1) := HBA.out.trans (hb1.mono HBA.out.size)
      have HC1 : Hid _ := hb1
      clear hb1
      cases TB with
      | false =>
        go_wp2
        go_ret
        exact ⟨rfl, HB1.out⟩
      | true =>
        go_wp2_with fail
        refine Calls.mono (QN.out _ HB1.out) ?_
        rintro e w2 ⟨rfl, hb2⟩
        have hb12 := HC1.out.trans (hb2.mono HC1.out.size)
        have r0 := own_cells hb12 0 _ rfl
        have r1 := own_cells hb12 1 _ rfl
        have r2 := own_cells hb12 2 _ rfl
        have r3 := own_cells hb12 3 _ rfl
        have r4 := own_cells hb12 4 _ rfl
        have r5 := own_cells hb12 5 _ rfl
        have r6 := own_cells hb12 6 _ rfl
        have r7 := own_cells hb12 7 _ rfl
        have HB2 : Hid (Below W.heap.size W w2) := HB1.out.trans (hb2.mono HB1.out.size)
        clear hb2 hb12 p0 p1 p2 p3 p4 p5 p6 p7
        cases NB with
        | false =>
          go_wp2
          go_ret
          exact ⟨rfl, HB2.out⟩
        | true =>
          go_wp2_with fail
          refine Calls.mono (QK.out _ HB2.out) ?_
          rintro e w3 ⟨rfl, hb3⟩
          go_wp2
          go_ret
          exact ⟨rfl, HB2.out.trans (hb3.mono HB2.out.size)⟩

set_option maxRecDepth 10000 in
set_option maxHeartbeats 8000000 in
theorem own_17 (n m a pos : Int) (T1 T2 : ByteArray) (ad : Option Addr) (len cap : Nat) (W : World) (D TB NB KB : Bool) (dl : Nat) (hk : i64b 17) (ha : i64b a) (hn : i64b n) (hm : i64b m) (hp : i64b pos) (hpos : ¬ pos < 0) (hd : docFit T2 dl D) (h0 : m = 0) (h1 : n = 0)
    (QD : Hid (∀ V, Calls Tryz.prog 68 #[.int .i64 17] V fun e w' => e = .returned (.bool D) ∧ V = w'))
    (QT : Hid (∀ V, Below W.heap.size W V → Calls Tryz.prog 69 #[.agg #[.int .i64 17, .string T1, .int .i64 n, .int .i64 m, .int .i64 a, .int .i64 pos, .string T2, .slice ad len cap]] V fun e w' => e = .returned (.bool TB) ∧ Below V.heap.size V w'))
    (QN : Hid (∀ V, Below W.heap.size W V → Calls Tryz.prog 70 #[.agg #[.int .i64 17, .string T1, .int .i64 n, .int .i64 m, .int .i64 a, .int .i64 pos, .string T2, .slice ad len cap]] V fun e w' => e = .returned (.bool NB) ∧ Below V.heap.size V w'))
    (QK : Hid (∀ V, Below W.heap.size W V → Calls Tryz.prog 71 #[.agg #[.int .i64 17, .string T1, .int .i64 n, .int .i64 m, .int .i64 a, .int .i64 pos, .string T2, .slice ad len cap]] V fun e w' => e = .returned (.bool KB) ∧ Below V.heap.size V w')) :
    Calls Tryz.prog 52 #[.agg #[.int .i64 17, .string T1, .int .i64 n, .int .i64 m, .int .i64 a, .int .i64 pos, .string T2, .slice ad len cap]] W fun e W' => e = .returned (.bool (decide (0 ≤ a ∧ a ≤ 3) && (TB && (NB && KB)))) ∧ Below W.heap.size W W' := by
  have HBA : Hid (Below W.heap.size W (W.alloc (.cells #[.int .i64 17, .string T1, .int .i64 n, .int .i64 m, .int .i64 a, .int .i64 pos, .string T2, .slice ad len cap] 24))) := (Below.refl _ _).alloc (Nat.le_refl _) _
  obtain ⟨hk0, hk1⟩ := hk
  obtain ⟨ha0, ha1⟩ := ha
  obtain ⟨hn0, hn1⟩ := hn
  obtain ⟨hm0, hm1⟩ := hm
  obtain ⟨hp0, hp1⟩ := hp
  subst h0
  subst h1
  rcases hd with s0 | ⟨s0, rfl, hsz, hdl, hd9, hh, hat⟩
  · rcases (show a < 0 ∨ 3 < a ∨ (0 ≤ a ∧ a ≤ 3) by omega) with h | h | ⟨hA0, hA1⟩
    · rw [decide_eq_false (p := 0 ≤ a ∧ a ≤ 3) (by omega), Bool.false_and]
      go_enter Tryz.func52, Tryz.ntmps52
      go_wp2
      go_ret
      exact ⟨by first | rfl | (simp <;> omega), HBA.out⟩
    · rw [decide_eq_false (p := 0 ≤ a ∧ a ≤ 3) (by omega), Bool.false_and]
      go_enter Tryz.func52, Tryz.ntmps52
      go_wp2
      go_ret
      exact ⟨by first | rfl | (simp <;> omega), HBA.out⟩
    · rw [decide_eq_true (p := 0 ≤ a ∧ a ≤ 3) ⟨hA0, hA1⟩, Bool.true_and]
      go_enter Tryz.func52, Tryz.ntmps52
      go_wp2_with fail
      refine Calls.mono (QT.out _ HBA.out) ?_
      rintro e w1 ⟨rfl, hb1⟩
      have p0 := own_cells hb1 0 _ rfl
      have p1 := own_cells hb1 1 _ rfl
      have p2 := own_cells hb1 2 _ rfl
      have p3 := own_cells hb1 3 _ rfl
      have p4 := own_cells hb1 4 _ rfl
      have p5 := own_cells hb1 5 _ rfl
      have p6 := own_cells hb1 6 _ rfl
      have p7 := own_cells hb1 7 _ rfl
      have HB1 : Hid (Below W.heap.size W w1) := HBA.out.trans (hb1.mono HBA.out.size)
      have HC1 : Hid _ := hb1
      clear hb1
      cases TB with
      | false =>
        go_wp2
        go_ret
        exact ⟨rfl, HB1.out⟩
      | true =>
        go_wp2_with fail
        refine Calls.mono (QN.out _ HB1.out) ?_
        rintro e w2 ⟨rfl, hb2⟩
        have hb12 := HC1.out.trans (hb2.mono HC1.out.size)
        have r0 := own_cells hb12 0 _ rfl
        have r1 := own_cells hb12 1 _ rfl
        have r2 := own_cells hb12 2 _ rfl
        have r3 := own_cells hb12 3 _ rfl
        have r4 := own_cells hb12 4 _ rfl
        have r5 := own_cells hb12 5 _ rfl
        have r6 := own_cells hb12 6 _ rfl
        have r7 := own_cells hb12 7 _ rfl
        have HB2 : Hid (Below W.heap.size W w2) := HB1.out.trans (hb2.mono HB1.out.size)
        clear hb2 hb12 p0 p1 p2 p3 p4 p5 p6 p7
        cases NB with
        | false =>
          go_wp2
          go_ret
          exact ⟨rfl, HB2.out⟩
        | true =>
          go_wp2_with fail
          refine Calls.mono (QK.out _ HB2.out) ?_
          rintro e w3 ⟨rfl, hb3⟩
          go_wp2
          go_ret
          exact ⟨rfl, HB2.out.trans (hb3.mono HB2.out.size)⟩
  · have hcast : (dl : Int) - 1 = ((dl - 1 : Nat) : Int) := by omega
    rcases (show a < 0 ∨ 3 < a ∨ (0 ≤ a ∧ a ≤ 3) by omega) with h | h | ⟨hA0, hA1⟩
    · rw [decide_eq_false (p := 0 ≤ a ∧ a ≤ 3) (by omega), Bool.false_and]
      go_enter Tryz.func52, Tryz.ntmps52
      go_wp2_with fail
      refine Calls.mono (QD.out _) ?_
      rintro e w9 ⟨rfl, rfl⟩
      go_wp2
      go_ret
      exact ⟨by first | rfl | (simp <;> omega), HBA.out⟩
    · rw [decide_eq_false (p := 0 ≤ a ∧ a ≤ 3) (by omega), Bool.false_and]
      go_enter Tryz.func52, Tryz.ntmps52
      go_wp2_with fail
      refine Calls.mono (QD.out _) ?_
      rintro e w9 ⟨rfl, rfl⟩
      go_wp2
      go_ret
      exact ⟨by first | rfl | (simp <;> omega), HBA.out⟩
    · rw [decide_eq_true (p := 0 ≤ a ∧ a ≤ 3) ⟨hA0, hA1⟩, Bool.true_and]
      go_enter Tryz.func52, Tryz.ntmps52
      go_wp2_with fail
      refine Calls.mono (QD.out _) ?_
      rintro e w9 ⟨rfl, rfl⟩
      go_wp2_with fail
      refine Calls.mono (QT.out _ HBA.out) ?_
      rintro e w1 ⟨rfl, hb1⟩
      have p0 := own_cells hb1 0 _ rfl
      have p1 := own_cells hb1 1 _ rfl
      have p2 := own_cells hb1 2 _ rfl
      have p3 := own_cells hb1 3 _ rfl
      have p4 := own_cells hb1 4 _ rfl
      have p5 := own_cells hb1 5 _ rfl
      have p6 := own_cells hb1 6 _ rfl
      have p7 := own_cells hb1 7 _ rfl
      have HB1 : Hid (Below W.heap.size W w1) := HBA.out.trans (hb1.mono HBA.out.size)
      have HC1 : Hid _ := hb1
      clear hb1
      cases TB with
      | false =>
        go_wp2
        go_ret
        exact ⟨rfl, HB1.out⟩
      | true =>
        go_wp2_with fail
        refine Calls.mono (QN.out _ HB1.out) ?_
        rintro e w2 ⟨rfl, hb2⟩
        have hb12 := HC1.out.trans (hb2.mono HC1.out.size)
        have r0 := own_cells hb12 0 _ rfl
        have r1 := own_cells hb12 1 _ rfl
        have r2 := own_cells hb12 2 _ rfl
        have r3 := own_cells hb12 3 _ rfl
        have r4 := own_cells hb12 4 _ rfl
        have r5 := own_cells hb12 5 _ rfl
        have r6 := own_cells hb12 6 _ rfl
        have r7 := own_cells hb12 7 _ rfl
        have HB2 : Hid (Below W.heap.size W w2) := HB1.out.trans (hb2.mono HB1.out.size)
        clear hb2 hb12 p0 p1 p2 p3 p4 p5 p6 p7
        cases NB with
        | false =>
          go_wp2
          go_ret
          exact ⟨rfl, HB2.out⟩
        | true =>
          go_wp2_with fail
          refine Calls.mono (QK.out _ HB2.out) ?_
          rintro e w3 ⟨rfl, hb3⟩
          go_wp2
          go_ret
          exact ⟨rfl, HB2.out.trans (hb3.mono HB2.out.size)⟩

end Go.Proofs.YtgkablmglkagfaaGreatDoor
