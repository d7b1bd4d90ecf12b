/- Put together by a program out of these texts of mine: PPlain, PPlain2, TProg, PPlain3, TAwake. -/
import Derived.Test.YtgkablmglkagfaaGreatDoorBunC10
import Derived.Test.YtgkablmglkagfaaGreatDoorBunC13
import Derived.Test.YtgkablmglkagfaaGreatDoorBunC21

/- What the program's rules take is what the document's list says: plain functions alone. -/
namespace Go.Proofs.YtgkablmglkagfaaGreatDoor
set_option linter.unusedVariables false
set_option linter.unusedSimpArgs false

theorem Tn.eta (t : Tn) : ∃ k tx n m a p d ad c ks, t = .mk k tx n m a p d ad c ks := by
  obtain ⟨k, tx, n, m, a, p, d, ad, c, ks⟩ := t
  exact ⟨_, _, _, _, _, _, _, _, _, _, rfl⟩

/-- Kids of some kinds, packages counted. -/
theorem tka_all (kind : Int) (hk : kind ≠ 11) (ne : Bool) : ∀ (l : List Tn) (p : Nat), tka kind ne l p = ((l.all fun t => tmay kind t.kind) && (decide (p + pkCount l ≤ 1) && ne))
  | [], p => by
    rw [tka]
    show (decide ((p : Int) ≤ 1) && ne) = (true && (decide (p + 0 ≤ 1) && ne))
    rw [Bool.true_and]
    congr 1
    rw [Bool.eq_iff_iff, decide_eq_true_eq, decide_eq_true_eq]
    omega
  | t :: r, p => by
    obtain ⟨kd, tx, n, m, a, ps, d, ad, c, ks, rfl⟩ := t.eta
    rw [tka, List.all_cons]
    by_cases hm : tmay kind kd = false
    · rw [if_pos (.inl hm)]
      simp [Tn.kind, hm]
    · rw [if_neg (fun h => h.elim hm (fun g => hk g.1))]
      have hm' : tmay kind kd = true := by simpa using hm
      by_cases h3 : kd = 3
      · rw [if_pos h3]
        have := tka_all kind hk ne r (p + 1)
        rw [show ((p + 1 : Nat) : Int) = (p : Int) + 1 by omega] at this
        rw [this]
        have hc : pkCount (.mk kd tx n m a ps d ad c ks :: r) = pkCount r + 1 := by simp [pkCount, Tn.kind, h3]
        rw [hc]
        simp only [Tn.kind, hm', Bool.true_and]
        rw [show p + 1 + pkCount r = p + (pkCount r + 1) by omega]
      · rw [if_neg h3, tka_all kind hk ne r p]
        have hc : pkCount (.mk kd tx n m a ps d ad c ks :: r) = pkCount r := by simp [pkCount, Tn.kind, h3]
        rw [hc]
        simp only [Tn.kind, hm', Bool.true_and]

/-- .. where no kid may be a package. -/
theorem pk_none {zs : List Int} (hz : (3 : Int) ∉ zs) : ∀ {l : List Tn}, (l.all fun t => zs.contains t.kind) = true → pkCount l = 0 := by
  intro l h
  rw [List.all_eq_true] at h
  unfold pkCount
  rw [List.length_eq_zero_iff, List.filter_eq_nil_iff]
  intro t ht h3
  have h1 := h t ht
  have h3 : t.kind = 3 := by simpa using h3
  rw [h3] at h1
  exact hz (by simpa using h1)

theorem all_congr7 {p q : Tn → Bool} (h : ∀ t, p t = q t) (l : List Tn) : l.all p = l.all q := by
  induction l with
  | nil => rfl
  | cons t r ih => rw [List.all_cons, List.all_cons, h t, ih]

theorem may_cont {kind : Int} {zs : List Int} (h : ∀ x, tmay kind x = decide (x ∈ zs)) (t : Tn) : tmay kind t.kind = zs.contains t.kind := by
  rw [h, Bool.eq_iff_iff]
  simp

theorem tka_only (kind : Int) (hk : kind ≠ 11) (zs : List Int) (hz : (3 : Int) ∉ zs) (h : ∀ x, tmay kind x = decide (x ∈ zs)) (ne : Bool) (l : List Tn) : tka kind ne l 0 = ((l.all fun t => zs.contains t.kind) && ne) := by
  have := tka_all kind hk ne l 0
  rw [show ((0 : Nat) : Int) = 0 from rfl] at this
  rw [this, all_congr7 (may_cont h)]
  by_cases hl : (l.all fun t => zs.contains t.kind) = true
  · rw [hl, pk_none hz hl]
    simp
  · have : (l.all fun t => zs.contains t.kind) = false := by simpa using hl
    rw [this]
    simp

theorem tka_one (ne : Bool) : ∀ (l : List Tn) (p : Nat), p ≤ 1 → tka 11 ne l p = (l.all pkOne && ne)
  | [], p, hp => by rw [tka]; simp; intro _; omega
  | t :: r, p, hp => by
    obtain ⟨kd, tx, n, m, a, ps, d, ad, c, ks, rfl⟩ := t.eta
    rw [tka, List.all_cons]
    have hmay : tmay 11 kd = decide (kd = 9 ∨ kd = 4) := rfl
    by_cases hbad : tmay 11 kd = false ∨ ((11 : Int) = 11 ∧ kd = 9 ∧ a ≠ 0)
    · rw [if_pos hbad]
      have : pkOne (.mk kd tx n m a ps d ad c ks) = false := by
        unfold pkOne
        simp only [Tn.kind, Tn.a]
        rcases hbad with h | ⟨_, h1, h2⟩
        · rw [hmay] at h
          have h := of_decide_eq_false h
          simp
          omega
        · simp
          omega
      rw [this]; simp
    · rw [if_neg hbad]
      have h1 : tmay 11 kd = true := by
        cases h : tmay 11 kd
        · exact absurd (.inl h) hbad
        · rfl
      rw [hmay] at h1
      have h1 := of_decide_eq_true h1
      have h2 : kd = 9 → a = 0 := fun h9 => by
        by_cases ha : a = 0
        · exact ha
        · exact absurd (.inr ⟨rfl, h9, ha⟩) hbad
      have : pkOne (.mk kd tx n m a ps d ad c ks) = true := by
        unfold pkOne
        simp only [Tn.kind, Tn.a]
        simp
        omega
      rw [this, if_neg (by omega), tka_one ne r p hp]
      simp

theorem tkb_all (k0 : Int) : ∀ l : List Tn, tkb k0 l = l.all fun t => decide ((t.kind = 14 ∨ t.kind = 15) ∧ t.kind = k0)
  | [] => by rw [tkb]; rfl
  | t :: r => by
    obtain ⟨kd, tx, n, m, a, ps, d, ad, c, ks, rfl⟩ := t.eta
    rw [tkb, List.all_cons]
    by_cases h : (kd ≠ 14 ∧ kd ≠ 15) ∨ kd ≠ k0
    · have e : decide (((Tn.mk kd tx n m a ps d ad c ks).kind = 14 ∨ (Tn.mk kd tx n m a ps d ad c ks).kind = 15) ∧ (Tn.mk kd tx n m a ps d ad c ks).kind = k0) = false := decide_eq_false (fun (g : (kd = 14 ∨ kd = 15) ∧ kd = k0) => by omega)
      rw [if_pos h, e]
      rfl
    · have e : decide (((Tn.mk kd tx n m a ps d ad c ks).kind = 14 ∨ (Tn.mk kd tx n m a ps d ad c ks).kind = 15) ∧ (Tn.mk kd tx n m a ps d ad c ks).kind = k0) = true := decide_eq_true (show (kd = 14 ∨ kd = 15) ∧ kd = k0 by omega)
      rw [if_neg h, tkb_all k0 r, e]
      rfl

theorem all_of {p : Tn → Bool} {l : List Tn} (h : ∀ t ∈ l, p t = true) : l.all p = true := List.all_eq_true.2 h

theorem kd13 (l : List Tn) : (pkSome 14 l || pkSome 15 l) = (tkb (tkind0 l 0) l && decide (0 < l.length)) := by
  rw [tkb_all]
  unfold pkSome
  cases l with
  | nil => rfl
  | cons t r =>
    have hk : tkind0 (t :: r) 0 = t.kind := rfl
    rw [hk]
    simp only [List.length_cons, Nat.zero_lt_succ, decide_true, Bool.true_and, Bool.and_true]
    rw [Bool.eq_iff_iff, Bool.or_eq_true, List.all_eq_true, List.all_eq_true, List.all_eq_true]
    constructor
    · rintro (h | h)
      all_goals
        intro u hu
        have h1 := h u hu
        have h2 := h t (by simp)
        simp at h1 h2
        exact decide_eq_true (by omega)
    · intro h
      have h2 := of_decide_eq_true (h t (by simp))
      rcases h2.1 with h3 | h3
      · left
        intro u hu
        have := of_decide_eq_true (h u hu)
        simp
        omega
      · right
        intro u hu
        have := of_decide_eq_true (h u hu)
        simp
        omega

theorem worth_eq (k : Int) : tworth k = pkWorth k := by
  unfold tworth pkWorth
  rw [Bool.eq_iff_iff]
  simp
  omega

theorem kd24 (l : List Tn) : pkEntry l = (decide (l.length = 1) && tworth (tkind0 l 0)) := by
  unfold pkEntry
  cases l with
  | nil => rfl
  | cons t r =>
    rw [worth_eq]
    show (_ && pkWorth t.kind) = (_ && pkWorth t.kind)
    congr 1

theorem tkc_all (len : Int) : ∀ (l : List Tn) (i : Int), i + l.length = len → tkc len l i = (l.take (l.length - 1)).all fun t => [19].contains t.kind
  | [], i, _ => by rw [tkc]; rfl
  | [t], i, h => by
    obtain ⟨kd, tx, n, m, a, ps, d, ad, c, ks, rfl⟩ := t.eta
    rw [tkc, if_neg (by simp at h; omega), tkc]
    rfl
  | t :: u :: r, i, h => by
    obtain ⟨kd, tx, n, m, a, ps, d, ad, c, ks, rfl⟩ := t.eta
    rw [tkc, tkc_all len (u :: r) (i + 1) (by simp at h ⊢; omega)]
    have hl : (Tn.mk kd tx n m a ps d ad c ks :: u :: r).length - 1 = (u :: r).length - 1 + 1 := by simp
    rw [hl, List.take_succ_cons, List.all_cons]
    by_cases hk : kd = 19
    · rw [if_neg (by omega)]
      simp [Tn.kind, hk]
    · rw [if_pos ⟨by simp at h; omega, hk⟩]
      simp [Tn.kind, hk]

theorem kd4 (l : List Tn) : pkOption l = (tkc l.length l 0 && (decide (2 ≤ l.length) && tworth (tkind0 l (l.length - 1)))) := by
  rw [tkc_all l.length l 0 (by omega)]
  unfold pkOption pkSome
  by_cases h : 1 < l.length
  · rw [decide_eq_true h, decide_eq_true (p := 2 ≤ l.length) (by omega), Bool.true_and, Bool.true_and]
    have hl : (l.take (l.length - 1)).length = l.length - 1 := by rw [List.length_take]; omega
    rw [hl, decide_eq_true (p := 0 < l.length - 1) (by omega), Bool.true_and]
    congr 1
    have hlt : l.length - 1 < l.length := by omega
    rw [List.drop_eq_getElem_cons hlt, worth_eq]
    unfold tkind0
    rw [List.getElem?_eq_getElem hlt]
    rfl
  · rw [decide_eq_false h, decide_eq_false (p := 2 ≤ l.length) (by omega)]
    simp

theorem tkd_all (ty : Nat) (h0 : 0 < ty) : ∀ (l : List Tn) (i : Nat), tkd ty l i = (((l.take (ty - i)).all fun t => [18].contains t.kind) && ((l.drop (ty - i)).all fun t => [4].contains t.kind))
  | [], i => by rw [tkd]; simp
  | t :: r, i => by
    obtain ⟨kd, tx, n, m, a, ps, d, ad, c, ks, rfl⟩ := t.eta
    rw [tkd]
    have ih := tkd_all ty h0 r (i + 1)
    rw [show ((i + 1 : Nat) : Int) = (i : Int) + 1 by omega] at ih
    by_cases hi : i < ty
    · rw [show ty - i = (ty - (i + 1)) + 1 by omega, List.take_succ_cons, List.drop_succ_cons, List.all_cons]
      by_cases hk : kd = 18
      · rw [if_neg (by omega), ih]
        simp [Tn.kind, hk]
      · rw [if_pos (by omega)]
        simp [Tn.kind, hk]
    · rw [show ty - i = 0 by omega]
      rw [show ty - (i + 1) = 0 by omega] at ih
      rw [List.take_zero, List.drop_zero]
      rw [List.take_zero, List.drop_zero] at ih
      by_cases hk : kd = 4
      · rw [if_neg (by omega), ih]
        simp [Tn.kind, hk]
      · rw [if_pos (by omega)]
        simp [Tn.kind, hk]

theorem kdtyp (ty : Nat) (h0 : 0 < ty) (l : List Tn) : ptyp ty l = (tkd ty l 0 && decide ((ty : Int) ≤ l.length)) := by
  have := tkd_all ty h0 l 0
  rw [show ((0 : Nat) : Int) = 0 from rfl] at this
  rw [this]
  unfold ptyp
  rw [Nat.sub_zero, Bool.and_comm]
  congr 1
  rw [Bool.eq_iff_iff]
  simp

theorem kd10 (l : List Tn) : pkMap l = (tkd 2 l 0 && (decide ((2 : Int) ≤ l.length) && decide (nword (ttext0 l) ≠ 0))) := by
  unfold pkMap
  rw [kdtyp 2 (by omega), Bool.and_assoc]
  congr 2
  cases l with
  | nil => simp [pkHead, ttext0]; decide
  | cons t r => rw [npl_word]; rfl

theorem kd0 (l : List Tn) : (l.length == 0) = (tkd 0 l 0 && decide ((0 : Int) ≤ l.length)) := by
  cases l with
  | nil => rfl
  | cons t r =>
    obtain ⟨kd, tx, n, m, a, ps, d, ad, c, ks, rfl⟩ := t.eta
    rw [tkd, if_pos (.inl rfl)]
    rfl

theorem kd1 (l : List Tn) : pkFile l = tka 1 (decide ((1 : Int) ≠ 12 ∨ 0 < l.length)) l 0 := by
  have := tka_all 1 (by omega) (decide ((1 : Int) ≠ 12 ∨ 0 < l.length)) l 0
  rw [show ((0 : Nat) : Int) = 0 from rfl] at this
  rw [this]
  unfold pkFile
  rw [Nat.zero_add, decide_eq_true (p := (1 : Int) ≠ 12 ∨ 0 < l.length) (.inl (by omega)), Bool.and_true]
  congr 1
  refine all_congr7 (fun t => ?_) l
  show _ = decide (2 ≤ t.kind ∧ t.kind ≤ 8)
  rw [Bool.eq_iff_iff]
  simp
  omega

end Go.Proofs.YtgkablmglkagfaaGreatDoor

/- What the program's rules take is what the document's list says: put together. -/
namespace Go.Proofs.YtgkablmglkagfaaGreatDoor
set_option linter.unusedVariables false
set_option linter.unusedSimpArgs false

theorem npl_free : ∀ z ∈ npl, z.takeWhile ppt = z ∧ z.getD 0 0 ≠ 46 := by decide

theorem named_not {s : List Int} (h : s ∈ npl) : pnamed s = false := by
  unfold pnamed
  obtain ⟨h1, h2⟩ := npl_free s h
  rw [if_neg h2, h1]
  have : nkey s = true := by
    unfold nkey
    rw [npl_word, decide_eq_true h, Bool.or_true]
  rw [this]
  simp

theorem word_npl (s : List Int) : nword s ≠ 0 ↔ s ∈ npl := by
  have := npl_word s
  rw [Bool.eq_iff_iff, decide_eq_true_eq, decide_eq_true_eq] at this
  exact this

theorem tx7 (s : List Int) : pnamed s = ((ttype s).1 && (ttype s).2) := by
  unfold ttype
  by_cases h : s.getD 0 0 = 46
  · rw [if_pos h]
    unfold pnamed tref
    rw [if_pos h, if_pos h, Bool.and_true]
  · rw [if_neg h]
    by_cases hw : nword s ≠ 0
    · rw [if_pos hw, named_not ((word_npl s).1 hw)]
      rfl
    · rw [if_neg hw]
      unfold pnamed
      rw [if_neg h, Bool.and_true]
      have := nsp_head s []
      rw [List.nil_append] at this
      unfold nparts
      rw [this]

theorem tx18 (s : List Int) : (decide (s ∈ npl) || pnamed s) = (ttype s).1 := by
  unfold ttype
  by_cases h : s.getD 0 0 = 46
  · rw [if_pos h, decide_eq_false (fun hm => (npl_free s hm).2 h), Bool.false_or]
    unfold pnamed tref
    rw [if_pos h, if_pos h]
  · rw [if_neg h]
    by_cases hw : nword s ≠ 0
    · rw [if_pos hw, decide_eq_true ((word_npl s).1 hw)]
      rfl
    · rw [if_neg hw, decide_eq_false (fun hm => hw ((word_npl s).2 hm)), Bool.false_or]
      unfold pnamed
      rw [if_neg h]
      have := nsp_head s []
      rw [List.nil_append] at this
      unfold nparts
      rw [this]

theorem tref_eq (s : List Int) : nfull (if s.getD 0 0 = 46 then s.drop 1 else s) = tref s := by
  unfold tref
  split <;> rfl

theorem doc_eq (doc : List Int) (dd : Bool) : ((doc == []) || (dd && pdocOk doc)) = decide (doc = [] ∨ (dd = true ∧ doc.getD (doc.length - 1) 0 = 10 ∧ (doc.length : Int) ≤ 10000)) := by
  unfold pdocOk
  rcases List.eq_nil_or_concat doc with rfl | ⟨r, c, rfl⟩
  · rfl
  · have e : (r.concat c).getD ((r.concat c).length - 1) 0 = c := by simp
    rw [e]
    have hne : (r.concat c == []) = false := by simp
    have hl : (r.concat c).getLast? = some c := by simp
    rw [hne, hl, Bool.eq_iff_iff]
    simp

theorem core7 {k F T M n m a pos : Int} {S X K TN D : Bool} {tdo : Prop} [Decidable tdo] (hD : D = decide tdo)
    (hN : ((decide (F ≤ n) && decide (n ≤ T)) && ((m == 0) || (S && (decide (F ≤ m) && decide (m ≤ T))))) = (decide (¬ ((m ≠ 0 ∧ k ≠ 14) ∨ (n ≠ 0 ∧ k ≠ 14 ∧ k ≠ 9 ∧ k ≠ 10 ∧ k ≠ 16))) && TN)) :
    (decide (0 ≤ pos) && (decide (0 ≤ a) && (decide (a ≤ M) && ((decide (F ≤ n) && decide (n ≤ T)) && (((m == 0) || (S && (decide (F ≤ m) && decide (m ≤ T)))) && (D && (X && K))))))) =
      (if pos < 0 ∨ ¬ tdo then false else if (m ≠ 0 ∧ k ≠ 14) ∨ (n ≠ 0 ∧ k ≠ 14 ∧ k ≠ 9 ∧ k ≠ 10 ∧ k ≠ 16) then false else decide (0 ≤ a ∧ a ≤ M) && (X && (TN && K))) := by
  rw [hD]
  by_cases h1 : pos < 0 ∨ ¬ tdo
  · rw [if_pos h1]
    rcases h1 with h1 | h1
    · rw [decide_eq_false (p := 0 ≤ pos) (by omega)]; rfl
    · rw [decide_eq_false h1]; simp
  rw [if_neg h1]
  have h1a : 0 ≤ pos := by
    rcases Int.lt_or_le pos 0 with h | h
    · exact absurd (.inl h) h1
    · exact h
  have h1b : tdo := Classical.byContradiction fun h => h1 (.inr h)
  rw [decide_eq_true h1a, decide_eq_true h1b, Bool.true_and, Bool.true_and, ← Bool.and_assoc (decide (F ≤ n) && decide (n ≤ T)), hN]
  by_cases h2 : (m ≠ 0 ∧ k ≠ 14) ∨ (n ≠ 0 ∧ k ≠ 14 ∧ k ≠ 9 ∧ k ≠ 10 ∧ k ≠ 16)
  · rw [if_pos h2, decide_eq_false (p := ¬ ((m ≠ 0 ∧ k ≠ 14) ∨ (n ≠ 0 ∧ k ≠ 14 ∧ k ≠ 9 ∧ k ≠ 10 ∧ k ≠ 16))) (fun h => h h2)]; simp
  · rw [if_neg h2, decide_eq_true h2, Bool.true_and]
    have e : decide (0 ≤ a ∧ a ≤ M) = (decide (0 ≤ a) && decide (a ≤ M)) := by rw [Bool.eq_iff_iff]; simp
    rw [e]
    cases decide (0 ≤ a) <;> cases decide (a ≤ M) <;> cases TN <;> cases X <;> cases K <;> rfl

mutual
/-- The reference's own right, as a plain function. -/
def tright7 : Tn → Bool
  | .mk kind text n m a pos doc ad cap kids => town (.mk kind text n m a pos doc ad cap kids) && trights7 kids
def trights7 : List Tn → Bool
  | [] => true
  | k :: r => tright7 k && trights7 r
end

theorem ktk (k : Int) (h1 : 1 ≤ k) (h2 : k ≤ 24) (text : List Int) (n m a pos : Int) (doc : List Int) (ad : Option Addr) (cap : Nat) (kids : List Tn) : ptk (rlOf k) (.mk k text n m a pos doc ad cap kids) = town (.mk k text n m a pos doc ad cap kids) := by
  rcases (show k = 1 ∨ k = 2 ∨ k = 3 ∨ k = 4 ∨ k = 5 ∨ k = 6 ∨ k = 7 ∨ k = 8 ∨ k = 9 ∨ k = 10 ∨ k = 11 ∨ k = 12 ∨ k = 13 ∨ k = 14 ∨ k = 15 ∨ k = 16 ∨ k = 17 ∨ k = 18 ∨ k = 19 ∨ k = 20 ∨ k = 21 ∨ k = 22 ∨ k = 23 ∨ k = 24 by omega) with rfl | rfl | rfl | rfl | rfl | rfl | rfl | rfl | rfl | rfl | rfl | rfl | rfl | rfl | rfl | rfl | rfl | rfl | rfl | rfl | rfl | rfl | rfl | rfl
  · have hX : ptxt (rlOf 1).tx (.mk 1 text n m a pos doc ad cap kids) = ttext 1 a text := by
      rfl
    have hK : pkds (rlOf 1).kd kids = tkids 1 kids := by
      exact kd1 kids
    have hD : ((doc == []) || ((rlOf 1).doc && pdocOk doc)) = decide (tdocOk 1 doc) := doc_eq doc _
    have hN : ((decide ((rlOf 1).fr ≤ n) && decide (n ≤ (rlOf 1).to)) && ((m == 0) || ((rlOf 1).span && (decide ((rlOf 1).fr ≤ m) && decide (m ≤ (rlOf 1).to))))) = (decide (¬ ((m ≠ 0 ∧ (1 : Int) ≠ 14) ∨ (n ≠ 0 ∧ (1 : Int) ≠ 14 ∧ (1 : Int) ≠ 9 ∧ (1 : Int) ≠ 10 ∧ (1 : Int) ≠ 16))) && tnumber 1 n m) := by
      rw [show (rlOf 1).fr = 0 from rfl, show (rlOf 1).to = 0 from rfl, show (rlOf 1).span = false from rfl]
      rw [show tnumber 1 n m = true from rfl]
      rw [Bool.eq_iff_iff]
      simp
      omega
    refine Eq.trans (show ptk (rlOf 1) (.mk 1 text n m a pos doc ad cap kids) = (decide (0 ≤ pos) && (decide (0 ≤ a) && (decide (a ≤ tmost 1) && ((decide ((rlOf 1).fr ≤ n) && decide (n ≤ (rlOf 1).to)) && (((m == 0) || ((rlOf 1).span && (decide ((rlOf 1).fr ≤ m) && decide (m ≤ (rlOf 1).to)))) && (((doc == []) || ((rlOf 1).doc && pdocOk doc)) && (ptxt (rlOf 1).tx (.mk 1 text n m a pos doc ad cap kids) && pkds (rlOf 1).kd kids))))))) from rfl) ?_
    rw [hX, hK]
    exact core7 hD hN
  · have hX : ptxt (rlOf 2).tx (.mk 2 text n m a pos doc ad cap kids) = ttext 2 a text := by
      rfl
    have hK : pkds (rlOf 2).kd kids = tkids 2 kids := by
      exact kd0 kids
    have hD : ((doc == []) || ((rlOf 2).doc && pdocOk doc)) = decide (tdocOk 2 doc) := doc_eq doc _
    have hN : ((decide ((rlOf 2).fr ≤ n) && decide (n ≤ (rlOf 2).to)) && ((m == 0) || ((rlOf 2).span && (decide ((rlOf 2).fr ≤ m) && decide (m ≤ (rlOf 2).to))))) = (decide (¬ ((m ≠ 0 ∧ (2 : Int) ≠ 14) ∨ (n ≠ 0 ∧ (2 : Int) ≠ 14 ∧ (2 : Int) ≠ 9 ∧ (2 : Int) ≠ 10 ∧ (2 : Int) ≠ 16))) && tnumber 2 n m) := by
      rw [show (rlOf 2).fr = 0 from rfl, show (rlOf 2).to = 0 from rfl, show (rlOf 2).span = false from rfl]
      rw [show tnumber 2 n m = true from rfl]
      rw [Bool.eq_iff_iff]
      simp
      omega
    refine Eq.trans (show ptk (rlOf 2) (.mk 2 text n m a pos doc ad cap kids) = (decide (0 ≤ pos) && (decide (0 ≤ a) && (decide (a ≤ tmost 2) && ((decide ((rlOf 2).fr ≤ n) && decide (n ≤ (rlOf 2).to)) && (((m == 0) || ((rlOf 2).span && (decide ((rlOf 2).fr ≤ m) && decide (m ≤ (rlOf 2).to)))) && (((doc == []) || ((rlOf 2).doc && pdocOk doc)) && (ptxt (rlOf 2).tx (.mk 2 text n m a pos doc ad cap kids) && pkds (rlOf 2).kd kids))))))) from rfl) ?_
    rw [hX, hK]
    exact core7 hD hN
  · have hX : ptxt (rlOf 3).tx (.mk 3 text n m a pos doc ad cap kids) = ttext 3 a text := by
      rfl
    have hK : pkds (rlOf 3).kd kids = tkids 3 kids := by
      exact kd0 kids
    have hD : ((doc == []) || ((rlOf 3).doc && pdocOk doc)) = decide (tdocOk 3 doc) := doc_eq doc _
    have hN : ((decide ((rlOf 3).fr ≤ n) && decide (n ≤ (rlOf 3).to)) && ((m == 0) || ((rlOf 3).span && (decide ((rlOf 3).fr ≤ m) && decide (m ≤ (rlOf 3).to))))) = (decide (¬ ((m ≠ 0 ∧ (3 : Int) ≠ 14) ∨ (n ≠ 0 ∧ (3 : Int) ≠ 14 ∧ (3 : Int) ≠ 9 ∧ (3 : Int) ≠ 10 ∧ (3 : Int) ≠ 16))) && tnumber 3 n m) := by
      rw [show (rlOf 3).fr = 0 from rfl, show (rlOf 3).to = 0 from rfl, show (rlOf 3).span = false from rfl]
      rw [show tnumber 3 n m = true from rfl]
      rw [Bool.eq_iff_iff]
      simp
      omega
    refine Eq.trans (show ptk (rlOf 3) (.mk 3 text n m a pos doc ad cap kids) = (decide (0 ≤ pos) && (decide (0 ≤ a) && (decide (a ≤ tmost 3) && ((decide ((rlOf 3).fr ≤ n) && decide (n ≤ (rlOf 3).to)) && (((m == 0) || ((rlOf 3).span && (decide ((rlOf 3).fr ≤ m) && decide (m ≤ (rlOf 3).to)))) && (((doc == []) || ((rlOf 3).doc && pdocOk doc)) && (ptxt (rlOf 3).tx (.mk 3 text n m a pos doc ad cap kids) && pkds (rlOf 3).kd kids))))))) from rfl) ?_
    rw [hX, hK]
    exact core7 hD hN
  · have hX : ptxt (rlOf 4).tx (.mk 4 text n m a pos doc ad cap kids) = ttext 4 a text := by
      rfl
    have hK : pkds (rlOf 4).kd kids = tkids 4 kids := by
      exact kd4 kids
    have hD : ((doc == []) || ((rlOf 4).doc && pdocOk doc)) = decide (tdocOk 4 doc) := doc_eq doc _
    have hN : ((decide ((rlOf 4).fr ≤ n) && decide (n ≤ (rlOf 4).to)) && ((m == 0) || ((rlOf 4).span && (decide ((rlOf 4).fr ≤ m) && decide (m ≤ (rlOf 4).to))))) = (decide (¬ ((m ≠ 0 ∧ (4 : Int) ≠ 14) ∨ (n ≠ 0 ∧ (4 : Int) ≠ 14 ∧ (4 : Int) ≠ 9 ∧ (4 : Int) ≠ 10 ∧ (4 : Int) ≠ 16))) && tnumber 4 n m) := by
      rw [show (rlOf 4).fr = 0 from rfl, show (rlOf 4).to = 0 from rfl, show (rlOf 4).span = false from rfl]
      rw [show tnumber 4 n m = true from rfl]
      rw [Bool.eq_iff_iff]
      simp
      omega
    refine Eq.trans (show ptk (rlOf 4) (.mk 4 text n m a pos doc ad cap kids) = (decide (0 ≤ pos) && (decide (0 ≤ a) && (decide (a ≤ tmost 4) && ((decide ((rlOf 4).fr ≤ n) && decide (n ≤ (rlOf 4).to)) && (((m == 0) || ((rlOf 4).span && (decide ((rlOf 4).fr ≤ m) && decide (m ≤ (rlOf 4).to)))) && (((doc == []) || ((rlOf 4).doc && pdocOk doc)) && (ptxt (rlOf 4).tx (.mk 4 text n m a pos doc ad cap kids) && pkds (rlOf 4).kd kids))))))) from rfl) ?_
    rw [hX, hK]
    exact core7 hD hN
  · have hX : ptxt (rlOf 5).tx (.mk 5 text n m a pos doc ad cap kids) = ttext 5 a text := by
      show nident text = if ((5 : Int) = 19 ∨ (5 : Int) = 24) ∧ a = 1 then tref text else nident text
      rw [if_neg (fun h => absurd h.1 (by decide))]
    have hK : pkds (rlOf 5).kd kids = tkids 5 kids := by
      show (kids.all fun t => [9, 10, 5, 6, 7, 12, 13, 11, 4].contains t.kind) = tka 5 (decide ((5 : Int) ≠ 12 ∨ 0 < kids.length)) kids 0
      rw [tka_only 5 (by omega) [9, 10, 5, 6, 7, 12, 13, 11, 4] (by decide) (fun x => by
        rw [show tmay 5 x = decide (x = 9 ∨ x = 10 ∨ x = 5 ∨ x = 6 ∨ x = 7 ∨ (11 ≤ x ∧ x ≤ 13) ∨ x = 4) from rfl, Bool.eq_iff_iff]
        simp
        try omega), decide_eq_true (.inl (by omega)), Bool.and_true]
    have hD : ((doc == []) || ((rlOf 5).doc && pdocOk doc)) = decide (tdocOk 5 doc) := doc_eq doc _
    have hN : ((decide ((rlOf 5).fr ≤ n) && decide (n ≤ (rlOf 5).to)) && ((m == 0) || ((rlOf 5).span && (decide ((rlOf 5).fr ≤ m) && decide (m ≤ (rlOf 5).to))))) = (decide (¬ ((m ≠ 0 ∧ (5 : Int) ≠ 14) ∨ (n ≠ 0 ∧ (5 : Int) ≠ 14 ∧ (5 : Int) ≠ 9 ∧ (5 : Int) ≠ 10 ∧ (5 : Int) ≠ 16))) && tnumber 5 n m) := by
      rw [show (rlOf 5).fr = 0 from rfl, show (rlOf 5).to = 0 from rfl, show (rlOf 5).span = false from rfl]
      rw [show tnumber 5 n m = true from rfl]
      rw [Bool.eq_iff_iff]
      simp
      omega
    refine Eq.trans (show ptk (rlOf 5) (.mk 5 text n m a pos doc ad cap kids) = (decide (0 ≤ pos) && (decide (0 ≤ a) && (decide (a ≤ tmost 5) && ((decide ((rlOf 5).fr ≤ n) && decide (n ≤ (rlOf 5).to)) && (((m == 0) || ((rlOf 5).span && (decide ((rlOf 5).fr ≤ m) && decide (m ≤ (rlOf 5).to)))) && (((doc == []) || ((rlOf 5).doc && pdocOk doc)) && (ptxt (rlOf 5).tx (.mk 5 text n m a pos doc ad cap kids) && pkds (rlOf 5).kd kids))))))) from rfl) ?_
    rw [hX, hK]
    exact core7 hD hN
  · have hX : ptxt (rlOf 6).tx (.mk 6 text n m a pos doc ad cap kids) = ttext 6 a text := by
      show nident text = if ((6 : Int) = 19 ∨ (6 : Int) = 24) ∧ a = 1 then tref text else nident text
      rw [if_neg (fun h => absurd h.1 (by decide))]
    have hK : pkds (rlOf 6).kd kids = tkids 6 kids := by
      show (kids.all fun t => [16, 4].contains t.kind) = tka 6 (decide ((6 : Int) ≠ 12 ∨ 0 < kids.length)) kids 0
      rw [tka_only 6 (by omega) [16, 4] (by decide) (fun x => by
        rw [show tmay 6 x = decide (x = 16 ∨ x = 4) from rfl, Bool.eq_iff_iff]
        simp
        try omega), decide_eq_true (.inl (by omega)), Bool.and_true]
    have hD : ((doc == []) || ((rlOf 6).doc && pdocOk doc)) = decide (tdocOk 6 doc) := doc_eq doc _
    have hN : ((decide ((rlOf 6).fr ≤ n) && decide (n ≤ (rlOf 6).to)) && ((m == 0) || ((rlOf 6).span && (decide ((rlOf 6).fr ≤ m) && decide (m ≤ (rlOf 6).to))))) = (decide (¬ ((m ≠ 0 ∧ (6 : Int) ≠ 14) ∨ (n ≠ 0 ∧ (6 : Int) ≠ 14 ∧ (6 : Int) ≠ 9 ∧ (6 : Int) ≠ 10 ∧ (6 : Int) ≠ 16))) && tnumber 6 n m) := by
      rw [show (rlOf 6).fr = 0 from rfl, show (rlOf 6).to = 0 from rfl, show (rlOf 6).span = false from rfl]
      rw [show tnumber 6 n m = true from rfl]
      rw [Bool.eq_iff_iff]
      simp
      omega
    refine Eq.trans (show ptk (rlOf 6) (.mk 6 text n m a pos doc ad cap kids) = (decide (0 ≤ pos) && (decide (0 ≤ a) && (decide (a ≤ tmost 6) && ((decide ((rlOf 6).fr ≤ n) && decide (n ≤ (rlOf 6).to)) && (((m == 0) || ((rlOf 6).span && (decide ((rlOf 6).fr ≤ m) && decide (m ≤ (rlOf 6).to)))) && (((doc == []) || ((rlOf 6).doc && pdocOk doc)) && (ptxt (rlOf 6).tx (.mk 6 text n m a pos doc ad cap kids) && pkds (rlOf 6).kd kids))))))) from rfl) ?_
    rw [hX, hK]
    exact core7 hD hN
  · have hX : ptxt (rlOf 7).tx (.mk 7 text n m a pos doc ad cap kids) = ttext 7 a text := by
      exact tx7 text
    have hK : pkds (rlOf 7).kd kids = tkids 7 kids := by
      show (kids.all fun t => [9].contains t.kind) = tka 7 (decide ((7 : Int) ≠ 12 ∨ 0 < kids.length)) kids 0
      rw [tka_only 7 (by omega) [9] (by decide) (fun x => by
        rw [show tmay 7 x = decide (x = 9) from rfl, Bool.eq_iff_iff]
        simp
        try omega), decide_eq_true (.inl (by omega)), Bool.and_true]
    have hD : ((doc == []) || ((rlOf 7).doc && pdocOk doc)) = decide (tdocOk 7 doc) := doc_eq doc _
    have hN : ((decide ((rlOf 7).fr ≤ n) && decide (n ≤ (rlOf 7).to)) && ((m == 0) || ((rlOf 7).span && (decide ((rlOf 7).fr ≤ m) && decide (m ≤ (rlOf 7).to))))) = (decide (¬ ((m ≠ 0 ∧ (7 : Int) ≠ 14) ∨ (n ≠ 0 ∧ (7 : Int) ≠ 14 ∧ (7 : Int) ≠ 9 ∧ (7 : Int) ≠ 10 ∧ (7 : Int) ≠ 16))) && tnumber 7 n m) := by
      rw [show (rlOf 7).fr = 0 from rfl, show (rlOf 7).to = 0 from rfl, show (rlOf 7).span = false from rfl]
      rw [show tnumber 7 n m = true from rfl]
      rw [Bool.eq_iff_iff]
      simp
      omega
    refine Eq.trans (show ptk (rlOf 7) (.mk 7 text n m a pos doc ad cap kids) = (decide (0 ≤ pos) && (decide (0 ≤ a) && (decide (a ≤ tmost 7) && ((decide ((rlOf 7).fr ≤ n) && decide (n ≤ (rlOf 7).to)) && (((m == 0) || ((rlOf 7).span && (decide ((rlOf 7).fr ≤ m) && decide (m ≤ (rlOf 7).to)))) && (((doc == []) || ((rlOf 7).doc && pdocOk doc)) && (ptxt (rlOf 7).tx (.mk 7 text n m a pos doc ad cap kids) && pkds (rlOf 7).kd kids))))))) from rfl) ?_
    rw [hX, hK]
    exact core7 hD hN
  · have hX : ptxt (rlOf 8).tx (.mk 8 text n m a pos doc ad cap kids) = ttext 8 a text := by
      show nident text = if ((8 : Int) = 19 ∨ (8 : Int) = 24) ∧ a = 1 then tref text else nident text
      rw [if_neg (fun h => absurd h.1 (by decide))]
    have hK : pkds (rlOf 8).kd kids = tkids 8 kids := by
      show (kids.all fun t => [17, 4].contains t.kind) = tka 8 (decide ((8 : Int) ≠ 12 ∨ 0 < kids.length)) kids 0
      rw [tka_only 8 (by omega) [17, 4] (by decide) (fun x => by
        rw [show tmay 8 x = decide (x = 17 ∨ x = 4) from rfl, Bool.eq_iff_iff]
        simp
        try omega), decide_eq_true (.inl (by omega)), Bool.and_true]
    have hD : ((doc == []) || ((rlOf 8).doc && pdocOk doc)) = decide (tdocOk 8 doc) := doc_eq doc _
    have hN : ((decide ((rlOf 8).fr ≤ n) && decide (n ≤ (rlOf 8).to)) && ((m == 0) || ((rlOf 8).span && (decide ((rlOf 8).fr ≤ m) && decide (m ≤ (rlOf 8).to))))) = (decide (¬ ((m ≠ 0 ∧ (8 : Int) ≠ 14) ∨ (n ≠ 0 ∧ (8 : Int) ≠ 14 ∧ (8 : Int) ≠ 9 ∧ (8 : Int) ≠ 10 ∧ (8 : Int) ≠ 16))) && tnumber 8 n m) := by
      rw [show (rlOf 8).fr = 0 from rfl, show (rlOf 8).to = 0 from rfl, show (rlOf 8).span = false from rfl]
      rw [show tnumber 8 n m = true from rfl]
      rw [Bool.eq_iff_iff]
      simp
      omega
    refine Eq.trans (show ptk (rlOf 8) (.mk 8 text n m a pos doc ad cap kids) = (decide (0 ≤ pos) && (decide (0 ≤ a) && (decide (a ≤ tmost 8) && ((decide ((rlOf 8).fr ≤ n) && decide (n ≤ (rlOf 8).to)) && (((m == 0) || ((rlOf 8).span && (decide ((rlOf 8).fr ≤ m) && decide (m ≤ (rlOf 8).to)))) && (((doc == []) || ((rlOf 8).doc && pdocOk doc)) && (ptxt (rlOf 8).tx (.mk 8 text n m a pos doc ad cap kids) && pkds (rlOf 8).kd kids))))))) from rfl) ?_
    rw [hX, hK]
    exact core7 hD hN
  · have hX : ptxt (rlOf 9).tx (.mk 9 text n m a pos doc ad cap kids) = ttext 9 a text := by
      show nident text = if ((9 : Int) = 19 ∨ (9 : Int) = 24) ∧ a = 1 then tref text else nident text
      rw [if_neg (fun h => absurd h.1 (by decide))]
    have hK : pkds (rlOf 9).kd kids = tkids 9 kids := by
      exact kdtyp 1 (by omega) kids
    have hD : ((doc == []) || ((rlOf 9).doc && pdocOk doc)) = decide (tdocOk 9 doc) := doc_eq doc _
    have hN : ((decide ((rlOf 9).fr ≤ n) && decide (n ≤ (rlOf 9).to)) && ((m == 0) || ((rlOf 9).span && (decide ((rlOf 9).fr ≤ m) && decide (m ≤ (rlOf 9).to))))) = (decide (¬ ((m ≠ 0 ∧ (9 : Int) ≠ 14) ∨ (n ≠ 0 ∧ (9 : Int) ≠ 14 ∧ (9 : Int) ≠ 9 ∧ (9 : Int) ≠ 10 ∧ (9 : Int) ≠ 16))) && tnumber 9 n m) := by
      rw [show (rlOf 9).fr = 0 from rfl, show (rlOf 9).to = 2147483647 from rfl, show (rlOf 9).span = false from rfl]
      rw [show tnumber 9 n m = decide (0 ≤ n ∧ n < 2147483648) from rfl]
      rw [Bool.eq_iff_iff]
      simp
      omega
    refine Eq.trans (show ptk (rlOf 9) (.mk 9 text n m a pos doc ad cap kids) = (decide (0 ≤ pos) && (decide (0 ≤ a) && (decide (a ≤ tmost 9) && ((decide ((rlOf 9).fr ≤ n) && decide (n ≤ (rlOf 9).to)) && (((m == 0) || ((rlOf 9).span && (decide ((rlOf 9).fr ≤ m) && decide (m ≤ (rlOf 9).to)))) && (((doc == []) || ((rlOf 9).doc && pdocOk doc)) && (ptxt (rlOf 9).tx (.mk 9 text n m a pos doc ad cap kids) && pkds (rlOf 9).kd kids))))))) from rfl) ?_
    rw [hX, hK]
    exact core7 hD hN
  · have hX : ptxt (rlOf 10).tx (.mk 10 text n m a pos doc ad cap kids) = ttext 10 a text := by
      show nident text = if ((10 : Int) = 19 ∨ (10 : Int) = 24) ∧ a = 1 then tref text else nident text
      rw [if_neg (fun h => absurd h.1 (by decide))]
    have hK : pkds (rlOf 10).kd kids = tkids 10 kids := by
      exact kd10 kids
    have hD : ((doc == []) || ((rlOf 10).doc && pdocOk doc)) = decide (tdocOk 10 doc) := doc_eq doc _
    have hN : ((decide ((rlOf 10).fr ≤ n) && decide (n ≤ (rlOf 10).to)) && ((m == 0) || ((rlOf 10).span && (decide ((rlOf 10).fr ≤ m) && decide (m ≤ (rlOf 10).to))))) = (decide (¬ ((m ≠ 0 ∧ (10 : Int) ≠ 14) ∨ (n ≠ 0 ∧ (10 : Int) ≠ 14 ∧ (10 : Int) ≠ 9 ∧ (10 : Int) ≠ 10 ∧ (10 : Int) ≠ 16))) && tnumber 10 n m) := by
      rw [show (rlOf 10).fr = 0 from rfl, show (rlOf 10).to = 2147483647 from rfl, show (rlOf 10).span = false from rfl]
      rw [show tnumber 10 n m = decide (0 ≤ n ∧ n < 2147483648) from rfl]
      rw [Bool.eq_iff_iff]
      simp
      omega
    refine Eq.trans (show ptk (rlOf 10) (.mk 10 text n m a pos doc ad cap kids) = (decide (0 ≤ pos) && (decide (0 ≤ a) && (decide (a ≤ tmost 10) && ((decide ((rlOf 10).fr ≤ n) && decide (n ≤ (rlOf 10).to)) && (((m == 0) || ((rlOf 10).span && (decide ((rlOf 10).fr ≤ m) && decide (m ≤ (rlOf 10).to)))) && (((doc == []) || ((rlOf 10).doc && pdocOk doc)) && (ptxt (rlOf 10).tx (.mk 10 text n m a pos doc ad cap kids) && pkds (rlOf 10).kd kids))))))) from rfl) ?_
    rw [hX, hK]
    exact core7 hD hN
  · have hX : ptxt (rlOf 11).tx (.mk 11 text n m a pos doc ad cap kids) = ttext 11 a text := by
      show nident text = if ((11 : Int) = 19 ∨ (11 : Int) = 24) ∧ a = 1 then tref text else nident text
      rw [if_neg (fun h => absurd h.1 (by decide))]
    have hK : pkds (rlOf 11).kd kids = tkids 11 kids := by
      show kids.all pkOne = tka 11 (decide ((11 : Int) ≠ 12 ∨ 0 < kids.length)) kids 0
      have := tka_one (decide ((11 : Int) ≠ 12 ∨ 0 < kids.length)) kids 0 (by omega)
      rw [show ((0 : Nat) : Int) = 0 from rfl] at this
      rw [this, decide_eq_true (.inl (by omega)), Bool.and_true]
    have hD : ((doc == []) || ((rlOf 11).doc && pdocOk doc)) = decide (tdocOk 11 doc) := doc_eq doc _
    have hN : ((decide ((rlOf 11).fr ≤ n) && decide (n ≤ (rlOf 11).to)) && ((m == 0) || ((rlOf 11).span && (decide ((rlOf 11).fr ≤ m) && decide (m ≤ (rlOf 11).to))))) = (decide (¬ ((m ≠ 0 ∧ (11 : Int) ≠ 14) ∨ (n ≠ 0 ∧ (11 : Int) ≠ 14 ∧ (11 : Int) ≠ 9 ∧ (11 : Int) ≠ 10 ∧ (11 : Int) ≠ 16))) && tnumber 11 n m) := by
      rw [show (rlOf 11).fr = 0 from rfl, show (rlOf 11).to = 0 from rfl, show (rlOf 11).span = false from rfl]
      rw [show tnumber 11 n m = true from rfl]
      rw [Bool.eq_iff_iff]
      simp
      omega
    refine Eq.trans (show ptk (rlOf 11) (.mk 11 text n m a pos doc ad cap kids) = (decide (0 ≤ pos) && (decide (0 ≤ a) && (decide (a ≤ tmost 11) && ((decide ((rlOf 11).fr ≤ n) && decide (n ≤ (rlOf 11).to)) && (((m == 0) || ((rlOf 11).span && (decide ((rlOf 11).fr ≤ m) && decide (m ≤ (rlOf 11).to)))) && (((doc == []) || ((rlOf 11).doc && pdocOk doc)) && (ptxt (rlOf 11).tx (.mk 11 text n m a pos doc ad cap kids) && pkds (rlOf 11).kd kids))))))) from rfl) ?_
    rw [hX, hK]
    exact core7 hD hN
  · have hX : ptxt (rlOf 12).tx (.mk 12 text n m a pos doc ad cap kids) = ttext 12 a text := by
      rfl
    have hK : pkds (rlOf 12).kd kids = tkids 12 kids := by
      show pkSome 14 kids = tka 12 (decide ((12 : Int) ≠ 12 ∨ 0 < kids.length)) kids 0
      rw [tka_only 12 (by omega) [14] (by decide) (fun x => by show decide (x = 14) = _; rw [Bool.eq_iff_iff]; simp), decide_eq_decide.2 (show ((12 : Int) ≠ 12 ∨ 0 < kids.length) ↔ 0 < kids.length by simp)]
      unfold pkSome
      rw [Bool.and_comm]
    have hD : ((doc == []) || ((rlOf 12).doc && pdocOk doc)) = decide (tdocOk 12 doc) := doc_eq doc _
    have hN : ((decide ((rlOf 12).fr ≤ n) && decide (n ≤ (rlOf 12).to)) && ((m == 0) || ((rlOf 12).span && (decide ((rlOf 12).fr ≤ m) && decide (m ≤ (rlOf 12).to))))) = (decide (¬ ((m ≠ 0 ∧ (12 : Int) ≠ 14) ∨ (n ≠ 0 ∧ (12 : Int) ≠ 14 ∧ (12 : Int) ≠ 9 ∧ (12 : Int) ≠ 10 ∧ (12 : Int) ≠ 16))) && tnumber 12 n m) := by
      rw [show (rlOf 12).fr = 0 from rfl, show (rlOf 12).to = 0 from rfl, show (rlOf 12).span = false from rfl]
      rw [show tnumber 12 n m = true from rfl]
      rw [Bool.eq_iff_iff]
      simp
      omega
    refine Eq.trans (show ptk (rlOf 12) (.mk 12 text n m a pos doc ad cap kids) = (decide (0 ≤ pos) && (decide (0 ≤ a) && (decide (a ≤ tmost 12) && ((decide ((rlOf 12).fr ≤ n) && decide (n ≤ (rlOf 12).to)) && (((m == 0) || ((rlOf 12).span && (decide ((rlOf 12).fr ≤ m) && decide (m ≤ (rlOf 12).to)))) && (((doc == []) || ((rlOf 12).doc && pdocOk doc)) && (ptxt (rlOf 12).tx (.mk 12 text n m a pos doc ad cap kids) && pkds (rlOf 12).kd kids))))))) from rfl) ?_
    rw [hX, hK]
    exact core7 hD hN
  · have hX : ptxt (rlOf 13).tx (.mk 13 text n m a pos doc ad cap kids) = ttext 13 a text := by
      rfl
    have hK : pkds (rlOf 13).kd kids = tkids 13 kids := by
      exact kd13 kids
    have hD : ((doc == []) || ((rlOf 13).doc && pdocOk doc)) = decide (tdocOk 13 doc) := doc_eq doc _
    have hN : ((decide ((rlOf 13).fr ≤ n) && decide (n ≤ (rlOf 13).to)) && ((m == 0) || ((rlOf 13).span && (decide ((rlOf 13).fr ≤ m) && decide (m ≤ (rlOf 13).to))))) = (decide (¬ ((m ≠ 0 ∧ (13 : Int) ≠ 14) ∨ (n ≠ 0 ∧ (13 : Int) ≠ 14 ∧ (13 : Int) ≠ 9 ∧ (13 : Int) ≠ 10 ∧ (13 : Int) ≠ 16))) && tnumber 13 n m) := by
      rw [show (rlOf 13).fr = 0 from rfl, show (rlOf 13).to = 0 from rfl, show (rlOf 13).span = false from rfl]
      rw [show tnumber 13 n m = true from rfl]
      rw [Bool.eq_iff_iff]
      simp
      omega
    refine Eq.trans (show ptk (rlOf 13) (.mk 13 text n m a pos doc ad cap kids) = (decide (0 ≤ pos) && (decide (0 ≤ a) && (decide (a ≤ tmost 13) && ((decide ((rlOf 13).fr ≤ n) && decide (n ≤ (rlOf 13).to)) && (((m == 0) || ((rlOf 13).span && (decide ((rlOf 13).fr ≤ m) && decide (m ≤ (rlOf 13).to)))) && (((doc == []) || ((rlOf 13).doc && pdocOk doc)) && (ptxt (rlOf 13).tx (.mk 13 text n m a pos doc ad cap kids) && pkds (rlOf 13).kd kids))))))) from rfl) ?_
    rw [hX, hK]
    exact core7 hD hN
  · have hX : ptxt (rlOf 14).tx (.mk 14 text n m a pos doc ad cap kids) = ttext 14 a text := by
      rfl
    have hK : pkds (rlOf 14).kd kids = tkids 14 kids := by
      exact kd0 kids
    have hD : ((doc == []) || ((rlOf 14).doc && pdocOk doc)) = decide (tdocOk 14 doc) := doc_eq doc _
    have hN : ((decide ((rlOf 14).fr ≤ n) && decide (n ≤ (rlOf 14).to)) && ((m == 0) || ((rlOf 14).span && (decide ((rlOf 14).fr ≤ m) && decide (m ≤ (rlOf 14).to))))) = (decide (¬ ((m ≠ 0 ∧ (14 : Int) ≠ 14) ∨ (n ≠ 0 ∧ (14 : Int) ≠ 14 ∧ (14 : Int) ≠ 9 ∧ (14 : Int) ≠ 10 ∧ (14 : Int) ≠ 16))) && tnumber 14 n m) := by
      rw [show (rlOf 14).fr = 0 from rfl, show (rlOf 14).to = 2147483647 from rfl, show (rlOf 14).span = true from rfl]
      rw [show tnumber 14 n m = decide (0 ≤ n ∧ n < 2147483648 ∧ 0 ≤ m ∧ m < 2147483648) from rfl]
      rw [Bool.eq_iff_iff]
      simp
      omega
    refine Eq.trans (show ptk (rlOf 14) (.mk 14 text n m a pos doc ad cap kids) = (decide (0 ≤ pos) && (decide (0 ≤ a) && (decide (a ≤ tmost 14) && ((decide ((rlOf 14).fr ≤ n) && decide (n ≤ (rlOf 14).to)) && (((m == 0) || ((rlOf 14).span && (decide ((rlOf 14).fr ≤ m) && decide (m ≤ (rlOf 14).to)))) && (((doc == []) || ((rlOf 14).doc && pdocOk doc)) && (ptxt (rlOf 14).tx (.mk 14 text n m a pos doc ad cap kids) && pkds (rlOf 14).kd kids))))))) from rfl) ?_
    rw [hX, hK]
    exact core7 hD hN
  · have hX : ptxt (rlOf 15).tx (.mk 15 text n m a pos doc ad cap kids) = ttext 15 a text := by
      show nident text = if ((15 : Int) = 19 ∨ (15 : Int) = 24) ∧ a = 1 then tref text else nident text
      rw [if_neg (fun h => absurd h.1 (by decide))]
    have hK : pkds (rlOf 15).kd kids = tkids 15 kids := by
      exact kd0 kids
    have hD : ((doc == []) || ((rlOf 15).doc && pdocOk doc)) = decide (tdocOk 15 doc) := doc_eq doc _
    have hN : ((decide ((rlOf 15).fr ≤ n) && decide (n ≤ (rlOf 15).to)) && ((m == 0) || ((rlOf 15).span && (decide ((rlOf 15).fr ≤ m) && decide (m ≤ (rlOf 15).to))))) = (decide (¬ ((m ≠ 0 ∧ (15 : Int) ≠ 14) ∨ (n ≠ 0 ∧ (15 : Int) ≠ 14 ∧ (15 : Int) ≠ 9 ∧ (15 : Int) ≠ 10 ∧ (15 : Int) ≠ 16))) && tnumber 15 n m) := by
      rw [show (rlOf 15).fr = 0 from rfl, show (rlOf 15).to = 0 from rfl, show (rlOf 15).span = false from rfl]
      rw [show tnumber 15 n m = true from rfl]
      rw [Bool.eq_iff_iff]
      simp
      omega
    refine Eq.trans (show ptk (rlOf 15) (.mk 15 text n m a pos doc ad cap kids) = (decide (0 ≤ pos) && (decide (0 ≤ a) && (decide (a ≤ tmost 15) && ((decide ((rlOf 15).fr ≤ n) && decide (n ≤ (rlOf 15).to)) && (((m == 0) || ((rlOf 15).span && (decide ((rlOf 15).fr ≤ m) && decide (m ≤ (rlOf 15).to)))) && (((doc == []) || ((rlOf 15).doc && pdocOk doc)) && (ptxt (rlOf 15).tx (.mk 15 text n m a pos doc ad cap kids) && pkds (rlOf 15).kd kids))))))) from rfl) ?_
    rw [hX, hK]
    exact core7 hD hN
  · have hX : ptxt (rlOf 16).tx (.mk 16 text n m a pos doc ad cap kids) = ttext 16 a text := by
      rfl
    have hK : pkds (rlOf 16).kd kids = tkids 16 kids := by
      show (kids.all fun t => [4].contains t.kind) = tka 16 (decide ((16 : Int) ≠ 12 ∨ 0 < kids.length)) kids 0
      rw [tka_only 16 (by omega) [4] (by decide) (fun x => by
        rw [show tmay 16 x = decide (x = 4) from rfl, Bool.eq_iff_iff]
        simp
        try omega), decide_eq_true (.inl (by omega)), Bool.and_true]
    have hD : ((doc == []) || ((rlOf 16).doc && pdocOk doc)) = decide (tdocOk 16 doc) := doc_eq doc _
    have hN : ((decide ((rlOf 16).fr ≤ n) && decide (n ≤ (rlOf 16).to)) && ((m == 0) || ((rlOf 16).span && (decide ((rlOf 16).fr ≤ m) && decide (m ≤ (rlOf 16).to))))) = (decide (¬ ((m ≠ 0 ∧ (16 : Int) ≠ 14) ∨ (n ≠ 0 ∧ (16 : Int) ≠ 14 ∧ (16 : Int) ≠ 9 ∧ (16 : Int) ≠ 10 ∧ (16 : Int) ≠ 16))) && tnumber 16 n m) := by
      rw [show (rlOf 16).fr = -2147483648 from rfl, show (rlOf 16).to = 2147483647 from rfl, show (rlOf 16).span = false from rfl]
      rw [show tnumber 16 n m = decide (-2147483648 ≤ n ∧ n < 2147483648) from rfl]
      rw [Bool.eq_iff_iff]
      simp
      omega
    refine Eq.trans (show ptk (rlOf 16) (.mk 16 text n m a pos doc ad cap kids) = (decide (0 ≤ pos) && (decide (0 ≤ a) && (decide (a ≤ tmost 16) && ((decide ((rlOf 16).fr ≤ n) && decide (n ≤ (rlOf 16).to)) && (((m == 0) || ((rlOf 16).span && (decide ((rlOf 16).fr ≤ m) && decide (m ≤ (rlOf 16).to)))) && (((doc == []) || ((rlOf 16).doc && pdocOk doc)) && (ptxt (rlOf 16).tx (.mk 16 text n m a pos doc ad cap kids) && pkds (rlOf 16).kd kids))))))) from rfl) ?_
    rw [hX, hK]
    exact core7 hD hN
  · have hX : ptxt (rlOf 17).tx (.mk 17 text n m a pos doc ad cap kids) = ttext 17 a text := by
      show nident text = if ((17 : Int) = 19 ∨ (17 : Int) = 24) ∧ a = 1 then tref text else nident text
      rw [if_neg (fun h => absurd h.1 (by decide))]
    have hK : pkds (rlOf 17).kd kids = tkids 17 kids := by
      exact kdtyp 2 (by omega) kids
    have hD : ((doc == []) || ((rlOf 17).doc && pdocOk doc)) = decide (tdocOk 17 doc) := doc_eq doc _
    have hN : ((decide ((rlOf 17).fr ≤ n) && decide (n ≤ (rlOf 17).to)) && ((m == 0) || ((rlOf 17).span && (decide ((rlOf 17).fr ≤ m) && decide (m ≤ (rlOf 17).to))))) = (decide (¬ ((m ≠ 0 ∧ (17 : Int) ≠ 14) ∨ (n ≠ 0 ∧ (17 : Int) ≠ 14 ∧ (17 : Int) ≠ 9 ∧ (17 : Int) ≠ 10 ∧ (17 : Int) ≠ 16))) && tnumber 17 n m) := by
      rw [show (rlOf 17).fr = 0 from rfl, show (rlOf 17).to = 0 from rfl, show (rlOf 17).span = false from rfl]
      rw [show tnumber 17 n m = true from rfl]
      rw [Bool.eq_iff_iff]
      simp
      omega
    refine Eq.trans (show ptk (rlOf 17) (.mk 17 text n m a pos doc ad cap kids) = (decide (0 ≤ pos) && (decide (0 ≤ a) && (decide (a ≤ tmost 17) && ((decide ((rlOf 17).fr ≤ n) && decide (n ≤ (rlOf 17).to)) && (((m == 0) || ((rlOf 17).span && (decide ((rlOf 17).fr ≤ m) && decide (m ≤ (rlOf 17).to)))) && (((doc == []) || ((rlOf 17).doc && pdocOk doc)) && (ptxt (rlOf 17).tx (.mk 17 text n m a pos doc ad cap kids) && pkds (rlOf 17).kd kids))))))) from rfl) ?_
    rw [hX, hK]
    exact core7 hD hN
  · have hX : ptxt (rlOf 18).tx (.mk 18 text n m a pos doc ad cap kids) = ttext 18 a text := by
      exact tx18 text
    have hK : pkds (rlOf 18).kd kids = tkids 18 kids := by
      exact kd0 kids
    have hD : ((doc == []) || ((rlOf 18).doc && pdocOk doc)) = decide (tdocOk 18 doc) := doc_eq doc _
    have hN : ((decide ((rlOf 18).fr ≤ n) && decide (n ≤ (rlOf 18).to)) && ((m == 0) || ((rlOf 18).span && (decide ((rlOf 18).fr ≤ m) && decide (m ≤ (rlOf 18).to))))) = (decide (¬ ((m ≠ 0 ∧ (18 : Int) ≠ 14) ∨ (n ≠ 0 ∧ (18 : Int) ≠ 14 ∧ (18 : Int) ≠ 9 ∧ (18 : Int) ≠ 10 ∧ (18 : Int) ≠ 16))) && tnumber 18 n m) := by
      rw [show (rlOf 18).fr = 0 from rfl, show (rlOf 18).to = 0 from rfl, show (rlOf 18).span = false from rfl]
      rw [show tnumber 18 n m = true from rfl]
      rw [Bool.eq_iff_iff]
      simp
      omega
    refine Eq.trans (show ptk (rlOf 18) (.mk 18 text n m a pos doc ad cap kids) = (decide (0 ≤ pos) && (decide (0 ≤ a) && (decide (a ≤ tmost 18) && ((decide ((rlOf 18).fr ≤ n) && decide (n ≤ (rlOf 18).to)) && (((m == 0) || ((rlOf 18).span && (decide ((rlOf 18).fr ≤ m) && decide (m ≤ (rlOf 18).to)))) && (((doc == []) || ((rlOf 18).doc && pdocOk doc)) && (ptxt (rlOf 18).tx (.mk 18 text n m a pos doc ad cap kids) && pkds (rlOf 18).kd kids))))))) from rfl) ?_
    rw [hX, hK]
    exact core7 hD hN
  · have hX : ptxt (rlOf 19).tx (.mk 19 text n m a pos doc ad cap kids) = ttext 19 a text := by
      show (if a = 1 then nfull (if text.getD 0 0 = 46 then text.drop 1 else text) else nident text) = ttext 19 a text
      rw [tref_eq]
      by_cases ha : a = 1
      · rw [if_pos ha]
        show tref text = if ((19 : Int) = 19 ∨ (19 : Int) = 24) ∧ a = 1 then tref text else nident text
        rw [if_pos ⟨by decide, ha⟩]
      · rw [if_neg ha]
        show nident text = if ((19 : Int) = 19 ∨ (19 : Int) = 24) ∧ a = 1 then tref text else nident text
        rw [if_neg (fun h => ha h.2)]
    have hK : pkds (rlOf 19).kd kids = tkids 19 kids := by
      exact kd0 kids
    have hD : ((doc == []) || ((rlOf 19).doc && pdocOk doc)) = decide (tdocOk 19 doc) := doc_eq doc _
    have hN : ((decide ((rlOf 19).fr ≤ n) && decide (n ≤ (rlOf 19).to)) && ((m == 0) || ((rlOf 19).span && (decide ((rlOf 19).fr ≤ m) && decide (m ≤ (rlOf 19).to))))) = (decide (¬ ((m ≠ 0 ∧ (19 : Int) ≠ 14) ∨ (n ≠ 0 ∧ (19 : Int) ≠ 14 ∧ (19 : Int) ≠ 9 ∧ (19 : Int) ≠ 10 ∧ (19 : Int) ≠ 16))) && tnumber 19 n m) := by
      rw [show (rlOf 19).fr = 0 from rfl, show (rlOf 19).to = 0 from rfl, show (rlOf 19).span = false from rfl]
      rw [show tnumber 19 n m = true from rfl]
      rw [Bool.eq_iff_iff]
      simp
      omega
    refine Eq.trans (show ptk (rlOf 19) (.mk 19 text n m a pos doc ad cap kids) = (decide (0 ≤ pos) && (decide (0 ≤ a) && (decide (a ≤ tmost 19) && ((decide ((rlOf 19).fr ≤ n) && decide (n ≤ (rlOf 19).to)) && (((m == 0) || ((rlOf 19).span && (decide ((rlOf 19).fr ≤ m) && decide (m ≤ (rlOf 19).to)))) && (((doc == []) || ((rlOf 19).doc && pdocOk doc)) && (ptxt (rlOf 19).tx (.mk 19 text n m a pos doc ad cap kids) && pkds (rlOf 19).kd kids))))))) from rfl) ?_
    rw [hX, hK]
    exact core7 hD hN
  · have hX : ptxt (rlOf 20).tx (.mk 20 text n m a pos doc ad cap kids) = ttext 20 a text := by
      rfl
    have hK : pkds (rlOf 20).kd kids = tkids 20 kids := by
      exact kd0 kids
    have hD : ((doc == []) || ((rlOf 20).doc && pdocOk doc)) = decide (tdocOk 20 doc) := doc_eq doc _
    have hN : ((decide ((rlOf 20).fr ≤ n) && decide (n ≤ (rlOf 20).to)) && ((m == 0) || ((rlOf 20).span && (decide ((rlOf 20).fr ≤ m) && decide (m ≤ (rlOf 20).to))))) = (decide (¬ ((m ≠ 0 ∧ (20 : Int) ≠ 14) ∨ (n ≠ 0 ∧ (20 : Int) ≠ 14 ∧ (20 : Int) ≠ 9 ∧ (20 : Int) ≠ 10 ∧ (20 : Int) ≠ 16))) && tnumber 20 n m) := by
      rw [show (rlOf 20).fr = 0 from rfl, show (rlOf 20).to = 0 from rfl, show (rlOf 20).span = false from rfl]
      rw [show tnumber 20 n m = true from rfl]
      rw [Bool.eq_iff_iff]
      simp
      omega
    refine Eq.trans (show ptk (rlOf 20) (.mk 20 text n m a pos doc ad cap kids) = (decide (0 ≤ pos) && (decide (0 ≤ a) && (decide (a ≤ tmost 20) && ((decide ((rlOf 20).fr ≤ n) && decide (n ≤ (rlOf 20).to)) && (((m == 0) || ((rlOf 20).span && (decide ((rlOf 20).fr ≤ m) && decide (m ≤ (rlOf 20).to)))) && (((doc == []) || ((rlOf 20).doc && pdocOk doc)) && (ptxt (rlOf 20).tx (.mk 20 text n m a pos doc ad cap kids) && pkds (rlOf 20).kd kids))))))) from rfl) ?_
    rw [hX, hK]
    exact core7 hD hN
  · have hX : ptxt (rlOf 21).tx (.mk 21 text n m a pos doc ad cap kids) = ttext 21 a text := by
      show nident text = if ((21 : Int) = 19 ∨ (21 : Int) = 24) ∧ a = 1 then tref text else nident text
      rw [if_neg (fun h => absurd h.1 (by decide))]
    have hK : pkds (rlOf 21).kd kids = tkids 21 kids := by
      exact kd0 kids
    have hD : ((doc == []) || ((rlOf 21).doc && pdocOk doc)) = decide (tdocOk 21 doc) := doc_eq doc _
    have hN : ((decide ((rlOf 21).fr ≤ n) && decide (n ≤ (rlOf 21).to)) && ((m == 0) || ((rlOf 21).span && (decide ((rlOf 21).fr ≤ m) && decide (m ≤ (rlOf 21).to))))) = (decide (¬ ((m ≠ 0 ∧ (21 : Int) ≠ 14) ∨ (n ≠ 0 ∧ (21 : Int) ≠ 14 ∧ (21 : Int) ≠ 9 ∧ (21 : Int) ≠ 10 ∧ (21 : Int) ≠ 16))) && tnumber 21 n m) := by
      rw [show (rlOf 21).fr = 0 from rfl, show (rlOf 21).to = 0 from rfl, show (rlOf 21).span = false from rfl]
      rw [show tnumber 21 n m = true from rfl]
      rw [Bool.eq_iff_iff]
      simp
      omega
    refine Eq.trans (show ptk (rlOf 21) (.mk 21 text n m a pos doc ad cap kids) = (decide (0 ≤ pos) && (decide (0 ≤ a) && (decide (a ≤ tmost 21) && ((decide ((rlOf 21).fr ≤ n) && decide (n ≤ (rlOf 21).to)) && (((m == 0) || ((rlOf 21).span && (decide ((rlOf 21).fr ≤ m) && decide (m ≤ (rlOf 21).to)))) && (((doc == []) || ((rlOf 21).doc && pdocOk doc)) && (ptxt (rlOf 21).tx (.mk 21 text n m a pos doc ad cap kids) && pkds (rlOf 21).kd kids))))))) from rfl) ?_
    rw [hX, hK]
    exact core7 hD hN
  · have hX : ptxt (rlOf 22).tx (.mk 22 text n m a pos doc ad cap kids) = ttext 22 a text := by
      rfl
    have hK : pkds (rlOf 22).kd kids = tkids 22 kids := by
      exact kd0 kids
    have hD : ((doc == []) || ((rlOf 22).doc && pdocOk doc)) = decide (tdocOk 22 doc) := doc_eq doc _
    have hN : ((decide ((rlOf 22).fr ≤ n) && decide (n ≤ (rlOf 22).to)) && ((m == 0) || ((rlOf 22).span && (decide ((rlOf 22).fr ≤ m) && decide (m ≤ (rlOf 22).to))))) = (decide (¬ ((m ≠ 0 ∧ (22 : Int) ≠ 14) ∨ (n ≠ 0 ∧ (22 : Int) ≠ 14 ∧ (22 : Int) ≠ 9 ∧ (22 : Int) ≠ 10 ∧ (22 : Int) ≠ 16))) && tnumber 22 n m) := by
      rw [show (rlOf 22).fr = 0 from rfl, show (rlOf 22).to = 0 from rfl, show (rlOf 22).span = false from rfl]
      rw [show tnumber 22 n m = true from rfl]
      rw [Bool.eq_iff_iff]
      simp
      omega
    refine Eq.trans (show ptk (rlOf 22) (.mk 22 text n m a pos doc ad cap kids) = (decide (0 ≤ pos) && (decide (0 ≤ a) && (decide (a ≤ tmost 22) && ((decide ((rlOf 22).fr ≤ n) && decide (n ≤ (rlOf 22).to)) && (((m == 0) || ((rlOf 22).span && (decide ((rlOf 22).fr ≤ m) && decide (m ≤ (rlOf 22).to)))) && (((doc == []) || ((rlOf 22).doc && pdocOk doc)) && (ptxt (rlOf 22).tx (.mk 22 text n m a pos doc ad cap kids) && pkds (rlOf 22).kd kids))))))) from rfl) ?_
    rw [hX, hK]
    exact core7 hD hN
  · have hX : ptxt (rlOf 23).tx (.mk 23 text n m a pos doc ad cap kids) = ttext 23 a text := by
      rfl
    have hK : pkds (rlOf 23).kd kids = tkids 23 kids := by
      show (kids.all fun t => [24].contains t.kind) = tka 23 (decide ((23 : Int) ≠ 12 ∨ 0 < kids.length)) kids 0
      rw [tka_only 23 (by omega) [24] (by decide) (fun x => by
        rw [show tmay 23 x = decide (x = 24) from rfl, Bool.eq_iff_iff]
        simp
        try omega), decide_eq_true (.inl (by omega)), Bool.and_true]
    have hD : ((doc == []) || ((rlOf 23).doc && pdocOk doc)) = decide (tdocOk 23 doc) := doc_eq doc _
    have hN : ((decide ((rlOf 23).fr ≤ n) && decide (n ≤ (rlOf 23).to)) && ((m == 0) || ((rlOf 23).span && (decide ((rlOf 23).fr ≤ m) && decide (m ≤ (rlOf 23).to))))) = (decide (¬ ((m ≠ 0 ∧ (23 : Int) ≠ 14) ∨ (n ≠ 0 ∧ (23 : Int) ≠ 14 ∧ (23 : Int) ≠ 9 ∧ (23 : Int) ≠ 10 ∧ (23 : Int) ≠ 16))) && tnumber 23 n m) := by
      rw [show (rlOf 23).fr = 0 from rfl, show (rlOf 23).to = 0 from rfl, show (rlOf 23).span = false from rfl]
      rw [show tnumber 23 n m = true from rfl]
      rw [Bool.eq_iff_iff]
      simp
      omega
    refine Eq.trans (show ptk (rlOf 23) (.mk 23 text n m a pos doc ad cap kids) = (decide (0 ≤ pos) && (decide (0 ≤ a) && (decide (a ≤ tmost 23) && ((decide ((rlOf 23).fr ≤ n) && decide (n ≤ (rlOf 23).to)) && (((m == 0) || ((rlOf 23).span && (decide ((rlOf 23).fr ≤ m) && decide (m ≤ (rlOf 23).to)))) && (((doc == []) || ((rlOf 23).doc && pdocOk doc)) && (ptxt (rlOf 23).tx (.mk 23 text n m a pos doc ad cap kids) && pkds (rlOf 23).kd kids))))))) from rfl) ?_
    rw [hX, hK]
    exact core7 hD hN
  · have hX : ptxt (rlOf 24).tx (.mk 24 text n m a pos doc ad cap kids) = ttext 24 a text := by
      show (if a = 1 then nfull (if text.getD 0 0 = 46 then text.drop 1 else text) else nident text) = ttext 24 a text
      rw [tref_eq]
      by_cases ha : a = 1
      · rw [if_pos ha]
        show tref text = if ((24 : Int) = 19 ∨ (24 : Int) = 24) ∧ a = 1 then tref text else nident text
        rw [if_pos ⟨by decide, ha⟩]
      · rw [if_neg ha]
        show nident text = if ((24 : Int) = 19 ∨ (24 : Int) = 24) ∧ a = 1 then tref text else nident text
        rw [if_neg (fun h => ha h.2)]
    have hK : pkds (rlOf 24).kd kids = tkids 24 kids := by
      exact kd24 kids
    have hD : ((doc == []) || ((rlOf 24).doc && pdocOk doc)) = decide (tdocOk 24 doc) := doc_eq doc _
    have hN : ((decide ((rlOf 24).fr ≤ n) && decide (n ≤ (rlOf 24).to)) && ((m == 0) || ((rlOf 24).span && (decide ((rlOf 24).fr ≤ m) && decide (m ≤ (rlOf 24).to))))) = (decide (¬ ((m ≠ 0 ∧ (24 : Int) ≠ 14) ∨ (n ≠ 0 ∧ (24 : Int) ≠ 14 ∧ (24 : Int) ≠ 9 ∧ (24 : Int) ≠ 10 ∧ (24 : Int) ≠ 16))) && tnumber 24 n m) := by
      rw [show (rlOf 24).fr = 0 from rfl, show (rlOf 24).to = 0 from rfl, show (rlOf 24).span = false from rfl]
      rw [show tnumber 24 n m = true from rfl]
      rw [Bool.eq_iff_iff]
      simp
      omega
    refine Eq.trans (show ptk (rlOf 24) (.mk 24 text n m a pos doc ad cap kids) = (decide (0 ≤ pos) && (decide (0 ≤ a) && (decide (a ≤ tmost 24) && ((decide ((rlOf 24).fr ≤ n) && decide (n ≤ (rlOf 24).to)) && (((m == 0) || ((rlOf 24).span && (decide ((rlOf 24).fr ≤ m) && decide (m ≤ (rlOf 24).to)))) && (((doc == []) || ((rlOf 24).doc && pdocOk doc)) && (ptxt (rlOf 24).tx (.mk 24 text n m a pos doc ad cap kids) && pkds (rlOf 24).kd kids))))))) from rfl) ?_
    rw [hX, hK]
    exact core7 hD hN

mutual
theorem pright_eq : ∀ t : Tn, 1 ≤ t.kind → t.kind ≤ 24 → pright t = tright7 t
  | .mk k text n m a pos doc ad cap kids, h1, h2 => by
    rw [pright, tright7, ktk k h1 h2]
    cases ht : town (.mk k text n m a pos doc ad cap kids) with
    | false => rfl
    | true =>
      rw [Bool.true_and, Bool.true_and]
      rw [← ktk k h1 h2] at ht
      unfold ptk at ht
      simp only [Bool.and_eq_true] at ht
      obtain ⟨_, _, _, _, _, _, _, h8⟩ := ht
      have h1' : (1 : Int) ≤ k := h1
      have h2' : k ≤ 24 := h2
      have hkk := kd_kok (k := (k - 1).toNat) (r := rlOf k) (by
        unfold rlOf
        have hlt : (k - 1).toNat < rls.length := by simp [rls]; omega
        rw [List.getD_eq_getElem?_getD, List.getElem?_eq_getElem hlt]
        rfl) h8
      exact prights_eq kids hkk
theorem prights_eq : ∀ l : List Tn, l.all kok = true → prights l = trights7 l
  | [], _ => rfl
  | t :: r, h => by
    rw [List.all_cons, Bool.and_eq_true] at h
    have hk := of_decide_eq_true h.1
    rw [prights, trights7, pright_eq t hk.1 hk.2, prights_eq r h.2]
end

end Go.Proofs.YtgkablmglkagfaaGreatDoor

/- The contracts of the program's own layer 7, over the turned text, as the walks want them. -/
namespace Go.Proofs.YtgkablmglkagfaaGreatDoor
open Go.RowKit
set_option linter.unusedVariables false

theorem pcount_any {w : World} {t : Tn} (h : TnOk w t) (hf : tfew t = true) (W : World) (hT : Hid (TTab W)) (hB : Below w.heap.size w W) :
    Calls Tryz.prog 8 #[t.val] W fun e W' => e = .returned (.int .i64 (tcount t)) ∧ Below W.heap.size W W' := pcount_all h W hB

theorem pdeep_any {w : World} {t : Tn} (h : TnOk w t) (hf : tfew t = true) (W : World) (hT : Hid (TTab W)) (hB : Below w.heap.size w W) :
    Calls Tryz.prog 9 #[t.val] W fun e W' => e = .returned (.int .i64 (tdeep t)) ∧ Below W.heap.size W W' := pdeep_all h W hB

theorem pcheckB_any {w : World} {t : Tn} (h : TnOk w t) (hf : tfew t = true) (W : World) (hT : Hid (TTab W)) (hB : Below w.heap.size w W) :
    Calls Tryz.prog 6 #[t.val] W fun e W' => e = .returned (.bool (pcheckB t)) ∧ Below W.heap.size W W' := pcheck_all h (tfew_short hf) W hT hB

end Go.Proofs.YtgkablmglkagfaaGreatDoor

/- The program's own Check against the document's list. -/
namespace Go.Proofs.YtgkablmglkagfaaGreatDoor
open Go.RowKit
set_option linter.unusedVariables false

mutual
theorem tright7_eq : ∀ t : Tn, tright7 t = tright t
  | .mk kind text n m a pos doc ad cap kids => by rw [tright7, tright, trights7_eq kids]
theorem trights7_eq : ∀ l : List Tn, trights7 l = trights l
  | [] => rfl
  | t :: r => by rw [trights7, trights, tright7_eq t, trights7_eq r]
end

theorem pcheckB_eq (t : Tn) : pcheckB t = tcheck t := by
  have E0 : tcheck t = (decide (t.kind = 1) && (decide (tcount t ≤ 20000) && (decide (tdeep t ≤ 64) && tright t))) := rfl
  rw [E0]
  unfold pcheckB
  by_cases hk : t.kind = 1
  · rw [pright_eq t (by omega) (by omega), tright7_eq]
  · rw [decide_eq_false hk]; rfl

theorem pcheck_any {w : World} {t : Tn} (h : TnOk w t) (hf : tfew t = true) (W : World) (hT : Hid (TTab W)) (hB : Below w.heap.size w W) :
    Calls Tryz.prog 6 #[t.val] W fun e W' => e = .returned (.bool (tcheck t)) ∧ Below W.heap.size W W' := by
  rw [← pcheckB_eq]
  exact pcheckB_any h hf W hT hB

end Go.Proofs.YtgkablmglkagfaaGreatDoor

/- The law's own 'awake' of layer 7: the chapter's example holds. -/
namespace Go.Proofs.YtgkablmglkagfaaGreatDoor
open Go.RowKit
set_option linter.unusedVariables false

def tex : Tn := .mk 1 [] 0 0 0 0 [] none 0 []

theorem tex_ok (w : World) : TnOk w tex := .mk (by unfold i64b; omega) (fun c hc => by simp at hc) (by simp) (by unfold i64b; omega) (by unfold i64b; omega) (by unfold i64b; omega) (by unfold i64b; omega) (fun c hc => by simp at hc) (by simp) (by simp) (by simp) (fun _ => rfl) (fun h => absurd h (by simp)) (fun i t h => by simp at h)

theorem tex_few : tfew tex = true := by decide

theorem tex_check : pcheckB tex = true := by decide

theorem tex_count : tcount tex = 1 := by decide

theorem tex_deep : tdeep tex = 1 := by decide

set_option maxRecDepth 10000 in
set_option maxHeartbeats 1000000 in
theorem tawake_any (w : World) (hT : Hid (TTab w)) : Calls Tryz.prog 4 #[] w fun e w' => e = .returned (.bool true) ∧ Below w.heap.size w w' := by
  have q1 := fun W (hB : Below w.heap.size w W) => pcheckB_any (tex_ok w) tex_few W (hT.out.below hB (Nat.le_refl _)) hB
  have q2 := fun W (hB : Below w.heap.size w W) => pcount_any (tex_ok w) tex_few W (hT.out.below hB (Nat.le_refl _)) hB
  have q3 := fun W (hB : Below w.heap.size w W) => pdeep_any (tex_ok w) tex_few W (hT.out.below hB (Nat.le_refl _)) hB
  rw [tex_check] at q1
  rw [tex_count] at q2
  rw [tex_deep] at q3
  change ∀ V, Below w.heap.size w V → Calls Tryz.prog 6 #[.agg #[.int .i64 1, .string { data := #[] }, .int .i64 0, .int .i64 0, .int .i64 0, .int .i64 0, .string { data := #[] }, .slice none 0 0]] V (fun e W' => e = .returned (.bool true) ∧ Below V.heap.size V W') at q1
  change ∀ V, Below w.heap.size w V → Calls Tryz.prog 8 #[.agg #[.int .i64 1, .string { data := #[] }, .int .i64 0, .int .i64 0, .int .i64 0, .int .i64 0, .string { data := #[] }, .slice none 0 0]] V (fun e W' => e = .returned (.int .i64 1) ∧ Below V.heap.size V W') at q2
  change ∀ V, Below w.heap.size w V → Calls Tryz.prog 9 #[.agg #[.int .i64 1, .string { data := #[] }, .int .i64 0, .int .i64 0, .int .i64 0, .int .i64 0, .string { data := #[] }, .slice none 0 0]] V (fun e W' => e = .returned (.int .i64 1) ∧ Below V.heap.size V W') at q3
  have HBA : Hid (Below w.heap.size w (w.alloc (.cells #[.int .i64 1, .string { data := #[] }, .int .i64 0, .int .i64 0, .int .i64 0, .int .i64 0, .string { data := #[] }, .slice none 0 0] 24))) := (Below.refl _ _).alloc (Nat.le_refl _) _
  have Q1 : Hid _ := q1
  have Q2 : Hid _ := q2
  have Q3 : Hid _ := q3
  clear q1 q2 q3
  go_enter Tryz.func4, Tryz.ntmps4
  go_wp2_with fail
  refine Calls.mono (Q1.out _ HBA.out) ?_
  rintro e w1 ⟨rfl, hb1⟩
  have p0 := own_cells hb1 0 _ rfl
  have p1 := own_cells hb1 1 _ rfl
  have p2 := own_cells hb1 2 _ rfl
  have p3 := own_cells hb1 3 _ rfl
  have p4 := own_cells hb1 4 _ rfl
  have p5 := own_cells hb1 5 _ rfl
  have p6 := own_cells hb1 6 _ rfl
  have p7 := own_cells hb1 7 _ rfl
  have HB1 : Hid (Below w.heap.size w w1) := HBA.out.trans (hb1.mono HBA.out.size)
  have HC1 : Hid _ := hb1
  clear hb1
  go_wp2_with fail
  refine Calls.mono (Q2.out _ HB1.out) ?_
  rintro e w2 ⟨rfl, hb2⟩
  have hb12 := HC1.out.trans (hb2.mono HC1.out.size)
  have r0 := own_cells hb12 0 _ rfl
  have r1 := own_cells hb12 1 _ rfl
  have r2 := own_cells hb12 2 _ rfl
  have r3 := own_cells hb12 3 _ rfl
  have r4 := own_cells hb12 4 _ rfl
  have r5 := own_cells hb12 5 _ rfl
  have r6 := own_cells hb12 6 _ rfl
  have r7 := own_cells hb12 7 _ rfl
  have HB2 : Hid (Below w.heap.size w w2) := HB1.out.trans (hb2.mono HB1.out.size)
  clear hb2 hb12 p0 p1 p2 p3 p4 p5 p6 p7
  go_wp2_with fail
  refine Calls.mono (Q3.out _ HB2.out) ?_
  rintro e w3 ⟨rfl, hb3⟩
  go_wp2
  go_ret
  exact ⟨rfl, HB2.out.trans (hb3.mono HB2.out.size)⟩

end Go.Proofs.YtgkablmglkagfaaGreatDoor
