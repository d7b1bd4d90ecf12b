/- Put together by a program out of these texts of mine: PKid1, PInv, PTake0, PTake1, PKid2. -/
import Derived.Deep.RegionWith
import Derived.Test.YtmoeibhenihhfaaGreatDoorBunA4
import Derived.Test.YtmoeibhenihhfaaGreatDoorBunA9

/- What the program's rules ask of a node's kids: areOfMap, one worth, areOfFile. -/
namespace Go.Proofs.YtmoeibhenihhfaaGreatDoor
open Go.RowKit
set_option linter.unusedVariables false
set_option linter.unusedSimpArgs false

def pkHead (p : Tn → Bool) : List Tn → Bool
  | [] => false
  | t :: _ => p t

def pkMap (l : List Tn) : Bool := ptyp 2 l && pkHead (fun t => decide (t.text ∈ npl)) l

/-- An AskL in a world of its own. -/
theorem AskL.run {B : Nat} {W U : World} {k : FuncId} {caps : Array Value} {p : List Tn → Bool} {ad : Option Addr} {cap : Nat} {kids : List Tn} (h : ∀ (V : World) (ad : Option Addr) (cap : Nat) (kids : List Tn), Sin B W V → TTab V → Kl V ad cap kids → (∀ (i : Nat) (t : Tn), kids[i]? = some t → TnShort t) → Calls Tryz.prog k (#[.slice ad kids.length cap] ++ caps) V fun e V' => e = .returned (.bool (p kids)) ∧ Below V.heap.size V V')
    (hU : Sin B W U) (hT : TTab U) (hk : Kl U ad cap kids) (hs : ∀ (i : Nat) (t : Tn), kids[i]? = some t → TnShort t) : Calls Tryz.prog k (#[.slice ad kids.length cap] ++ caps) U fun e V' => e = .returned (.bool (p kids)) ∧ Below U.heap.size U V' := h U ad cap kids hU hT hk hs

set_option maxRecDepth 10000 in
set_option maxHeartbeats 2000000 in
theorem pmap_any {V : World} {ad : Option Addr} {cap : Nat} {kids : List Tn} (hT : TTab V) (hk : Kl V ad cap kids) (hs : ∀ (i : Nat) (t : Tn), kids[i]? = some t → TnShort t) :
    Calls Tryz.prog 40 #[.slice ad kids.length cap] V fun e V' => e = .returned (.bool (pkMap kids)) ∧ Below V.heap.size V V' := by
  have q1 := ptyped_any V 2 (by omega) (by omega)
  change Calls Tryz.prog 39 #[.int .i64 2] V _ at q1
  have q3 : ∀ k caps, ∀ (U : World), (∀ (V' : World) (ad : Option Addr) (cap : Nat) (kids : List Tn), Sin V.heap.size U V' → TTab V' → Kl V' ad cap kids → (∀ (i : Nat) (t : Tn), kids[i]? = some t → TnShort t) → Calls Tryz.prog k (#[.slice ad kids.length cap] ++ caps) V' fun e V'' => e = .returned (.bool (ptyp 2 kids)) ∧ Below V'.heap.size V' V'') → Below V.heap.size V U → Calls Tryz.prog k (#[.slice ad kids.length cap] ++ caps) U fun e V'' => e = .returned (.bool (ptyp 2 kids)) ∧ Below U.heap.size U V'' :=
    fun k caps U h hU => h U ad cap kids (Sin.refl _ _) (hT.below hU (Nat.le_refl _)) (hk.under hU) hs
  have hl := hk.hlen
  have Q1 : Hid _ := q1
  clear q1
  cases hp : ptyp 2 kids with
  | false =>
    rw [show pkMap kids = false by unfold pkMap; rw [hp]; rfl]
    rw [hp] at q3
    have Q3 : Hid _ := q3
    clear q3 hk hs
    generalize hN : kids.length = N at *
    go_enter Tryz.func40, Tryz.ntmps40
    go_wp2_with fail
    refine Calls.mono Q1.out ?_
    rintro e w1 ⟨f, rfl, ⟨k, caps, rfl, hin, hask⟩, hb⟩
    have Q : Hid _ := Q3.out k caps w1 hask hb
    have HB : Hid (Below V.heap.size V w1) := hb
    clear hask hb
    unfold Goin at hin
    go_wp2_with fail
    refine Calls.mono Q.out ?_
    rintro e w2 ⟨rfl, hb2⟩
    have HB2 : Hid (Below V.heap.size V w2) := HB.out.trans (hb2.mono HB.out.size)
    clear hb2 hin
    go_wp2
    go_ret
    exact ⟨rfl, HB2.out⟩
  | true =>
    have hlen : 2 ≤ kids.length := by unfold ptyp at hp; simp at hp; exact hp.1
    obtain ⟨b, off, rfl, hlt, hc⟩ := hk.hmem (by omega)
    obtain ⟨⟨kd, tx, n2, m2, a2, pos2, doc2, ad2, cap2, ks⟩, hkid⟩ : ∃ t, kids[0]? = some t := ⟨kids[0]'(by omega), List.getElem?_eq_getElem (by omega)⟩
    have hby : byts tx := by have := hk.hall 0 _ hkid; cases this; assumption
    rw [show pkMap kids = decide (tx ∈ npl) by
      unfold pkMap; rw [hp, Bool.true_and]
      cases kids with
      | nil => simp at hkid
      | cons t r => simp at hkid; subst hkid; rfl]
    rw [hp] at q3
    have qp := fun W => pisplain_any tx W hby
    have hcell := fun U (hU : Below V.heap.size V U) => (hU.cell (p := ⟨b, off + 0 * 8 + 1, none⟩) hlt).trans (hc 0 _ hkid 1 _ rfl)
    simp only [Nat.zero_mul, Nat.add_zero] at hcell
    generalize decide (tx ∈ npl) = R at qp ⊢
    generalize strOfNums tx = TX at qp hcell
    have Q3 : Hid _ := q3
    have QP : Hid _ := qp
    have HC : Hid _ := hcell
    clear q3 hk hs qp hcell hc hkid hp
    generalize hN : kids.length = N at *
    go_enter Tryz.func40, Tryz.ntmps40
    go_wp2_with fail
    refine Calls.mono Q1.out ?_
    rintro e w1 ⟨f, rfl, ⟨k, caps, rfl, hin, hask⟩, hb⟩
    have Q : Hid _ := Q3.out k caps w1 hask hb
    have HB : Hid (Below V.heap.size V w1) := hb
    clear hask hb
    unfold Goin at hin
    go_wp2_with fail
    refine Calls.mono Q.out ?_
    rintro e w2 ⟨rfl, hb2⟩
    have HB2 : Hid (Below V.heap.size V w2) := HB.out.trans (hb2.mono HB.out.size)
    have c1 := HC.out w2 HB2.out
    clear hb2 hin
    go_wp2_with fail
    refine Calls.mono (QP.out _) ?_
    rintro e w3 ⟨rfl, rfl⟩
    go_wp2
    go_ret
    exact ⟨rfl, HB2.out⟩

def pkEntry (l : List Tn) : Bool := (l.length == 1) && pkHead (fun t => pkWorth t.kind) l

set_option maxRecDepth 10000 in
set_option maxHeartbeats 2000000 in
theorem pentry7_any {V : World} {ad : Option Addr} {cap : Nat} {kids : List Tn} (hk : Kl V ad cap kids) :
    Calls Tryz.prog 50 #[.slice ad kids.length cap] V fun e V' => e = .returned (.bool (pkEntry kids)) ∧ Below V.heap.size V V' := by
  have hl := hk.hlen
  have HB : Hid (Below V.heap.size V V) := Below.refl _ _
  by_cases h1 : kids.length = 1
  · obtain ⟨b, off, rfl, hlt, hc⟩ := hk.hmem (by omega)
    obtain ⟨t, hkid⟩ : ∃ t, kids[0]? = some t := ⟨kids[0]'(by omega), List.getElem?_eq_getElem (by omega)⟩
    rw [show pkEntry kids = pkWorth t.kind by
      unfold pkEntry; rw [h1]
      cases kids with
      | nil => simp at hkid
      | cons t r => simp at hkid; subst hkid; rfl]
    have q := pworth_any t V
    generalize pkWorth t.kind = R at q ⊢
    obtain ⟨kd, tx, n2, m2, a2, pos2, doc2, ad2, cap2, ks⟩ := t
    obtain ⟨c0, c1, c2, c3, c4, c5, c6, c7⟩ := kid_cells hlt (Below.refl _ _) hc hkid
    simp only [Nat.zero_mul, Nat.add_zero] at c0 c1 c2 c3 c4 c5 c6 c7
    rw [h1]
    change Calls Tryz.prog 51 #[.agg #[.int .i64 kd, .string (strOfNums tx), .int .i64 n2, .int .i64 m2, .int .i64 a2, .int .i64 pos2, .string (strOfNums doc2), .slice ad2 ks.length cap2]] V _ at q
    generalize strOfNums tx = U1 at c1 q
    generalize strOfNums doc2 = U2 at c6 q
    have Q : Hid _ := q
    clear q hk hc hkid h1 hl
    go_enter Tryz.func50, Tryz.ntmps50
    go_wp2_with fail
    refine Calls.mono Q.out ?_
    rintro e w1 ⟨rfl, hb⟩
    go_wp2
    go_ret
    exact ⟨rfl, hb⟩
  · rw [show pkEntry kids = false by unfold pkEntry; rw [show (kids.length == 1) = false by simpa using h1]; rfl]
    have e1 : ((kids.length : Int) == 1) = false := by simp; omega
    clear hk h1
    generalize kids.length = N at *
    go_enter Tryz.func50, Tryz.ntmps50
    go_wp2
    go_ret
    exact ⟨rfl, HB.out⟩

/-- How many packages. -/
def pkCount (l : List Tn) : Nat := (l.filter fun t => t.kind == 3).length

theorem pkCount_take {l : List Tn} {i : Nat} {t : Tn} (h : l[i]? = some t) : pkCount (l.take (i + 1)) = pkCount (l.take i) + if t.kind = 3 then 1 else 0 := by
  unfold pkCount
  rw [List.take_add_one, h, List.filter_append, List.length_append]
  by_cases hk : t.kind = 3
  · simp [hk]
  · simp [hk]

theorem pkCount_le (l : List Tn) (i : Nat) : pkCount (l.take i) ≤ pkCount l := by
  unfold pkCount
  exact ((List.take_sublist i l).filter _).length_le

set_option maxRecDepth 10000 in
set_option maxHeartbeats 2000000 in
theorem pfile1_any (t : Tn) (V : World) (g c : Nat) (hc1 : c ≤ 1) (hg : V.heap[g]? = some (.cells #[.int .i64 (c : Int)] 3 (0, 0))) (B : Nat) (hB : B ≤ g) :
    Calls Tryz.prog 59 #[t.val, .pointer (some ⟨g, 0, none⟩)] V fun e V' => e = .returned (.bool (decide (c + (if t.kind = 3 then 1 else 0) ≤ 1))) ∧ V'.heap[g]? = some (.cells #[.int .i64 ((c + (if t.kind = 3 then 1 else 0) : Nat) : Int)] 3 (0, 0)) ∧ Below B V V' := by
  obtain ⟨kind, text, n, m, a, pos, doc, ad, cap, kids⟩ := t
  change Calls Tryz.prog 59 #[.agg #[.int .i64 kind, .string (strOfNums text), .int .i64 n, .int .i64 m, .int .i64 a, .int .i64 pos, .string (strOfNums doc), .slice ad kids.length cap], .pointer (some ⟨g, 0, none⟩)] V fun e V' => e = .returned (.bool (decide (c + (if kind = 3 then 1 else 0) ≤ 1))) ∧ V'.heap[g]? = some (.cells #[.int .i64 ((c + (if kind = 3 then 1 else 0) : Nat) : Int)] 3 (0, 0)) ∧ Below B V V'
  generalize strOfNums text = T1
  generalize strOfNums doc = T2
  have hcell := one_cell_of hg
  have hlt := one_lt hg
  have hfr := one_frozen hg
  by_cases hk : kind = 3
  · subst hk
    rw [if_pos rfl]
    have F : Hid (((V.setCell ⟨g, 0, none⟩ (.int .i64 ((c : Int) + 1))).alloc (.cells #[.int .i64 3, .string T1, .int .i64 n, .int .i64 m, .int .i64 a, .int .i64 pos, .string T2, .slice ad kids.length cap] 24)).heap[g]? = some (.cells #[.int .i64 ((c + 1 : Nat) : Int)] 3 (0, 0)) ∧ Below B V ((V.setCell ⟨g, 0, none⟩ (.int .i64 ((c : Int) + 1))).alloc (.cells #[.int .i64 3, .string T1, .int .i64 n, .int .i64 m, .int .i64 a, .int .i64 pos, .string T2, .slice ad kids.length cap] 24))) := by
      refine ⟨alloc_old ?_, ((Below.refl _ _).setCell hB _).alloc (by simp [World.setCell]; omega) _⟩
      have := one_setCell (u := .int .i64 ((c : Int) + 1)) hg
      rw [this]; rfl
    clear hg
    rcases (show c = 0 ∨ c = 1 by omega) with rfl | rfl
    all_goals
      go_enter Tryz.func59, Tryz.ntmps59
      go_wp2
      go_ret
      exact ⟨rfl, F.out⟩
  · rw [if_neg hk]
    have F : Hid ((V.alloc (.cells #[.int .i64 kind, .string T1, .int .i64 n, .int .i64 m, .int .i64 a, .int .i64 pos, .string T2, .slice ad kids.length cap] 24)).heap[g]? = some (.cells #[.int .i64 ((c + 0 : Nat) : Int)] 3 (0, 0)) ∧ Below B V (V.alloc (.cells #[.int .i64 kind, .string T1, .int .i64 n, .int .i64 m, .int .i64 a, .int .i64 pos, .string T2, .slice ad kids.length cap] 24))) :=
      ⟨alloc_old hg, (Below.refl _ _).alloc (by omega) _⟩
    have e1 : (kind == 3) = false := by simpa using hk
    clear hg hk
    rcases (show c = 0 ∨ c = 1 by omega) with rfl | rfl
    all_goals
      go_enter Tryz.func59, Tryz.ntmps59
      go_wp2
      go_ret
      exact ⟨rfl, F.out⟩

end Go.Proofs.YtmoeibhenihhfaaGreatDoor

/- Regions that draw their order, slot by slot: what each slot holds, once its operation has come up. -/
namespace Go.Proofs.YtmoeibhenihhfaaGreatDoor
open Go.RowKit
set_option linter.unusedVariables false
set_option linter.unusedSimpArgs false

theorem wpOp_list {P : Program} {ops : Array Oper} {Q : Exit → Act → World → Prop} {i : Nat} {K : Act → World → Prop} {a : Act} {w : World} {o : Oper} (ho : ops[i]? = some o)
    (h : ∀ Q' : Exit → Act → World → Prop, (∀ a w, K a w → Q' .normal a w) → wpList P ops Q' [o] a w) : wpOp P ops Q i K a w := by
  have h1 := h (fun e a w => match e with | .normal => K a w | e => Q e a w) (fun _ _ h => h)
  unfold wpOp
  simp only [ho]
  simp only [wpList] at h1
  split
  · rename_i hw
    rw [if_pos hw] at h1
    refine h1.imp (fun h2 => ?_) (fun h2 => ⟨h2.1, h2.2⟩)
    unfold Oper.wp at *
    generalize (execOp a.eval o).run P w = r at *
    cases r with
    | ok n w' =>
      cases n <;> simp only [Oper.upon] at h2 ⊢ <;>
        first
          | exact h2
          | exact Calls.mono h2 (fun e w'' he => by cases e <;> exact he)
    | halt x w' => cases x <;> simp only [Oper.upon] at h2 ⊢ <;> exact h2
  · rename_i hw
    rw [if_neg hw] at h1
    exact h1

/-- The rest of a region, from its n-th operation on, by one walk of the order of the text. -/
theorem wpAny_rest {P : Program} {ops : Array Oper} {Q : Exit → Act → World → Prop} {fuel : Nat} {listed : Array Bool} {a : Act} {w : World} (n : Nat) (hf : (ops.toList.drop n).length = fuel) (hs : Region.noSelect ops = true) (hB : Region.lexFrom .any ops (ops.toList.drop n).length n listed = true)
    (h : wpQuiet P ops (fun w' => ∃ x : Ext w, w' = x.val) (fun a' => ∀ w', (∃ x : Ext w, w' = x.val) → Q .normal a' w') (ops.toList.drop n) a) : wpAny P .any ops Q fuel listed a w := by
  subst hf
  refine wpAny_of_quiet (C := fun w' => ∃ x : Ext w, w' = x.val) (Q := fun a' => ∀ w', (∃ x : Ext w, w' = x.val) → Q .normal a' w') (fun _ _ h h' => h' _ h) _ _ _ _ ⟨⟨w, Below.refl _ _⟩, rfl⟩ ?_
  exact wpAnyQ_lex hs _ n _ _ (fun j => by rw [List.getElem?_drop]; simp) hB h

/-- What a rule is: what it asks of a text, the bounds of its numbers, what it asks of kids. -/
structure Rl where
  tx : Option (Tn → Bool)
  fr : Int
  to : Int
  span : Bool
  most : Int
  doc : Bool
  kd : Option (List Tn → Bool)

/-- What a slot holds. -/
inductive Sk where
  | val (v : Value)
  | ask (p : List Tn → Bool)
  | ints (zs : List Int)
  | rule (r : Rl)
  | all (rs : List Rl)

def TxIs (B : Nat) (w : World) (v : Value) : Option (Tn → Bool) → Prop
  | none => v = .nilFunc
  | some p => AskN B w v p

def KdIs (B : Nat) (w : World) (v : Value) : Option (List Tn → Bool) → Prop
  | none => v = .nilFunc
  | some p => AskL B w v p

def RlCells (B : Nat) (w : World) (r : Rl) (cs : List Value) : Prop :=
  ∃ ft fk, cs = [ft, .int .i64 r.fr, .int .i64 r.to, .bool r.span, .int .i64 r.most, .bool r.doc, fk] ∧ TxIs B w ft r.tx ∧ KdIs B w fk r.kd

/-- Rules' cells, one behind the other. -/
def AllIs (B : Nat) (w : World) : List Rl → List Value → Prop
  | [], cs => cs = []
  | r :: rs, cs => ∃ ft fk rest, cs = ft :: .int .i64 r.fr :: .int .i64 r.to :: .bool r.span :: .int .i64 r.most :: .bool r.doc :: fk :: rest ∧ TxIs B w ft r.tx ∧ KdIs B w fk r.kd ∧ AllIs B w rs rest

/-- The cells of a rule that nobody gave. -/
def zrl : List Value := [.nilFunc, .int .i64 0, .int .i64 0, .bool false, .int .i64 0, .bool false, .nilFunc]

def Sk.holds (B : Nat) (w : World) : Sk → Value → Prop
  | .val u, v => v = u
  | .ask p, v => AskL B w v p
  | .ints zs, v => ∃ b, v = .slice (some ⟨b, 0, none⟩) zs.length zs.length ∧ B ≤ b ∧ b < w.heap.size ∧ Ib w b zs
  | .rule r, v => ∃ cs, v = .agg cs.toArray ∧ RlCells B w r cs
  | .all rs, v => ∃ cs, v = .agg (zrl ++ cs).toArray ∧ AllIs B w rs cs

theorem TxIs.sin {B : Nat} {w V : World} {v : Value} {o : Option (Tn → Bool)} (h : TxIs B w v o) (hs : Sin B w V) : TxIs B V v o := by
  cases o with
  | none => exact h
  | some p => exact AskN.sin h hs

theorem KdIs.sin {B : Nat} {w V : World} {v : Value} {o : Option (List Tn → Bool)} (h : KdIs B w v o) (hs : Sin B w V) : KdIs B V v o := by
  cases o with
  | none => exact h
  | some p => exact AskL.sin h hs

theorem RlCells.sin {B : Nat} {w V : World} {r : Rl} {cs : List Value} (h : RlCells B w r cs) (hs : Sin B w V) : RlCells B V r cs := by
  obtain ⟨ft, fk, h1, h2, h3⟩ := h
  exact ⟨ft, fk, h1, h2.sin hs, h3.sin hs⟩

theorem AllIs.sin {B : Nat} {w V : World} (hs : Sin B w V) : ∀ {rs : List Rl} {cs : List Value}, AllIs B w rs cs → AllIs B V rs cs
  | [], cs, h => h
  | r :: rs, cs, ⟨ft, fk, rest, h1, h2, h3, h4⟩ => ⟨ft, fk, rest, h1, h2.sin hs, h3.sin hs, AllIs.sin hs h4⟩

theorem TxIs.one {B : Nat} {w : World} {v : Value} {o : Option (Tn → Bool)} (h : TxIs B w v o) : v.oneCell' = true := by
  cases o with
  | none => cases (show v = .nilFunc from h); rfl
  | some p => obtain ⟨k, caps, rfl, _⟩ := h; rfl

theorem KdIs.one {B : Nat} {w : World} {v : Value} {o : Option (List Tn → Bool)} (h : KdIs B w v o) : v.oneCell' = true := by
  cases o with
  | none => cases (show v = .nilFunc from h); rfl
  | some p => obtain ⟨k, caps, rfl, _⟩ := h; rfl

theorem AllIs.one {B : Nat} {w : World} : ∀ {rs : List Rl} {cs : List Value}, AllIs B w rs cs → cs.all (·.oneCell') = true ∧ cs.length = 7 * rs.length
  | [], cs, h => by cases (show cs = [] from h); exact ⟨rfl, rfl⟩
  | r :: rs, cs, ⟨ft, fk, rest, h1, h2, h3, h4⟩ => by
    have ih := AllIs.one h4
    subst h1
    constructor
    · simp only [List.all_cons, h2.one, h3.one, ih.1, Bool.and_true, Bool.true_and]
      rfl
    · simp only [List.length_cons, ih.2]; omega

/-- The cells of the k-th rule. -/
theorem AllIs.get {B : Nat} {w : World} : ∀ {rs : List Rl} {cs : List Value}, AllIs B w rs cs → ∀ (k : Nat) (r : Rl), rs[k]? = some r → ∃ ft fk, TxIs B w ft r.tx ∧ KdIs B w fk r.kd ∧ ∀ j u, [ft, .int .i64 r.fr, .int .i64 r.to, .bool r.span, .int .i64 r.most, .bool r.doc, fk][j]? = some u → cs[k * 7 + j]? = some u
  | [], cs, h, k, r, hk => by simp at hk
  | r0 :: rs, cs, ⟨ft, fk, rest, h1, h2, h3, h4⟩, k, r, hk => by
    subst h1
    cases k with
    | zero =>
      simp at hk
      subst hk
      refine ⟨ft, fk, h2, h3, fun j u hj => ?_⟩
      rw [Nat.zero_mul, Nat.zero_add]
      have hjl : j < 7 := by
        have := (List.getElem?_eq_some_iff.1 hj).1
        simpa using this
      rcases (show j = 0 ∨ j = 1 ∨ j = 2 ∨ j = 3 ∨ j = 4 ∨ j = 5 ∨ j = 6 by omega) with rfl | rfl | rfl | rfl | rfl | rfl | rfl
      all_goals exact hj
    | succ k =>
      obtain ⟨ft', fk', g1, g2, g3⟩ := AllIs.get h4 k r (by simpa using hk)
      refine ⟨ft', fk', g1, g2, fun j u hj => ?_⟩
      rw [show (k + 1) * 7 + j = (k * 7 + j) + 1 + 1 + 1 + 1 + 1 + 1 + 1 by omega]
      simp only [List.getElem?_cons_succ]
      exact g3 j u hj

theorem Sk.holds_sin {B : Nat} {w V : World} {s : Sk} {v : Value} (h : s.holds B w v) (hs : Sin B w V) : s.holds B V v := by
  cases s with
  | val u => exact h
  | ask p => exact AskL.sin h hs
  | ints zs =>
    obtain ⟨b, h1, h2, h3, h4⟩ := h
    exact ⟨b, h1, h2, Nat.lt_of_lt_of_le h3 hs.size, h4.of_block (hs.block b h2 h3)⟩
  | rule r =>
    obtain ⟨cs, h1, h2⟩ := h
    exact ⟨cs, h1, h2.sin hs⟩
  | all rs =>
    obtain ⟨cs, h1, h2⟩ := h
    exact ⟨cs, h1, AllIs.sin hs h2⟩

/-- A list of marks with one more. -/
def upb (L : Nat → Bool) (i : Nat) : Nat → Bool := fun k => if k = i then true else L k

/-- Slots with one written. -/
def upv (us : Nat → Value) (d : Nat) (v : Value) : Nat → Value := fun k => if k = d then v else us k

/-- What holds between two operations: the slots whose operations have come up hold what they must. -/
def Ist (B : Nat) (base : World) (F : (Nat → Value) → Act) (dst : Nat → Nat) (tab : Nat → Sk) (X : (Nat → Bool) → (Nat → Value) → World → Prop) (L : Nat → Bool) (a : Act) (w : World) : Prop :=
  Below base.heap.size base w ∧ ∃ us, a = F us ∧ (∀ i, L i = true → (tab i).holds B w (us (dst i))) ∧ X L us w

theorem Ist.put {B : Nat} {base : World} {F : (Nat → Value) → Act} {dst : Nat → Nat} {tab : Nat → Sk} {X : (Nat → Bool) → (Nat → Value) → World → Prop} {L : Nat → Bool} {us : Nat → Value} {w w' : World} (hd : ∀ i j, dst i = dst j → i = j)
    (hS : ∀ i, L i = true → (tab i).holds B w (us (dst i))) (i : Nat) (v : Value) (a' : Act) (ha : a' = F (upv us (dst i) v)) (hs : Sin B w w') (hb : Below base.heap.size base w') (hv : (tab i).holds B w' v) (hX : X (upb L i) (upv us (dst i) v) w') :
    Ist B base F dst tab X (fun k => if k = i then true else L k) a' w' := by
  refine ⟨hb, _, ha, fun j hj => ?_, hX⟩
  by_cases hji : j = i
  · subst hji
    simpa [upv] using hv
  · have hne : dst j ≠ dst i := fun e => hji (hd _ _ e)
    have hj' : L j = true := by simpa [hji] using hj
    have := Sk.holds_sin (s := tab j) (hS j hj') hs
    simpa [upv, hne] using this

end Go.Proofs.YtmoeibhenihhfaaGreatDoor

/- The contracts of the program's own rule.takes: its parts. -/
namespace Go.Proofs.YtmoeibhenihhfaaGreatDoor
open Go.RowKit
set_option linter.unusedVariables false
set_option linter.unusedSimpArgs false

set_option maxRecDepth 10000 in
set_option maxHeartbeats 1000000 in
theorem pwithin_any (V : World) (g : Nat) (ft fk : Value) (fr to most x : Int) (span doc : Bool) (t : TypeId)
    (hg : V.heap[g]? = some (.cells #[ft, .int .i64 fr, .int .i64 to, .bool span, .int .i64 most, .bool doc, fk] t (0, 0))) :
    Calls Tryz.prog 52 #[.int .i64 x, .pointer (some ⟨g, 0, none⟩)] V fun e V' => e = .returned (.bool (decide (fr ≤ x) && decide (x ≤ to))) ∧ V = V' := by
  have c1 := blk_cell hg 1 _ rfl
  have c2 := blk_cell hg 2 _ rfl
  clear hg
  by_cases h1 : fr ≤ x
  · by_cases h2 : x ≤ to
    · rw [decide_eq_true h1, decide_eq_true h2]
      go_enter Tryz.func52, Tryz.ntmps52
      go_wp2
      go_ret
      exact ⟨rfl, rfl⟩
    · rw [decide_eq_true h1, decide_eq_false h2]
      go_enter Tryz.func52, Tryz.ntmps52
      go_wp2
      go_ret
      exact ⟨rfl, rfl⟩
  · rw [decide_eq_false h1]
    go_enter Tryz.func52, Tryz.ntmps52
    go_wp2
    go_ret
    exact ⟨rfl, rfl⟩

/-- A text that may be a Doc, but for nothing. -/
def pdocOk (s : List Int) : Bool := (s.getLast? == some 10) && decide ((s.length : Int) ≤ 10000)

theorem hsuf10 (s : List Int) (hs : byts s) : Lib.hasSuffix (strOfNums s).data.toList [10] = (s.getLast? == some 10) := by
  rw [strOfNums_data]
  unfold Lib.hasSuffix
  rcases List.eq_nil_or_concat s with rfl | ⟨r, c, rfl⟩
  · rfl
  · have hc := hs c (by simp)
    rw [Bool.eq_iff_iff]
    simp only [List.concat_eq_append, List.map_append, List.map_cons, List.map_nil, List.getLast?_append, List.getLast?_singleton]
    constructor
    · intro h
      have h2 : [10] <:+ (r.map fun n => UInt8.ofNat n.toNat) ++ [UInt8.ofNat c.toNat] := by simpa using h
      obtain ⟨q, hq⟩ := h2
      have h3 := congrArg List.getLast? hq
      simp at h3
      have : c = 10 := u8_inj hc (by omega) (by rw [← h3]; rfl)
      subst this
      simp
    · intro h
      have : c = 10 := by simpa using h
      subst this
      have h2 : [10] <:+ (r.map fun n => UInt8.ofNat n.toNat) ++ [UInt8.ofNat (10 : Int).toNat] := ⟨_, rfl⟩
      simp

set_option maxRecDepth 10000 in
set_option maxHeartbeats 1000000 in
theorem pisdoc_any (s : List Int) (V : World) (hs : Hid (byts s)) (hl : (s.length : Int) ≤ 9223372036854775807) :
    Calls Tryz.prog 53 #[.string (strOfNums s)] V fun e V' => e = .returned (.bool (pdocOk s)) ∧ V = V' := by
  have q := Sh.strings_HasSuffix (strOfNums s) { data := #[10] } V (by rw [strOfNums_size]; omega)
  rw [show ({ data := #[10] } : ByteArray).data.toList = [10] from rfl, hsuf10 s hs.out] at q
  unfold pdocOk
  have hsz : ((strOfNums s).size : Int) = (s.length : Int) := by rw [strOfNums_size]
  rw [← hsz] at hl ⊢
  generalize (s.getLast? == some 10) = R at q ⊢
  generalize strOfNums s = S at q hl ⊢
  have Q : Hid _ := q
  clear q hsz
  cases R with
  | false =>
    go_enter Tryz.func53, Tryz.ntmps53
    go_wp2_with fail
    refine Calls.mono Q.out ?_
    rintro e w1 ⟨rfl, rfl⟩
    go_wp2
    go_ret
    exact ⟨rfl, rfl⟩
  | true =>
    go_enter Tryz.func53, Tryz.ntmps53
    go_wp2_with fail
    refine Calls.mono Q.out ?_
    rintro e w1 ⟨rfl, rfl⟩
    go_wp2
    go_ret
    exact ⟨by first | rfl | simp, rfl⟩

def ptxt (o : Option (Tn → Bool)) (t : Tn) : Bool := match o with | none => t.text == [] | some p => p t

def pkds (o : Option (List Tn → Bool)) (l : List Tn) : Bool := match o with | none => l.length == 0 | some p => p l

set_option maxRecDepth 10000 in
set_option maxHeartbeats 1000000 in
theorem ptakest_any {V : World} {t : Tn} {o : Option (Tn → Bool)} (B : Nat) (ft fk : Value) (fr to most : Int) (span doc : Bool) (htx : TxIs B V ft o) (hfk : fk.oneCell' = true) (hT : TTab V) (h : TnOk V t) (hsh : TnShort t) :
    Calls Tryz.prog 54 #[.agg #[ft, .int .i64 fr, .int .i64 to, .bool span, .int .i64 most, .bool doc, fk], t.val] V fun e V' => e = .returned (.bool (ptxt o t)) ∧ Below V.heap.size V V' := by
  cases o with
  | none =>
    cases (show ft = .nilFunc from htx)
    have hby : byts t.text := by cases h; assumption
    show Calls _ _ _ _ fun e V' => e = .returned (.bool (t.text == [])) ∧ Below V.heap.size V V'
    have e0 := weq2 t.text [] hby (by unfold byts; decide) _ (str_lit [] [] rfl)
    obtain ⟨kind, text, n, m, a, pos, dc, ad, cap, kids⟩ := t
    change Calls Tryz.prog 54 #[_, .agg #[.int .i64 kind, .string (strOfNums text), .int .i64 n, .int .i64 m, .int .i64 a, .int .i64 pos, .string (strOfNums dc), .slice ad kids.length cap]] V fun e V' => e = .returned (.bool (text == [])) ∧ Below V.heap.size V V'
    change ((strOfNums text).toList == []) = (text == []) at e0
    generalize (text == []) = R at e0 ⊢
    generalize strOfNums text = T1 at e0 ⊢
    generalize strOfNums dc = T2
    have HBA : Hid (Below V.heap.size V ((V.alloc (.cells #[.nilFunc, .int .i64 fr, .int .i64 to, .bool span, .int .i64 most, .bool doc, fk] 36)).alloc (.cells #[.int .i64 kind, .string T1, .int .i64 n, .int .i64 m, .int .i64 a, .int .i64 pos, .string T2, .slice ad kids.length cap] 24))) := ((Below.refl _ _).alloc (Nat.le_refl _) _).alloc (by simp only [World.size_alloc]; omega) _
    clear h hsh hby htx
    have hrun : ∀ w, (binOp .eql 26 .nilFunc .nilFunc).run Tryz.prog w = .ok (.bool true) w := fun w => by kernel_rfl
    go_enter Tryz.func54, Tryz.ntmps54
    go_wp2
    go_ret
    exact ⟨rfl, HBA.out⟩
  | some p =>
    obtain ⟨k, caps, rfl, hin, hask⟩ := htx
    show Calls _ _ _ _ fun e V' => e = .returned (.bool (p t)) ∧ Below V.heap.size V V'
    have q := fun W (hW : Below V.heap.size V W) => hask W t (Sin.of hW (Nat.le_refl _)) (hT.below hW (Nat.le_refl _)) (h.under hW) hsh
    generalize p t = R at q ⊢
    obtain ⟨kind, text, n, m, a, pos, dc, ad, cap, kids⟩ := t
    change Calls Tryz.prog 54 #[.agg #[.func (.func k) #[] caps, .int .i64 fr, .int .i64 to, .bool span, .int .i64 most, .bool doc, fk], .agg #[.int .i64 kind, .string (strOfNums text), .int .i64 n, .int .i64 m, .int .i64 a, .int .i64 pos, .string (strOfNums dc), .slice ad kids.length cap]] V fun e V' => e = .returned (.bool R) ∧ Below V.heap.size V V'
    change ∀ W, Below V.heap.size V W → Calls Tryz.prog k ((#[Value.agg #[.int .i64 kind, .string (strOfNums text), .int .i64 n, .int .i64 m, .int .i64 a, .int .i64 pos, .string (strOfNums dc), .slice ad kids.length cap]] : Array Value) ++ caps) W (fun e V' => e = .returned (.bool R) ∧ Below W.heap.size W V') at q
    generalize strOfNums text = T1 at q ⊢
    generalize strOfNums dc = T2 at q ⊢
    have HBA : Hid (Below V.heap.size V ((V.alloc (.cells #[.func (.func k) #[] caps, .int .i64 fr, .int .i64 to, .bool span, .int .i64 most, .bool doc, fk] 36)).alloc (.cells #[.int .i64 kind, .string T1, .int .i64 n, .int .i64 m, .int .i64 a, .int .i64 pos, .string T2, .slice ad kids.length cap] 24))) := ((Below.refl _ _).alloc (Nat.le_refl _) _).alloc (by simp only [World.size_alloc]; omega) _
    have Q : Hid _ := q _ HBA.out
    clear h hsh hask q
    unfold Goin at hin
    have hrun : ∀ w, (binOp .eql 26 (.func (.func k) #[] caps) .nilFunc).run Tryz.prog w = .ok (.bool false) w := fun w => by kernel_rfl
    go_enter Tryz.func54, Tryz.ntmps54
    go_wp2_with fail
    refine Calls.mono Q.out ?_
    rintro e w1 ⟨rfl, hb⟩
    have HB : Hid (Below V.heap.size V w1) := HBA.out.trans (hb.mono HBA.out.size)
    clear hb
    go_wp2
    go_ret
    exact ⟨rfl, HB.out⟩

set_option maxRecDepth 10000 in
set_option maxHeartbeats 1000000 in
theorem ptakesk_any {V : World} {ad : Option Addr} {cap : Nat} {kids : List Tn} {o : Option (List Tn → Bool)} (B : Nat) (ft fk : Value) (fr to most : Int) (span doc : Bool) (hkd : KdIs B V fk o) (hft : ft.oneCell' = true) (hT : TTab V) (hk : Kl V ad cap kids) (hs : ∀ (i : Nat) (t : Tn), kids[i]? = some t → TnShort t) :
    Calls Tryz.prog 55 #[.agg #[ft, .int .i64 fr, .int .i64 to, .bool span, .int .i64 most, .bool doc, fk], .slice ad kids.length cap] V fun e V' => e = .returned (.bool (pkds o kids)) ∧ Below V.heap.size V V' := by
  have hl := hk.hlen
  cases o with
  | none =>
    cases (show fk = .nilFunc from hkd)
    show Calls _ _ _ _ fun e V' => e = .returned (.bool (kids.length == 0)) ∧ Below V.heap.size V V'
    have HBA : Hid (Below V.heap.size V (V.alloc (.cells #[ft, .int .i64 fr, .int .i64 to, .bool span, .int .i64 most, .bool doc, .nilFunc] 36))) := (Below.refl _ _).alloc (Nat.le_refl _) _
    have e0 : ((kids.length : Int) == 0) = (kids.length == 0) := by rw [Bool.eq_iff_iff]; simp
    clear hk hs hkd
    generalize (kids.length == 0) = R at e0 ⊢
    generalize kids.length = N at *
    have hrun : ∀ w, (binOp .eql 33 .nilFunc .nilFunc).run Tryz.prog w = .ok (.bool true) w := fun w => by kernel_rfl
    go_enter Tryz.func55, Tryz.ntmps55
    go_wp2
    go_ret
    exact ⟨rfl, HBA.out⟩
  | some p =>
    obtain ⟨k, caps, rfl, hin, hask⟩ := hkd
    show Calls _ _ _ _ fun e V' => e = .returned (.bool (p kids)) ∧ Below V.heap.size V V'
    have q := fun W (hW : Below V.heap.size V W) => hask W ad cap kids (Sin.of hW (Nat.le_refl _)) (hT.below hW (Nat.le_refl _)) (hk.under hW) hs
    generalize p kids = R at q ⊢
    have HBA : Hid (Below V.heap.size V (V.alloc (.cells #[ft, .int .i64 fr, .int .i64 to, .bool span, .int .i64 most, .bool doc, .func (.func k) #[] caps] 36))) := (Below.refl _ _).alloc (Nat.le_refl _) _
    have Q : Hid _ := q _ HBA.out
    clear hk hs hask q
    generalize kids.length = N at *
    unfold Goin at hin
    have hrun : ∀ w, (binOp .eql 33 (.func (.func k) #[] caps) .nilFunc).run Tryz.prog w = .ok (.bool false) w := fun w => by kernel_rfl
    go_enter Tryz.func55, Tryz.ntmps55
    go_wp2_with fail
    refine Calls.mono Q.out ?_
    rintro e w1 ⟨rfl, hb⟩
    have HB : Hid (Below V.heap.size V w1) := HBA.out.trans (hb.mono HBA.out.size)
    clear hb
    go_wp2
    go_ret
    exact ⟨rfl, HB.out⟩

end Go.Proofs.YtmoeibhenihhfaaGreatDoor

/- The contract of the program's own rule.takes. -/
namespace Go.Proofs.YtmoeibhenihhfaaGreatDoor
open Go.RowKit
set_option linter.unusedVariables false
set_option linter.unusedSimpArgs false

theorem tk_cells {V w1 : World} {c1 c2 : Array Value} {t1 t2 : TypeId} (hb : Below ((V.alloc (.cells c1 t1)).alloc (.cells c2 t2)).heap.size ((V.alloc (.cells c1 t1)).alloc (.cells c2 t2)) w1) :
    (∀ i v, c1[i]? = some v → w1.cell? ⟨V.heap.size, i, none⟩ = some v) ∧ (∀ i v, c2[i]? = some v → w1.cell? ⟨V.heap.size + 1, i, none⟩ = some v) := by
  refine ⟨fun i v h => ?_, fun i v h => ?_⟩
  · exact blk_cell ((hb.block _ (by simp only [World.size_alloc]; omega)).trans (alloc_old (alloc_at V (.cells c1 t1) rfl))) i v h
  · exact blk_cell ((hb.block _ (by simp only [World.size_alloc]; omega)).trans (alloc_at _ _ (by simp))) i v h

set_option maxRecDepth 20000 in
set_option maxHeartbeats 8000000 in
theorem ptakes_raw (V : World) (ft fk : Value) (fr to most kind n m a pos : Int) (span rdoc : Bool) (T1 T2 : ByteArray) (ad : Option Addr) (N cap : Nat) (hft : ft.oneCell' = true) (hfk : fk.oneCell' = true) (W1 W2 D0 D1 X K : Bool)
    (hd0 : (T2.toList == []) = D0)
    (q1 : ∀ U, Below ((V.alloc (.cells #[ft, .int .i64 fr, .int .i64 to, .bool span, .int .i64 most, .bool rdoc, fk] 36)).alloc (.cells #[.int .i64 kind, .string T1, .int .i64 n, .int .i64 m, .int .i64 a, .int .i64 pos, .string T2, .slice ad N cap] 24)).heap.size ((V.alloc (.cells #[ft, .int .i64 fr, .int .i64 to, .bool span, .int .i64 most, .bool rdoc, fk] 36)).alloc (.cells #[.int .i64 kind, .string T1, .int .i64 n, .int .i64 m, .int .i64 a, .int .i64 pos, .string T2, .slice ad N cap] 24)) U → Calls Tryz.prog 52 #[.int .i64 n, .pointer (some ⟨V.heap.size, 0, none⟩)] U fun e U' => e = .returned (.bool W1) ∧ U = U')
    (q2 : ∀ U, Below ((V.alloc (.cells #[ft, .int .i64 fr, .int .i64 to, .bool span, .int .i64 most, .bool rdoc, fk] 36)).alloc (.cells #[.int .i64 kind, .string T1, .int .i64 n, .int .i64 m, .int .i64 a, .int .i64 pos, .string T2, .slice ad N cap] 24)).heap.size ((V.alloc (.cells #[ft, .int .i64 fr, .int .i64 to, .bool span, .int .i64 most, .bool rdoc, fk] 36)).alloc (.cells #[.int .i64 kind, .string T1, .int .i64 n, .int .i64 m, .int .i64 a, .int .i64 pos, .string T2, .slice ad N cap] 24)) U → Calls Tryz.prog 52 #[.int .i64 m, .pointer (some ⟨V.heap.size, 0, none⟩)] U fun e U' => e = .returned (.bool W2) ∧ U = U')
    (q3 : ∀ U, Calls Tryz.prog 53 #[.string T2] U fun e U' => e = .returned (.bool D1) ∧ U = U')
    (q4 : ∀ U, Below V.heap.size V U → Calls Tryz.prog 54 #[.agg #[ft, .int .i64 fr, .int .i64 to, .bool span, .int .i64 most, .bool rdoc, fk], .agg #[.int .i64 kind, .string T1, .int .i64 n, .int .i64 m, .int .i64 a, .int .i64 pos, .string T2, .slice ad N cap]] U fun e U' => e = .returned (.bool X) ∧ Below U.heap.size U U')
    (q5 : ∀ U, Below V.heap.size V U → Calls Tryz.prog 55 #[.agg #[ft, .int .i64 fr, .int .i64 to, .bool span, .int .i64 most, .bool rdoc, fk], .slice ad N cap] U fun e U' => e = .returned (.bool K) ∧ Below U.heap.size U U') :
    Calls Tryz.prog 19 #[.agg #[ft, .int .i64 fr, .int .i64 to, .bool span, .int .i64 most, .bool rdoc, fk], .agg #[.int .i64 kind, .string T1, .int .i64 n, .int .i64 m, .int .i64 a, .int .i64 pos, .string T2, .slice ad N cap]] V fun e V' => e = .returned (.bool (decide (0 ≤ pos) && (decide (0 ≤ a) && (decide (a ≤ most) && (W1 && (((m == 0) || (span && W2)) && ((D0 || (rdoc && D1)) && (X && K)))))))) ∧ Below V.heap.size V V' := by
  have hmf : ∀ (fn : Fn) (first cap : Array Value) (w : World), (Instr.makeFunc fn first cap).run Tryz.prog w = .ok (.func fn first cap) w := fun _ _ _ _ => rfl
  have HBA : Hid (Below V.heap.size V ((V.alloc (.cells #[ft, .int .i64 fr, .int .i64 to, .bool span, .int .i64 most, .bool rdoc, fk] 36)).alloc (.cells #[.int .i64 kind, .string T1, .int .i64 n, .int .i64 m, .int .i64 a, .int .i64 pos, .string T2, .slice ad N cap] 24))) := ((Below.refl _ _).alloc (Nat.le_refl _) _).alloc (by simp only [World.size_alloc]; omega) _
  have Q1 : Hid _ := q1 _ (Below.refl _ _)
  have Q2 : Hid _ := q2 _ (Below.refl _ _)
  have Q3 : Hid _ := q3
  have Q4 : Hid _ := q4
  have Q5 : Hid _ := q5
  clear q1 q2 q3 q4 q5
  by_cases h1 : 0 ≤ pos
  case neg =>
    rw [decide_eq_false h1]
    go_enter Tryz.func19, Tryz.ntmps19
    go_wp2
    go_ret
    exact ⟨rfl, HBA.out⟩
  by_cases h2 : 0 ≤ a
  case neg =>
    rw [decide_eq_true h1, decide_eq_false h2]
    go_enter Tryz.func19, Tryz.ntmps19
    go_wp2
    go_ret
    exact ⟨rfl, HBA.out⟩
  by_cases h3 : a ≤ most
  case neg =>
    rw [decide_eq_true h1, decide_eq_true h2, decide_eq_false h3]
    go_enter Tryz.func19, Tryz.ntmps19
    go_wp2
    go_ret
    exact ⟨rfl, HBA.out⟩
  rw [decide_eq_true h1, decide_eq_true h2, decide_eq_true h3, Bool.true_and, Bool.true_and, Bool.true_and]
  cases W1
  case false =>
    go_enter Tryz.func19, Tryz.ntmps19
    go_wp2_with fail
    refine Calls.mono Q1.out ?_
    rintro e w1 ⟨rfl, rfl⟩
    go_wp2
    go_ret
    exact ⟨rfl, HBA.out⟩
  generalize e5 : (m == 0) = M0
  cases M0 with
  | true =>
    cases D0 with
    | true =>
      cases X with
      | false =>
        go_enter Tryz.func19, Tryz.ntmps19
        go_wp2_with fail
        refine Calls.mono Q1.out ?_
        rintro e w1 ⟨rfl, rfl⟩
        go_wp2_with fail
        refine Calls.mono (Q4.out _ HBA.out) ?_
        rintro e w1 ⟨rfl, hb1⟩
        have HB1 : Hid (Below V.heap.size V w1) := HBA.out.trans (hb1.mono HBA.out.size)
        clear hb1
        go_wp2
        go_ret
        exact ⟨rfl, HB1.out⟩
      | true =>
        go_enter Tryz.func19, Tryz.ntmps19
        go_wp2_with fail
        refine Calls.mono Q1.out ?_
        rintro e w1 ⟨rfl, rfl⟩
        go_wp2_with fail
        refine Calls.mono (Q4.out _ HBA.out) ?_
        rintro e w1 ⟨rfl, hb1⟩
        have HB1 : Hid (Below V.heap.size V w1) := HBA.out.trans (hb1.mono HBA.out.size)
        obtain ⟨g1, g2⟩ := tk_cells hb1
        have r0 := g1 0 _ rfl
        have r1 := g1 1 _ rfl
        have r2 := g1 2 _ rfl
        have r3 := g1 3 _ rfl
        have r4 := g1 4 _ rfl
        have r5 := g1 5 _ rfl
        have r6 := g1 6 _ rfl
        have n0 := g2 0 _ rfl
        have n1 := g2 1 _ rfl
        have n2 := g2 2 _ rfl
        have n3 := g2 3 _ rfl
        have n4 := g2 4 _ rfl
        have n5 := g2 5 _ rfl
        have n6 := g2 6 _ rfl
        have n7 := g2 7 _ rfl
        clear hb1 g1 g2
        go_wp2_with fail
        refine Calls.mono (Q5.out _ HB1.out) ?_
        rintro e w2 ⟨rfl, hb2⟩
        have HB2 : Hid (Below V.heap.size V w2) := HB1.out.trans (hb2.mono HB1.out.size)
        clear hb2
        go_wp2
        go_ret
        exact ⟨rfl, HB2.out⟩
    | false =>
      cases rdoc with
      | false =>
        go_enter Tryz.func19, Tryz.ntmps19
        go_wp2_with fail
        refine Calls.mono Q1.out ?_
        rintro e w1 ⟨rfl, rfl⟩
        go_wp2
        go_ret
        exact ⟨rfl, HBA.out⟩
      | true =>
        cases D1 with
        | false =>
          go_enter Tryz.func19, Tryz.ntmps19
          go_wp2_with fail
          refine Calls.mono Q1.out ?_
          rintro e w1 ⟨rfl, rfl⟩
          go_wp2_with fail
          refine Calls.mono (Q3.out _) ?_
          rintro e w1 ⟨rfl, rfl⟩
          go_wp2
          go_ret
          exact ⟨rfl, HBA.out⟩
        | true =>
          cases X with
          | false =>
            go_enter Tryz.func19, Tryz.ntmps19
            go_wp2_with fail
            refine Calls.mono Q1.out ?_
            rintro e w1 ⟨rfl, rfl⟩
            go_wp2_with fail
            refine Calls.mono (Q3.out _) ?_
            rintro e w1 ⟨rfl, rfl⟩
            go_wp2_with fail
            refine Calls.mono (Q4.out _ HBA.out) ?_
            rintro e w1 ⟨rfl, hb1⟩
            have HB1 : Hid (Below V.heap.size V w1) := HBA.out.trans (hb1.mono HBA.out.size)
            clear hb1
            go_wp2
            go_ret
            exact ⟨rfl, HB1.out⟩
          | true =>
            go_enter Tryz.func19, Tryz.ntmps19
            go_wp2_with fail
            refine Calls.mono Q1.out ?_
            rintro e w1 ⟨rfl, rfl⟩
            go_wp2_with fail
            refine Calls.mono (Q3.out _) ?_
            rintro e w1 ⟨rfl, rfl⟩
            go_wp2_with fail
            refine Calls.mono (Q4.out _ HBA.out) ?_
            rintro e w1 ⟨rfl, hb1⟩
            have HB1 : Hid (Below V.heap.size V w1) := HBA.out.trans (hb1.mono HBA.out.size)
            obtain ⟨g1, g2⟩ := tk_cells hb1
            have r0 := g1 0 _ rfl
            have r1 := g1 1 _ rfl
            have r2 := g1 2 _ rfl
            have r3 := g1 3 _ rfl
            have r4 := g1 4 _ rfl
            have r5 := g1 5 _ rfl
            have r6 := g1 6 _ rfl
            have n0 := g2 0 _ rfl
            have n1 := g2 1 _ rfl
            have n2 := g2 2 _ rfl
            have n3 := g2 3 _ rfl
            have n4 := g2 4 _ rfl
            have n5 := g2 5 _ rfl
            have n6 := g2 6 _ rfl
            have n7 := g2 7 _ rfl
            clear hb1 g1 g2
            go_wp2_with fail
            refine Calls.mono (Q5.out _ HB1.out) ?_
            rintro e w2 ⟨rfl, hb2⟩
            have HB2 : Hid (Below V.heap.size V w2) := HB1.out.trans (hb2.mono HB1.out.size)
            clear hb2
            go_wp2
            go_ret
            exact ⟨rfl, HB2.out⟩
  | false =>
    cases span with
    | false =>
      go_enter Tryz.func19, Tryz.ntmps19
      go_wp2_with fail
      refine Calls.mono Q1.out ?_
      rintro e w1 ⟨rfl, rfl⟩
      go_wp2
      go_ret
      exact ⟨rfl, HBA.out⟩
    | true =>
      cases W2 with
      | false =>
        go_enter Tryz.func19, Tryz.ntmps19
        go_wp2_with fail
        refine Calls.mono Q1.out ?_
        rintro e w1 ⟨rfl, rfl⟩
        go_wp2_with fail
        refine Calls.mono Q2.out ?_
        rintro e w1 ⟨rfl, rfl⟩
        go_wp2
        go_ret
        exact ⟨rfl, HBA.out⟩
      | true =>
        cases D0 with
        | true =>
          cases X with
          | false =>
            go_enter Tryz.func19, Tryz.ntmps19
            go_wp2_with fail
            refine Calls.mono Q1.out ?_
            rintro e w1 ⟨rfl, rfl⟩
            go_wp2_with fail
            refine Calls.mono Q2.out ?_
            rintro e w1 ⟨rfl, rfl⟩
            go_wp2_with fail
            refine Calls.mono (Q4.out _ HBA.out) ?_
            rintro e w1 ⟨rfl, hb1⟩
            have HB1 : Hid (Below V.heap.size V w1) := HBA.out.trans (hb1.mono HBA.out.size)
            clear hb1
            go_wp2
            go_ret
            exact ⟨rfl, HB1.out⟩
          | true =>
            go_enter Tryz.func19, Tryz.ntmps19
            go_wp2_with fail
            refine Calls.mono Q1.out ?_
            rintro e w1 ⟨rfl, rfl⟩
            go_wp2_with fail
            refine Calls.mono Q2.out ?_
            rintro e w1 ⟨rfl, rfl⟩
            go_wp2_with fail
            refine Calls.mono (Q4.out _ HBA.out) ?_
            rintro e w1 ⟨rfl, hb1⟩
            have HB1 : Hid (Below V.heap.size V w1) := HBA.out.trans (hb1.mono HBA.out.size)
            obtain ⟨g1, g2⟩ := tk_cells hb1
            have r0 := g1 0 _ rfl
            have r1 := g1 1 _ rfl
            have r2 := g1 2 _ rfl
            have r3 := g1 3 _ rfl
            have r4 := g1 4 _ rfl
            have r5 := g1 5 _ rfl
            have r6 := g1 6 _ rfl
            have n0 := g2 0 _ rfl
            have n1 := g2 1 _ rfl
            have n2 := g2 2 _ rfl
            have n3 := g2 3 _ rfl
            have n4 := g2 4 _ rfl
            have n5 := g2 5 _ rfl
            have n6 := g2 6 _ rfl
            have n7 := g2 7 _ rfl
            clear hb1 g1 g2
            go_wp2_with fail
            refine Calls.mono (Q5.out _ HB1.out) ?_
            rintro e w2 ⟨rfl, hb2⟩
            have HB2 : Hid (Below V.heap.size V w2) := HB1.out.trans (hb2.mono HB1.out.size)
            clear hb2
            go_wp2
            go_ret
            exact ⟨rfl, HB2.out⟩
        | false =>
          cases rdoc with
          | false =>
            go_enter Tryz.func19, Tryz.ntmps19
            go_wp2_with fail
            refine Calls.mono Q1.out ?_
            rintro e w1 ⟨rfl, rfl⟩
            go_wp2_with fail
            refine Calls.mono Q2.out ?_
            rintro e w1 ⟨rfl, rfl⟩
            go_wp2
            go_ret
            exact ⟨rfl, HBA.out⟩
          | true =>
            cases D1 with
            | false =>
              go_enter Tryz.func19, Tryz.ntmps19
              go_wp2_with fail
              refine Calls.mono Q1.out ?_
              rintro e w1 ⟨rfl, rfl⟩
              go_wp2_with fail
              refine Calls.mono Q2.out ?_
              rintro e w1 ⟨rfl, rfl⟩
              go_wp2_with fail
              refine Calls.mono (Q3.out _) ?_
              rintro e w1 ⟨rfl, rfl⟩
              go_wp2
              go_ret
              exact ⟨rfl, HBA.out⟩
            | true =>
              cases X with
              | false =>
                go_enter Tryz.func19, Tryz.ntmps19
                go_wp2_with fail
                refine Calls.mono Q1.out ?_
                rintro e w1 ⟨rfl, rfl⟩
                go_wp2_with fail
                refine Calls.mono Q2.out ?_
                rintro e w1 ⟨rfl, rfl⟩
                go_wp2_with fail
                refine Calls.mono (Q3.out _) ?_
                rintro e w1 ⟨rfl, rfl⟩
                go_wp2_with fail
                refine Calls.mono (Q4.out _ HBA.out) ?_
                rintro e w1 ⟨rfl, hb1⟩
                have HB1 : Hid (Below V.heap.size V w1) := HBA.out.trans (hb1.mono HBA.out.size)
                clear hb1
                go_wp2
                go_ret
                exact ⟨rfl, HB1.out⟩
              | true =>
                go_enter Tryz.func19, Tryz.ntmps19
                go_wp2_with fail
                refine Calls.mono Q1.out ?_
                rintro e w1 ⟨rfl, rfl⟩
                go_wp2_with fail
                refine Calls.mono Q2.out ?_
                rintro e w1 ⟨rfl, rfl⟩
                go_wp2_with fail
                refine Calls.mono (Q3.out _) ?_
                rintro e w1 ⟨rfl, rfl⟩
                go_wp2_with fail
                refine Calls.mono (Q4.out _ HBA.out) ?_
                rintro e w1 ⟨rfl, hb1⟩
                have HB1 : Hid (Below V.heap.size V w1) := HBA.out.trans (hb1.mono HBA.out.size)
                obtain ⟨g1, g2⟩ := tk_cells hb1
                have r0 := g1 0 _ rfl
                have r1 := g1 1 _ rfl
                have r2 := g1 2 _ rfl
                have r3 := g1 3 _ rfl
                have r4 := g1 4 _ rfl
                have r5 := g1 5 _ rfl
                have r6 := g1 6 _ rfl
                have n0 := g2 0 _ rfl
                have n1 := g2 1 _ rfl
                have n2 := g2 2 _ rfl
                have n3 := g2 3 _ rfl
                have n4 := g2 4 _ rfl
                have n5 := g2 5 _ rfl
                have n6 := g2 6 _ rfl
                have n7 := g2 7 _ rfl
                clear hb1 g1 g2
                go_wp2_with fail
                refine Calls.mono (Q5.out _ HB1.out) ?_
                rintro e w2 ⟨rfl, hb2⟩
                have HB2 : Hid (Below V.heap.size V w2) := HB1.out.trans (hb2.mono HB1.out.size)
                clear hb2
                go_wp2
                go_ret
                exact ⟨rfl, HB2.out⟩

end Go.Proofs.YtmoeibhenihhfaaGreatDoor

/- What the program's rules ask of a node's kids: areOfFile, areOfOption. -/
namespace Go.Proofs.YtmoeibhenihhfaaGreatDoor
open Go.RowKit
set_option linter.unusedVariables false
set_option linter.unusedSimpArgs false

def pkFile (l : List Tn) : Bool := (l.all fun t => [3, 2, 4, 5, 6, 7, 8].contains t.kind) && decide (pkCount l ≤ 1)

set_option maxRecDepth 10000 in
set_option maxHeartbeats 2000000 in
theorem pfile_any {V : World} {ad : Option Addr} {cap : Nat} {kids : List Tn} (hT : TTab V) (hk : Kl V ad cap kids) (hs : ∀ (i : Nat) (t : Tn), kids[i]? = some t → TnShort t) :
    Calls Tryz.prog 32 #[.slice ad kids.length cap] V fun e V' => e = .returned (.bool (pkFile kids)) ∧ Below V.heap.size V V' := by
  have hmf : ∀ (fn : Fn) (first cap : Array Value) (w : World), (Instr.makeFunc fn first cap).run Tryz.prog w = .ok (.func fn first cap) w := fun _ _ _ _ => rfl
  have q1 := ponly_any ((V.alloc (.cells #[.int .i64 0] 3)).alloc (.cells #[.int .i64 3, .int .i64 2, .int .i64 4, .int .i64 5, .int .i64 6, .int .i64 7, .int .i64 8] 3)) (V.heap.size + 1) 7 [3, 2, 4, 5, 6, 7, 8] (by simp) (fun j hj => by
    have h2 := alloc_at (V.alloc (.cells #[.int .i64 0] 3)) (.cells #[.int .i64 3, .int .i64 2, .int .i64 4, .int .i64 5, .int .i64 6, .int .i64 7, .int .i64 8] 3) (k := V.heap.size + 1) (by simp)
    have hj' : j < 7 := hj
    rcases (show j = 0 ∨ j = 1 ∨ j = 2 ∨ j = 3 ∨ j = 4 ∨ j = 5 ∨ j = 6 by omega) with rfl | rfl | rfl | rfl | rfl | rfl | rfl
    all_goals exact blk_cell h2 _ _ rfl) (by simp) V.heap.size (by omega)
  change Calls Tryz.prog 36 #[.slice (some ⟨V.heap.size + 1, 0, none⟩) 7 7] _ _ at q1
  have HBA : Hid (Below V.heap.size V ((V.alloc (.cells #[.int .i64 0] 3)).alloc (.cells #[.int .i64 3, .int .i64 2, .int .i64 4, .int .i64 5, .int .i64 6, .int .i64 7, .int .i64 8] 3))) := ((Below.refl _ _).alloc (Nat.le_refl _) _).alloc (by simp only [World.size_alloc]; omega) _
  have q3 : ∀ k caps, ∀ (U : World), (∀ (V' : World) (ad : Option Addr) (cap : Nat) (kids : List Tn), Sin V.heap.size U V' → TTab V' → Kl V' ad cap kids → (∀ (i : Nat) (t : Tn), kids[i]? = some t → TnShort t) → Calls Tryz.prog k (#[.slice ad kids.length cap] ++ caps) V' fun e V'' => e = .returned (.bool (kids.all fun t => [3, 2, 4, 5, 6, 7, 8].contains t.kind)) ∧ Below V'.heap.size V' V'') → Below V.heap.size V U → Calls Tryz.prog k (#[.slice ad kids.length cap] ++ caps) U fun e V'' => e = .returned (.bool (kids.all fun t => [3, 2, 4, 5, 6, 7, 8].contains t.kind)) ∧ Below U.heap.size U V'' :=
    fun k caps U h hU => h U ad cap kids (Sin.refl _ _) (hT.below hU (Nat.le_refl _)) (hk.under hU) hs
  have q4 : ∀ U, Below V.heap.size V U → U.heap[V.heap.size]? = some (.cells #[.int .i64 0] 3 (0, 0)) → Calls Tryz.prog 20 #[.slice ad kids.length cap, .func (.func 59) #[] #[.pointer (some ⟨V.heap.size, 0, none⟩)]] U fun e U' => e = .returned (.bool (decide (pkCount kids ≤ 1))) ∧ Below V.heap.size V U' := by
    intro U hU hg
    refine (peach_any hk 59 Tryz.call59 #[.pointer (some ⟨V.heap.size, 0, none⟩)] (fun i X => Below V.heap.size V X ∧ X.heap[V.heap.size]? = some (.cells #[.int .i64 (pkCount (kids.take i) : Int)] 3 (0, 0)) ∧ pkCount (kids.take i) ≤ 1) (fun X => Below V.heap.size V X ∧ ¬ pkCount kids ≤ 1) (fun i X h => h.1) (fun i X X' h hb => ⟨h.1.trans (hb.mono h.1.size), (hb.block _ (one_lt h.2.1)).trans h.2.1, h.2.2⟩) ?_ U ⟨hU, hg, by simp [pkCount]⟩).mono ?_
    · rintro i t hi X ⟨h1, h2, h3⟩
      refine (pfile1_any t X V.heap.size _ h3 h2 V.heap.size (Nat.le_refl _)).mono ?_
      rintro e X' ⟨rfl, h4, h5⟩
      rw [← pkCount_take hi] at h4 ⊢
      by_cases hc : pkCount (kids.take (i + 1)) ≤ 1
      · exact .inl ⟨by rw [decide_eq_true hc], h1.trans h5, h4, hc⟩
      · exact .inr ⟨by rw [decide_eq_false hc], h1.trans h5, fun h => hc (Nat.le_trans (pkCount_le _ _) h)⟩
    · rintro e X (⟨rfl, h1, h2, h3⟩ | ⟨rfl, h1, h2⟩)
      · rw [List.take_length] at h3
        exact ⟨by rw [decide_eq_true h3], h1⟩
      · exact ⟨by rw [decide_eq_false h2], h1⟩
  unfold pkFile
  generalize (kids.all fun t => [3, 2, 4, 5, 6, 7, 8].contains t.kind) = R1 at q3 ⊢
  generalize decide (pkCount kids ≤ 1) = R2 at q4 ⊢
  have hl := hk.hlen
  have Q1 : Hid _ := q1
  have Q3 : Hid _ := q3
  have Q4 : Hid _ := q4
  clear q1 q3 q4 hk hs
  generalize hN : kids.length = N at *
  cases R1 with
  | false =>
    go_enter Tryz.func32, Tryz.ntmps32
    go_wp2_with fail
    refine Calls.mono Q1.out ?_
    rintro e w1 ⟨f, rfl, ⟨k, caps, rfl, hin, hask⟩, hb⟩
    have HB : Hid (Below V.heap.size V w1) := HBA.out.trans (hb.mono HBA.out.size)
    have Q : Hid _ := Q3.out k caps w1 hask HB.out
    clear hask hb
    unfold Goin at hin
    go_wp2_with fail
    refine Calls.mono Q.out ?_
    rintro e w2 ⟨rfl, hb2⟩
    have HB2 : Hid (Below V.heap.size V w2) := HB.out.trans (hb2.mono HB.out.size)
    clear hb2 hin
    go_wp2
    go_ret
    exact ⟨rfl, HB2.out⟩
  | true =>
    go_enter Tryz.func32, Tryz.ntmps32
    go_wp2_with fail
    refine Calls.mono Q1.out ?_
    rintro e w1 ⟨f, rfl, ⟨k, caps, rfl, hin, hask⟩, hb⟩
    have HB : Hid (Below V.heap.size V w1) := HBA.out.trans (hb.mono HBA.out.size)
    have Q : Hid _ := Q3.out k caps w1 hask HB.out
    have b0 : w1.heap[V.heap.size]? = some (.cells #[.int .i64 0] 3 (0, 0)) := (hb.block _ (by simp only [World.size_alloc]; omega)).trans (alloc_old (alloc_at _ _ rfl))
    have HB0 : Hid (w1.heap[V.heap.size]? = some (.cells #[.int .i64 0] 3 (0, 0))) := b0
    clear hask hb b0
    unfold Goin at hin
    go_wp2_with fail
    refine Calls.mono Q.out ?_
    rintro e w2 ⟨rfl, hb2⟩
    have HB2 : Hid (Below V.heap.size V w2) := HB.out.trans (hb2.mono HB.out.size)
    have QE : Hid _ := Q4.out w2 HB2.out ((hb2.block _ (one_lt HB0.out)).trans HB0.out)
    clear hb2 hin
    go_wp2_with fail
    refine Calls.mono QE.out ?_
    rintro e w3 ⟨rfl, hb3⟩
    have HB3 : Hid (Below V.heap.size V w3) := hb3
    clear hb3
    go_wp2
    go_ret
    exact ⟨rfl, HB3.out⟩

def pkOption (l : List Tn) : Bool := decide (1 < l.length) && (pkSome 19 (l.take (l.length - 1)) && pkHead (fun t => pkWorth t.kind) (l.drop (l.length - 1)))

set_option maxRecDepth 10000 in
set_option maxHeartbeats 4000000 in
theorem poption_any {V : World} {ad : Option Addr} {cap : Nat} {kids : List Tn} (hT : TTab V) (hk : Kl V ad cap kids) (hs : ∀ (i : Nat) (t : Tn), kids[i]? = some t → TnShort t) :
    Calls Tryz.prog 35 #[.slice ad kids.length cap] V fun e V' => e = .returned (.bool (pkOption kids)) ∧ Below V.heap.size V V' := by
  have hl := hk.hlen
  by_cases h1 : 1 < kids.length
  · obtain ⟨b, off, rfl, hlt, hc⟩ := hk.hmem (by omega)
    obtain ⟨L, hL⟩ : ∃ L, kids.length = L + 1 := ⟨kids.length - 1, by omega⟩
    obtain ⟨t, hkid⟩ : ∃ t, kids[L]? = some t := ⟨kids[L]'(by omega), List.getElem?_eq_getElem (by omega)⟩
    have hL0 : (0 : Int) < (L : Int) := by omega
    have hP : pkOption kids = (pkSome 19 (kids.take L) && pkWorth t.kind) := by
      unfold pkOption
      rw [decide_eq_true h1, Bool.true_and, hL]
      have hil : L < kids.length := by omega
      rw [Nat.add_sub_cancel, List.drop_eq_getElem_cons hil, show kids[L] = t by rw [List.getElem?_eq_getElem hil] at hkid; exact Option.some.inj hkid]
      rfl
    rw [hP]
    have q1 := fun W => psome_any W 19 (by omega) (by omega)
    have hl1 : (kids.take L).length = L := by rw [List.length_take]; omega
    have q3 : ∀ k caps, ∀ (W U : World), (∀ (V' : World) (ad : Option Addr) (cap : Nat) (kids : List Tn), Sin W.heap.size U V' → TTab V' → Kl V' ad cap kids → (∀ (i : Nat) (t : Tn), kids[i]? = some t → TnShort t) → Calls Tryz.prog k (#[.slice ad kids.length cap] ++ caps) V' fun e V'' => e = .returned (.bool (pkSome 19 kids)) ∧ Below V'.heap.size V' V'') → Below V.heap.size V U → Calls Tryz.prog k (#[.slice (some ⟨b, off, none⟩) L cap] ++ caps) U fun e V'' => e = .returned (.bool (pkSome 19 (kids.take L))) ∧ Below U.heap.size U V'' := by
      intro k caps W U h hU
      have := h U (some ⟨b, off, none⟩) cap (kids.take L) (Sin.refl _ _) (hT.below hU (Nat.le_refl _)) ((hk.take L (by omega)).under hU) (fun i t hi => hs i t (by
        rw [List.getElem?_take] at hi
        split at hi
        · exact hi
        · cases hi))
      rw [hl1] at this
      exact this
    have q4 := fun U => pworth_any t U
    generalize pkWorth t.kind = R2 at q4 ⊢
    obtain ⟨kd, tx, n2, m2, a2, pos2, doc2, ad2, cap2, ks⟩ := t
    have hcs := fun U (hU : Below V.heap.size V U) => kid_cells hlt hU hc hkid
    change ∀ U, Calls Tryz.prog 51 #[.agg #[.int .i64 kd, .string (strOfNums tx), .int .i64 n2, .int .i64 m2, .int .i64 a2, .int .i64 pos2, .string (strOfNums doc2), .slice ad2 ks.length cap2]] U _ at q4
    generalize strOfNums tx = U1 at hcs q4
    generalize strOfNums doc2 = U2 at hcs q4
    generalize pkSome 19 (kids.take L) = R1 at q3 ⊢
    rw [hL]
    have hcap : L + 1 ≤ cap := by have := hk.hcap; omega
    have hcap1 : L ≤ cap := by omega
    have hLn : 0 < L := by omega
    have hLd : decide (0 < L) = true := decide_eq_true hLn
    have Q1 : Hid _ := q1
    have Q3 : Hid _ := q3
    have Q4 : Hid _ := q4
    have HC : Hid _ := hcs
    have hLb : (L : Int) ≤ 9223372036854775806 := by omega
    clear q1 q3 q4 hcs hk hs hc hkid hP hl1 h1 hl
    go_enter Tryz.func35, Tryz.ntmps35
    go_wp2_with fail
    refine wp_region_any rfl ?_
    refine wpAny_take (i := 0) (v := ?_) rfl (by kernel_rfl) (by kernel_rfl) (by kernel_rfl) (fun _ _ _ h => h) (Or.inl ⟨by rfl, ?_⟩) ?_
    rotate_left
    · intro w
      go_simp
      try with_reducible rfl
    refine wpAny_take (i := 1) (v := ?_) rfl (by kernel_rfl) (by kernel_rfl) (by kernel_rfl) (fun _ _ _ h => h) (Or.inl ⟨by rfl, ?_⟩) ?_
    rotate_left
    · intro w
      go_simp
      try with_reducible rfl
    refine wpAny_take (i := 2) (v := ?_) rfl (by kernel_rfl) (by kernel_rfl) (by kernel_rfl) (fun _ _ _ h => h) (Or.inl ⟨by rfl, ?_⟩) ?_
    rotate_left
    · intro w
      go_simp
      try with_reducible rfl
    refine wpAny_take (i := 4) (v := ?_) rfl (by kernel_rfl) (by kernel_rfl) (by kernel_rfl) (fun _ _ _ h => h) (Or.inl ⟨by rfl, ?_⟩) ?_
    rotate_left
    · intro w
      go_simp
      try with_reducible rfl
    refine wpAny_take (i := 5) (v := ?_) rfl (by kernel_rfl) (by kernel_rfl) (by kernel_rfl) (fun _ _ _ h => h) (Or.inl ⟨by rfl, ?_⟩) ?_
    rotate_left
    · intro w
      go_simp
      try with_reducible rfl
    refine wpAny_take (i := 6) (v := ?_) rfl (by kernel_rfl) (by kernel_rfl) (by kernel_rfl) (fun _ _ _ h => h) (Or.inl ⟨by rfl, ?_⟩) ?_
    rotate_left
    · intro w
      go_simp
      try with_reducible rfl
    refine wpAny_all (rs := [3]) (by kernel_rfl) (by simp) ?_
    intro i hi
    obtain rfl : i = 3 := by simpa using hi
    clear hi
    refine wpOp_list rfl ?_
    intro Q' hQ'
    have HQ : Hid _ := hQ'
    clear hQ'
    go_wp2_with fail
    refine Calls.mono (Q1.out _) ?_
    rintro e w1 ⟨f, rfl, ⟨k, caps, rfl, hin, hask⟩, hb⟩
    have HB1 : Hid (Below V.heap.size V w1) := (Below.refl _ _).drew.trans (hb.mono (Nat.le_refl _))
    have Q : Hid _ := fun U (hU : Below w1.heap.size w1 U) => Q3.out k caps V.drew U (fun V' ad cap kids hV' => hask V' ad cap kids ((Sin.of hU (Nat.le_refl _)).trans hV')) (HB1.out.trans (hU.mono HB1.out.size))
    have cs := fun x : Ext w1 => HC.out x.val (HB1.out.trans (x.ok.mono HB1.out.size))
    have c0 := fun x => (cs x).1
    have c1 := fun x => (cs x).2.1
    have c2 := fun x => (cs x).2.2.1
    have c3 := fun x => (cs x).2.2.2.1
    have c4 := fun x => (cs x).2.2.2.2.1
    have c5 := fun x => (cs x).2.2.2.2.2.1
    have c6 := fun x => (cs x).2.2.2.2.2.2.1
    have c7 := fun x => (cs x).2.2.2.2.2.2.2
    clear hask hb cs
    unfold Goin at hin
    go_wp2
    refine HQ.out _ _ ?_
    clear HQ
    refine wpAny_rest 7 (by kernel_rfl) (by kernel_rfl) (by kernel_rfl) ?_
    simp only [List.drop_succ_cons, List.drop_zero]
    cases R1 with
    | false =>
      repeat (go_big_quiet_step (exact Ext.call (fun U hU => Q.out U hU) _))
      refine wpQuiet_nil ?_
      rintro w5 ⟨⟨_, hb5⟩, rfl⟩
      have HB5 : Hid (Below V.heap.size V w5) := HB1.out.trans (hb5.mono HB1.out.size)
      clear hb5
      go_wp2
      go_ret
      exact ⟨rfl, HB5.out⟩
    | true =>
      repeat (go_big_quiet_step (first | (exact Ext.call (fun U hU => Q.out U hU) _) | (exact Ext.call (fun U hU => Q4.out U) _)))
      refine wpQuiet_nil ?_
      rintro w5 ⟨⟨_, hb5⟩, rfl⟩
      have HB5 : Hid (Below V.heap.size V w5) := HB1.out.trans (hb5.mono HB1.out.size)
      clear hb5
      go_wp2
      go_ret
      exact ⟨rfl, HB5.out⟩
  · rw [show pkOption kids = false by unfold pkOption; rw [decide_eq_false h1]; rfl]
    have hc0 := fun x : Ext V => x.ok
    have HB : Hid (Below V.heap.size V V) := Below.refl _ _
    clear hk hs hc0 hT
    rcases (show kids.length = 0 ∨ kids.length = 1 by omega) with hN | hN
    all_goals
      rw [hN]
      clear hN hl h1
      go_enter Tryz.func35, Tryz.ntmps35
      go_wp2_with fail
      refine wp_region_ext V (Below.refl _ _) rfl (by kernel_rfl) ?_
      repeat (go_big_quiet_step (fail))
      refine wpQuiet_nil ?_
      rintro w5 ⟨⟨_, hb5⟩, rfl⟩
      have HB5 : Hid (Below V.heap.size V w5) := hb5
      clear hb5
      go_wp2
      go_ret
      exact ⟨rfl, HB5.out⟩

end Go.Proofs.YtmoeibhenihhfaaGreatDoor
