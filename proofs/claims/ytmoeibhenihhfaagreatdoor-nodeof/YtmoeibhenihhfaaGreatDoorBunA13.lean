/- Put together by a program out of these texts of mine: PCheck0, PCheck1, PCheck, TProg, TAwake. -/
import Derived.Test.YtmoeibhenihhfaaGreatDoorBunA10
import Derived.Test.YtmoeibhenihhfaaGreatDoorBunA12

/- What the program's own Check asks of a node by its kind's rule, as a plain function; rule.takes asks it. -/
namespace Go.Proofs.YtmoeibhenihhfaaGreatDoor
open Go.RowKit
set_option linter.unusedVariables false
set_option linter.unusedSimpArgs false

/-- What a rule takes. -/
def ptk (r : Rl) (t : Tn) : Bool :=
  decide (0 ≤ t.at_) && (decide (0 ≤ t.a) && (decide (t.a ≤ r.most) && ((decide (r.fr ≤ t.n) && decide (t.n ≤ r.to)) && (((t.m == 0) || (r.span && (decide (r.fr ≤ t.m) && decide (t.m ≤ r.to)))) && (((t.doc == []) || (r.doc && pdocOk t.doc)) && (ptxt r.tx t && pkds r.kd t.kids))))))

theorem ptakes_any {V : World} {t : Tn} (B : Nat) (r : Rl) (ft fk : Value) (htx : TxIs B V ft r.tx) (hkd : KdIs B V fk r.kd) (hT : TTab V) (h : TnOk V t) (hsh : TnShort t) :
    Calls Tryz.prog 19 #[.agg #[ft, .int .i64 r.fr, .int .i64 r.to, .bool r.span, .int .i64 r.most, .bool r.doc, fk], t.val] V fun e V' => e = .returned (.bool (ptk r t)) ∧ Below V.heap.size V V' := by
  have hT' := fun U (hU : Below V.heap.size V U) => ptakest_any B ft fk r.fr r.to r.most r.span r.doc (htx.sin (Sin.of hU (Nat.le_refl _))) hkd.one (hT.below hU (Nat.le_refl _)) (h.under hU) hsh
  cases h with
  | @mk kind text n m a pos doc ad cap kids hkind htext htl hn hm ha hpos hdoc hdl hkl hcap hnone hmem hkids =>
  have hkl : Kl V ad cap kids := ⟨hkl, hcap, hnone, hmem, hkids⟩
  have hs : ∀ (i : Nat) (t : Tn), kids[i]? = some t → TnShort t := by cases hsh; assumption
  have hK' := fun U (hU : Below V.heap.size V U) => ptakesk_any B ft fk r.fr r.to r.most r.span r.doc (hkd.sin (Sin.of hU (Nat.le_refl _))) htx.one (hT.below hU (Nat.le_refl _)) (hkl.under hU) hs
  exact ptakes_raw V ft fk r.fr r.to r.most kind n m a pos r.span r.doc (strOfNums text) (strOfNums doc) ad kids.length cap htx.one hkd.one _ _ _ _ _ _ (weq2 doc [] hdoc (by unfold byts; decide) _ (str_lit [] [] rfl))
    (fun U hU => pwithin_any U V.heap.size ft fk r.fr r.to r.most n r.span r.doc _ ((hU.block _ (by simp only [World.size_alloc]; omega)).trans (alloc_old (alloc_at V _ rfl))))
    (fun U hU => pwithin_any U V.heap.size ft fk r.fr r.to r.most m r.span r.doc _ ((hU.block _ (by simp only [World.size_alloc]; omega)).trans (alloc_old (alloc_at V _ rfl))))
    (fun U => pisdoc_any doc U hdoc hdl) hT' hK'

/-- The rule of a kind. -/
def rlOf (k : Int) : Rl := rls.getD (k - 1).toNat rl1

mutual
/-- Whether a node and what stands in it are as the rules take them. -/
def pright : Tn → Bool
  | .mk kind text n m a pos doc ad cap kids => ptk (rlOf kind) (.mk kind text n m a pos doc ad cap kids) && prights kids
def prights : List Tn → Bool
  | [] => true
  | k :: r => pright k && prights r
end

theorem prights_all : ∀ l : List Tn, prights l = l.all pright
  | [] => rfl
  | k :: r => by rw [prights, List.all_cons, prights_all r]

def kok (t : Tn) : Bool := decide (1 ≤ t.kind ∧ t.kind ≤ 24)

theorem all_kok {p : Tn → Bool} {l : List Tn} (h : l.all p = true) (hp : ∀ t, p t = true → kok t = true) : l.all kok = true := by
  rw [List.all_eq_true] at *
  exact fun t ht => hp t (h t ht)

theorem cont_kok {zs : List Int} (hz : ∀ z ∈ zs, 1 ≤ z ∧ z ≤ 24) (t : Tn) (h : zs.contains t.kind = true) : kok t = true := by
  have := hz t.kind (by simpa using h)
  exact decide_eq_true this

theorem some_kok {k : Int} (h1 : 1 ≤ k) (h2 : k ≤ 24) {l : List Tn} (h : pkSome k l = true) : l.all kok = true := by
  unfold pkSome at h
  rw [Bool.and_eq_true] at h
  exact all_kok h.2 (cont_kok (fun z hz => by simp at hz; omega))

theorem typ_kok {c : Nat} {l : List Tn} (h : ptyp c l = true) : l.all kok = true := by
  unfold ptyp at h
  rw [Bool.and_eq_true, Bool.and_eq_true] at h
  have h1 := all_kok h.2.1 (cont_kok (fun z hz => by simp at hz; omega))
  have h2 := all_kok h.2.2 (cont_kok (fun z hz => by simp at hz; omega))
  have : (l.take c ++ l.drop c).all kok = true := by rw [List.all_append, h1, h2]; rfl
  rwa [List.take_append_drop] at this

theorem worth_kok {t : Tn} (h : pkWorth t.kind = true) : kok t = true := by
  unfold pkWorth at h
  simp at h
  exact decide_eq_true (by omega)

/-- What a rule takes has kids of known kinds alone. -/
theorem kd_kok {k : Nat} {r : Rl} (hr : rls[k]? = some r) {l : List Tn} (h : pkds r.kd l = true) : l.all kok = true := by
  have none_ok : ∀ {l : List Tn}, (l.length == 0) = true → l.all kok = true := fun {l} h => by
    have : l = [] := List.eq_nil_of_length_eq_zero (by simpa using h)
    subst this; rfl
  have only_ok : ∀ {zs : List Int} {l : List Tn}, (∀ z ∈ zs, 1 ≤ z ∧ z ≤ 24) → (l.all fun t => zs.contains t.kind) = true → l.all kok = true := fun hz h => all_kok h (cont_kok hz)
  have hk : k < 24 := by
    have := (List.getElem?_eq_some_iff.1 hr).1
    simpa [rls] using this
  rcases (show k = 0 ∨ k = 1 ∨ k = 2 ∨ k = 3 ∨ k = 4 ∨ k = 5 ∨ k = 6 ∨ k = 7 ∨ k = 8 ∨ k = 9 ∨ k = 10 ∨ k = 11 ∨ k = 12 ∨ k = 13 ∨ k = 14 ∨ k = 15 ∨ k = 16 ∨ k = 17 ∨ k = 18 ∨ k = 19 ∨ k = 20 ∨ k = 21 ∨ k = 22 ∨ k = 23 by omega) with rfl | rfl | rfl | rfl | rfl | rfl | rfl | rfl | rfl | rfl | rfl | rfl | rfl | rfl | rfl | rfl | rfl | rfl | rfl | rfl | rfl | rfl | rfl | rfl
  all_goals cases hr
  · have h' : pkFile l = true := h
    unfold pkFile at h'
    rw [Bool.and_eq_true] at h'
    exact only_ok (by decide) h'.1
  · exact none_ok h
  · exact none_ok h
  · have h' : pkOption l = true := h
    unfold pkOption at h'
    rw [Bool.and_eq_true, Bool.and_eq_true] at h'
    obtain ⟨h1, h2, h3⟩ := h'
    have h1 := of_decide_eq_true h1
    have g1 := some_kok (by omega) (by omega) h2
    have g2 : (l.drop (l.length - 1)).all kok = true := by
      have hd : (l.drop (l.length - 1)).length = 1 := by rw [List.length_drop]; omega
      generalize l.drop (l.length - 1) = q at h3 hd
      match q, hd with
      | [t], _ => simpa using worth_kok h3
    have : (l.take (l.length - 1) ++ l.drop (l.length - 1)).all kok = true := by rw [List.all_append, g1, g2]; rfl
    rwa [List.take_append_drop] at this
  · exact only_ok (by decide) h
  · exact only_ok (by decide) h
  · exact only_ok (by decide) h
  · exact only_ok (by decide) h
  · exact typ_kok h
  · have h' : pkMap l = true := h
    unfold pkMap at h'
    rw [Bool.and_eq_true] at h'
    exact typ_kok h'.1
  · exact all_kok (show l.all pkOne = true from h) (fun t ht => by
      unfold pkOne at ht
      simp at ht
      exact decide_eq_true (by omega))
  · exact some_kok (by omega) (by omega) (show pkSome 14 l = true from h)
  · have h' : (pkSome 14 l || pkSome 15 l) = true := h
    rw [Bool.or_eq_true] at h'
    rcases h' with h' | h'
    · exact some_kok (by omega) (by omega) h'
    · exact some_kok (by omega) (by omega) h'
  · exact none_ok h
  · exact none_ok h
  · exact only_ok (by decide) h
  · exact typ_kok h
  · exact none_ok h
  · exact none_ok h
  · exact none_ok h
  · exact none_ok h
  · exact none_ok h
  · exact only_ok (by decide) h
  · have h' : pkEntry l = true := h
    unfold pkEntry at h'
    rw [Bool.and_eq_true] at h'
    obtain ⟨h1, h3⟩ := h'
    have hd : l.length = 1 := by simpa using h1
    match l, hd with
    | [t], _ => simpa using worth_kok h3

end Go.Proofs.YtmoeibhenihhfaaGreatDoor

/- The contract of the closure that the program's own Check goes down by. -/
namespace Go.Proofs.YtmoeibhenihhfaaGreatDoor
open Go.RowKit
set_option linter.unusedVariables false
set_option linter.unusedSimpArgs false

/-- The table of rules lies in block g. -/
def RlAt (B : Nat) (V : World) (g : Nat) : Prop := ∃ cs, V.heap[g]? = some (.cells (zrl ++ cs).toArray 37 (0, 0)) ∧ AllIs B V rls cs

theorem RlAt.below {B : Nat} {V V' : World} {g : Nat} (h : RlAt B V g) (hb : Below V.heap.size V V') : RlAt B V' g := by
  obtain ⟨cs, h1, h2⟩ := h
  exact ⟨cs, (hb.block _ (one_lt h1)).trans h1, AllIs.sin (Sin.of hb (Nat.le_refl _)) h2⟩

/-- One rule's cells. -/
theorem RlAt.get {B : Nat} {V : World} {g : Nat} (h : RlAt B V g) (k : Nat) (hk1 : 1 ≤ k) (hk2 : k ≤ 24) : ∃ ft fk, TxIs B V ft (rlOf k).tx ∧ KdIs B V fk (rlOf k).kd ∧ ∀ j u, [ft, .int .i64 (rlOf k).fr, .int .i64 (rlOf k).to, .bool (rlOf k).span, .int .i64 (rlOf k).most, .bool (rlOf k).doc, fk][j]? = some u → V.cell? ⟨g, k * 7 + j, none⟩ = some u := by
  obtain ⟨cs, h1, h2⟩ := h
  have hr : rls[k - 1]? = some (rlOf k) := by
    unfold rlOf
    have hlt : k - 1 < rls.length := by simp [rls]; omega
    rw [show ((k : Int) - 1).toNat = k - 1 by omega, List.getD_eq_getElem?_getD, List.getElem?_eq_getElem hlt]
    rfl
  obtain ⟨ft, fk, g1, g2, g3⟩ := h2.get (k - 1) _ hr
  refine ⟨ft, fk, g1, g2, fun j u hj => ?_⟩
  have := g3 j u hj
  refine blk_cell h1 _ _ ?_
  rw [List.getElem?_toArray, List.getElem?_append_right (by simp [zrl]; omega), ← this]
  congr 1
  simp [zrl]
  omega

set_option maxRecDepth 10000 in
set_option maxHeartbeats 4000000 in
theorem pchk_raw (V : World) (g gd k : Nat) (hk1 : 1 ≤ k) (hk2 : k ≤ 24) (ft fk : Value) (fr to most n m a pos : Int) (span rdoc : Bool) (T1 T2 : ByteArray) (ad : Option Addr) (N cap : Nat) (A R : Bool) (hN : (N : Int) ≤ 9223372036854775807)
    (hc : ∀ j u, [ft, .int .i64 fr, .int .i64 to, .bool span, .int .i64 most, .bool rdoc, fk][j]? = some u → V.cell? ⟨g, k * 7 + j, none⟩ = some u) (hft : ft.oneCell' = true) (hfk : fk.oneCell' = true)
    (hgd : V.heap[gd]? = some (.cells #[.func (.func 18) #[] #[.pointer (some ⟨g, 0, none⟩), .pointer (some ⟨gd, 0, none⟩)]] 26 (0, 0)))
    (q1 : ∀ U, Below V.heap.size V U → Calls Tryz.prog 19 #[.agg #[ft, .int .i64 fr, .int .i64 to, .bool span, .int .i64 most, .bool rdoc, fk], .agg #[.int .i64 (k : Int), .string T1, .int .i64 n, .int .i64 m, .int .i64 a, .int .i64 pos, .string T2, .slice ad N cap]] U fun e U' => e = .returned (.bool A) ∧ Below U.heap.size U U')
    (q2 : A = true → ∀ U, Below V.heap.size V U → Calls Tryz.prog 20 #[.slice ad N cap, .func (.func 18) #[] #[.pointer (some ⟨g, 0, none⟩), .pointer (some ⟨gd, 0, none⟩)]] U fun e U' => e = .returned (.bool R) ∧ Below U.heap.size U U') :
    Calls Tryz.prog 18 #[.agg #[.int .i64 (k : Int), .string T1, .int .i64 n, .int .i64 m, .int .i64 a, .int .i64 pos, .string T2, .slice ad N cap], .pointer (some ⟨g, 0, none⟩), .pointer (some ⟨gd, 0, none⟩)] V fun e V' => e = .returned (.bool (A && R)) ∧ Below V.heap.size V V' := by
  have hg0 : g < V.heap.size := cell_lt7 (hc 0 _ rfl)
  obtain ⟨WA, hWA⟩ : ∃ WA, WA = V.alloc (.cells #[.int .i64 (k : Int), .string T1, .int .i64 n, .int .i64 m, .int .i64 a, .int .i64 pos, .string T2, .slice ad N cap] 24) := ⟨_, rfl⟩
  have hBA : Below V.heap.size V WA := by rw [hWA]; exact (Below.refl _ _).alloc (Nat.le_refl _) _
  have hnb : WA.heap[V.heap.size]? = some (.cells #[.int .i64 (k : Int), .string T1, .int .i64 n, .int .i64 m, .int .i64 a, .int .i64 pos, .string T2, .slice ad N cap] 24 (0, 0)) := by rw [hWA]; exact alloc_at _ _ rfl
  have r0 := fun x : Ext WA => (x.ok.cell (p := ⟨g, k * 7 + 0, none⟩) (Nat.lt_of_lt_of_le hg0 hBA.size)).trans ((hBA.cell hg0).trans (hc 0 _ rfl))
  have r1 := fun x : Ext WA => (x.ok.cell (p := ⟨g, k * 7 + 1, none⟩) (Nat.lt_of_lt_of_le hg0 hBA.size)).trans ((hBA.cell hg0).trans (hc 1 _ rfl))
  have r2 := fun x : Ext WA => (x.ok.cell (p := ⟨g, k * 7 + 2, none⟩) (Nat.lt_of_lt_of_le hg0 hBA.size)).trans ((hBA.cell hg0).trans (hc 2 _ rfl))
  have r3 := fun x : Ext WA => (x.ok.cell (p := ⟨g, k * 7 + 3, none⟩) (Nat.lt_of_lt_of_le hg0 hBA.size)).trans ((hBA.cell hg0).trans (hc 3 _ rfl))
  have r4 := fun x : Ext WA => (x.ok.cell (p := ⟨g, k * 7 + 4, none⟩) (Nat.lt_of_lt_of_le hg0 hBA.size)).trans ((hBA.cell hg0).trans (hc 4 _ rfl))
  have r5 := fun x : Ext WA => (x.ok.cell (p := ⟨g, k * 7 + 5, none⟩) (Nat.lt_of_lt_of_le hg0 hBA.size)).trans ((hBA.cell hg0).trans (hc 5 _ rfl))
  have r6 := fun x : Ext WA => (x.ok.cell (p := ⟨g, k * 7 + 6, none⟩) (Nat.lt_of_lt_of_le hg0 hBA.size)).trans ((hBA.cell hg0).trans (hc 6 _ rfl))
  simp only [Nat.add_zero] at r0
  have m0 := fun x : Ext WA => x.cell (one_lt hnb) (blk_cell hnb 0 _ rfl)
  have m1 := fun x : Ext WA => x.cell (one_lt hnb) (blk_cell hnb 1 _ rfl)
  have m2 := fun x : Ext WA => x.cell (one_lt hnb) (blk_cell hnb 2 _ rfl)
  have m3 := fun x : Ext WA => x.cell (one_lt hnb) (blk_cell hnb 3 _ rfl)
  have m4 := fun x : Ext WA => x.cell (one_lt hnb) (blk_cell hnb 4 _ rfl)
  have m5 := fun x : Ext WA => x.cell (one_lt hnb) (blk_cell hnb 5 _ rfl)
  have m6 := fun x : Ext WA => x.cell (one_lt hnb) (blk_cell hnb 6 _ rfl)
  have m7 := fun x : Ext WA => x.cell (one_lt hnb) (blk_cell hnb 7 _ rfl)
  have hgd' : WA.heap[gd]? = _ := (hBA.block _ (one_lt hgd)).trans hgd
  have d0 := fun x : Ext WA => x.cell (one_lt hgd') (one_cell_of hgd')
  have Q1 : Hid _ := fun U (hU : Below WA.heap.size WA U) => q1 U (hBA.trans (hU.mono hBA.size))
  have HBA : Hid (Below V.heap.size V WA) := hBA
  have HW : Hid (V.alloc (.cells #[.int .i64 (k : Int), .string T1, .int .i64 n, .int .i64 m, .int .i64 a, .int .i64 pos, .string T2, .slice ad N cap] 24) = WA) := hWA.symm
  have hk3 : k < 25 := by omega
  have hkd : decide (k < 25) = true := decide_eq_true hk3
  cases A with
  | false =>
    clear q1 q2 hgd hgd' hnb hBA hc hWA
    go_enter Tryz.func18, Tryz.ntmps18
    go_wp2_with fail
    rw [HW.out]
    refine wp_region_ext WA (Below.refl _ _) rfl (by kernel_rfl) ?_
    repeat (go_big_quiet_step (exact Ext.call (fun U hU => Q1.out U hU) _))
    refine wpQuiet_nil ?_
    rintro w5 ⟨⟨_, hb5⟩, rfl⟩
    have HB5 : Hid (Below V.heap.size V w5) := HBA.out.trans (hb5.mono HBA.out.size)
    clear hb5
    go_wp2
    go_ret
    exact ⟨rfl, HB5.out⟩
  | true =>
    have Q2 : Hid _ := fun U (hU : Below WA.heap.size WA U) => q2 rfl U (hBA.trans (hU.mono hBA.size))
    clear q1 q2 hgd hgd' hnb hBA hc hWA
    go_enter Tryz.func18, Tryz.ntmps18
    go_wp2_with fail
    rw [HW.out]
    refine wp_region_ext WA (Below.refl _ _) rfl (by kernel_rfl) ?_
    repeat (go_big_quiet_step (first | (go_at_call 19; exact Ext.call (fun U hU => Q1.out U hU) _) | (go_at_call 20; exact Ext.call (fun U hU => Q2.out U hU) _)))
    refine wpQuiet_nil ?_
    rintro w5 ⟨⟨_, hb5⟩, rfl⟩
    have HB5 : Hid (Below V.heap.size V w5) := HBA.out.trans (hb5.mono HBA.out.size)
    clear hb5
    go_wp2
    go_ret
    exact ⟨rfl, HB5.out⟩

set_option maxHeartbeats 1000000 in
theorem pchk_any {w : World} {t : Tn} (h : TnOk w t) : TnShort t → 1 ≤ t.kind → t.kind ≤ 24 → ∀ (B g gd : Nat) (V : World), Below w.heap.size w V → RlAt B V g → V.heap[gd]? = some (.cells #[.func (.func 18) #[] #[.pointer (some ⟨g, 0, none⟩), .pointer (some ⟨gd, 0, none⟩)]] 26 (0, 0)) → TTab V →
    Calls Tryz.prog 18 #[t.val, .pointer (some ⟨g, 0, none⟩), .pointer (some ⟨gd, 0, none⟩)] V fun e V' => e = .returned (.bool (pright t)) ∧ Below V.heap.size V V' := by
  induction h with
  | @mk kind text n m a pos doc ad cap kids hkind htext htl hn hm ha hpos hdoc hdl hkl hcap hnone hmem hkids ih =>
    intro hsh hk1 hk2 B g gd V hB hR hgd hT
    have hok : TnOk w (.mk kind text n m a pos doc ad cap kids) := .mk hkind htext htl hn hm ha hpos hdoc hdl hkl hcap hnone hmem hkids
    have hs : ∀ (i : Nat) (t : Tn), kids[i]? = some t → TnShort t := by cases hsh; assumption
    obtain ⟨k, rfl⟩ : ∃ k : Nat, kind = (k : Int) := ⟨kind.toNat, by have : 1 ≤ kind := hk1; omega⟩
    have hk1' : 1 ≤ k := by have : (1 : Int) ≤ k := hk1; omega
    have hk2' : k ≤ 24 := by have : (k : Int) ≤ 24 := hk2; omega
    obtain ⟨ft, fk, htx, hkd, hc⟩ := hR.get k hk1' hk2'
    rw [pright, prights_all]
    refine pchk_raw V g gd k hk1' hk2' ft fk _ _ _ n m a pos _ _ (strOfNums text) (strOfNums doc) ad kids.length cap (ptk (rlOf k) (.mk k text n m a pos doc ad cap kids)) (kids.all pright) hkl hc htx.one hkd.one hgd (fun U hU => ?_) (fun hA U hU => ?_)
    · exact ptakes_any B (rlOf k) ft fk (htx.sin (Sin.of hU (Nat.le_refl _))) (hkd.sin (Sin.of hU (Nat.le_refl _))) (hT.below hU (Nat.le_refl _)) (hok.under (hB.trans (hU.mono hB.size))) hsh
    · have hkk : kids.all kok = true := by
        unfold ptk at hA
        simp only [Bool.and_eq_true] at hA
        obtain ⟨_, _, _, _, _, _, _, h8⟩ := hA
        refine kd_kok (k := k - 1) (r := rlOf k) ?_ h8
        unfold rlOf
        have hlt : k - 1 < rls.length := by simp [rls]; omega
        rw [show ((k : Int) - 1).toNat = k - 1 by omega, List.getD_eq_getElem?_getD, List.getElem?_eq_getElem hlt]
        rfl
      have hB' := hB.trans (hU.mono hB.size)
      refine peach_ask (hok.kl.under hB') 18 Tryz.call18 #[.pointer (some ⟨g, 0, none⟩), .pointer (some ⟨gd, 0, none⟩)] pright (fun i t hi X hX => ?_)
      have hkt : kok t = true := (List.all_eq_true.1 hkk) t (List.mem_of_getElem? hi)
      have hkt := of_decide_eq_true hkt
      have hVX : Below V.heap.size V X := hU.trans (hX.mono hU.size)
      exact ih i t hi (hs i t hi) hkt.1 hkt.2 B g gd X (hB'.trans (hX.mono hB'.size)) (hR.below hVX) ((hVX.block _ (one_lt hgd)).trans hgd) (hT.below hVX (Nat.le_refl _))

end Go.Proofs.YtmoeibhenihhfaaGreatDoor

/- The contract of the program's own Check. -/
namespace Go.Proofs.YtmoeibhenihhfaaGreatDoor
open Go.RowKit
set_option linter.unusedVariables false
set_option linter.unusedSimpArgs false

/-- What the program's own Check answers. -/
def pcheckB (t : Tn) : Bool := decide (t.kind = 1) && (decide (tcount t ≤ 20000) && (decide (tdeep t ≤ 64) && pright t))

set_option maxRecDepth 20000 in
set_option maxHeartbeats 4000000 in
theorem pcheck_all {w : World} {t : Tn} (h : TnOk w t) (hsh : TnShort t) (W : World) (hT : Hid (TTab W)) (hB : Below w.heap.size w W) :
    Calls Tryz.prog 9 #[t.val] W fun e W' => e = .returned (.bool (pcheckB t)) ∧ Below W.heap.size W W' := by
  have hmf : ∀ (fn : Fn) (first cap : Array Value) (w : World), (Instr.makeFunc fn first cap).run Tryz.prog w = .ok (.func fn first cap) w := fun _ _ _ _ => rfl
  have hokW := h.under hB
  have qc := fun V hV => pcount_all hokW V hV
  have qd := fun V hV => pdeep_all hokW V hV
  have qr := fun V => prules_any V
  have qk : t.kind = 1 → _ := fun hk V (hV : Below W.heap.size W V) g gd B hR hs => pchk_any hokW hsh (by omega) (by omega) B g gd V hV hR hs (hT.out.below hV (Nat.le_refl _))
  have hc0 : 0 ≤ tcount t ∧ tcount t ≤ 30000 := by have := tcnt_bd t 0 (by omega) (by omega); unfold tcount; omega
  have hd0 : 1 ≤ tdeep t ∧ tdeep t ≤ 100 := by have := tdp_bd t 1 (by omega); unfold tdeep; split <;> omega
  unfold pcheckB
  generalize tcount t = CN at qc hc0 ⊢
  generalize tdeep t = DP at qd hd0 ⊢
  generalize pright t = RB at qk ⊢
  obtain ⟨kind, text, n, m, a, pos, doc, ad, cap, kids⟩ := t
  have hkl : (kids.length : Int) ≤ 9223372036854775807 := by cases h; assumption
  obtain ⟨hc0, hc1⟩ := hc0
  obtain ⟨hd0, hd1⟩ := hd0
  change Calls Tryz.prog 9 #[.agg #[.int .i64 kind, .string (strOfNums text), .int .i64 n, .int .i64 m, .int .i64 a, .int .i64 pos, .string (strOfNums doc), .slice ad kids.length cap]] W fun e W' => e = .returned (.bool (decide (kind = 1) && (decide (CN ≤ 20000) && (decide (DP ≤ 64) && RB)))) ∧ Below W.heap.size W W'
  change ∀ V, Below W.heap.size W V → Calls Tryz.prog 10 #[.agg #[.int .i64 kind, .string (strOfNums text), .int .i64 n, .int .i64 m, .int .i64 a, .int .i64 pos, .string (strOfNums doc), .slice ad kids.length cap]] V (fun e W' => e = .returned (.int .i64 CN) ∧ Below V.heap.size V W') at qc
  change ∀ V, Below W.heap.size W V → Calls Tryz.prog 11 #[.agg #[.int .i64 kind, .string (strOfNums text), .int .i64 n, .int .i64 m, .int .i64 a, .int .i64 pos, .string (strOfNums doc), .slice ad kids.length cap]] V (fun e W' => e = .returned (.int .i64 DP) ∧ Below V.heap.size V W') at qd
  change kind = 1 → ∀ V, Below W.heap.size W V → ∀ g gd B, RlAt B V g → V.heap[gd]? = some (.cells #[.func (.func 18) #[] #[.pointer (some ⟨g, 0, none⟩), .pointer (some ⟨gd, 0, none⟩)]] 26 (0, 0)) → Calls Tryz.prog 18 #[.agg #[.int .i64 kind, .string (strOfNums text), .int .i64 n, .int .i64 m, .int .i64 a, .int .i64 pos, .string (strOfNums doc), .slice ad kids.length cap], .pointer (some ⟨g, 0, none⟩), .pointer (some ⟨gd, 0, none⟩)] V (fun e V' => e = .returned (.bool RB) ∧ Below V.heap.size V V') at qk
  generalize strOfNums text = T1 at qc qd qk ⊢
  generalize strOfNums doc = T2 at qc qd qk ⊢
  generalize kids.length = N at *
  have HBA : Hid (Below W.heap.size W (W.alloc (.cells #[.int .i64 kind, .string T1, .int .i64 n, .int .i64 m, .int .i64 a, .int .i64 pos, .string T2, .slice ad N cap] 24))) := (Below.refl _ _).alloc (Nat.le_refl _) _
  have QC : Hid _ := qc
  have QD : Hid _ := qd
  have QR : Hid _ := qr
  by_cases hk : kind = 1
  case neg =>
    rw [decide_eq_false hk]
    have e1 : (kind != 1) = true := by simpa using hk
    clear qc qd qr qk h hsh hB hokW hk
    go_enter Tryz.func9, Tryz.ntmps9
    go_wp2
    go_ret
    exact ⟨rfl, HBA.out⟩
  have QK : Hid _ := qk hk
  subst hk
  clear qc qd qr qk h hsh hB hokW
  have own : Hid (∀ w1, Below (W.alloc (.cells #[.int .i64 1, .string T1, .int .i64 n, .int .i64 m, .int .i64 a, .int .i64 pos, .string T2, .slice ad N cap] 24)).heap.size (W.alloc (.cells #[.int .i64 1, .string T1, .int .i64 n, .int .i64 m, .int .i64 a, .int .i64 pos, .string T2, .slice ad N cap] 24)) w1 → ∀ i v, (#[.int .i64 1, .string T1, .int .i64 n, .int .i64 m, .int .i64 a, .int .i64 pos, .string T2, .slice ad N cap] : Array Value)[i]? = some v → w1.cell? ⟨W.heap.size, i, none⟩ = some v) := fun w1 hb i v hv => own_cells hb i v hv
  by_cases hc : CN ≤ 20000
  case neg =>
    rw [decide_eq_false hc]
    go_enter Tryz.func9, Tryz.ntmps9
    go_wp2_with fail
    refine Calls.mono (QC.out _ HBA.out) ?_
    rintro e w1 ⟨rfl, hb1⟩
    have HB1 : Hid (Below W.heap.size W w1) := HBA.out.trans (hb1.mono HBA.out.size)
    clear hb1
    go_wp2
    go_ret
    exact ⟨rfl, HB1.out⟩
  by_cases hd : DP ≤ 64
  case neg =>
    rw [decide_eq_true hc, decide_eq_false hd]
    go_enter Tryz.func9, Tryz.ntmps9
    go_wp2_with fail
    refine Calls.mono (QC.out _ HBA.out) ?_
    rintro e w1 ⟨rfl, hb1⟩
    have HB1 : Hid (Below W.heap.size W w1) := HBA.out.trans (hb1.mono HBA.out.size)
    have p0 := own.out w1 hb1 0 _ rfl
    have p1 := own.out w1 hb1 1 _ rfl
    have p2 := own.out w1 hb1 2 _ rfl
    have p3 := own.out w1 hb1 3 _ rfl
    have p4 := own.out w1 hb1 4 _ rfl
    have p5 := own.out w1 hb1 5 _ rfl
    have p6 := own.out w1 hb1 6 _ rfl
    have p7 := own.out w1 hb1 7 _ rfl
    clear hb1
    go_wp2_with fail
    refine Calls.mono (QD.out _ HB1.out) ?_
    rintro e w2 ⟨rfl, hb2⟩
    have HB2 : Hid (Below W.heap.size W w2) := HB1.out.trans (hb2.mono HB1.out.size)
    clear hb2
    go_wp2
    go_ret
    exact ⟨rfl, HB2.out⟩
  rw [decide_eq_true hc, decide_eq_true hd]
  go_enter Tryz.func9, Tryz.ntmps9
  go_wp2_with fail
  refine Calls.mono (QC.out _ HBA.out) ?_
  rintro e w1 ⟨rfl, hb1⟩
  have HB1 : Hid (Below W.heap.size W w1) := HBA.out.trans (hb1.mono HBA.out.size)
  have p0 := own.out w1 hb1 0 _ rfl
  have p1 := own.out w1 hb1 1 _ rfl
  have p2 := own.out w1 hb1 2 _ rfl
  have p3 := own.out w1 hb1 3 _ rfl
  have p4 := own.out w1 hb1 4 _ rfl
  have p5 := own.out w1 hb1 5 _ rfl
  have p6 := own.out w1 hb1 6 _ rfl
  have p7 := own.out w1 hb1 7 _ rfl
  have HC1 : Hid _ := hb1
  clear hb1
  go_wp2_with fail
  refine Calls.mono (QD.out _ HB1.out) ?_
  rintro e w2 ⟨rfl, hb2⟩
  have HB2 : Hid (Below W.heap.size W w2) := HB1.out.trans (hb2.mono HB1.out.size)
  have HC2 : Hid _ := HC1.out.trans (hb2.mono HC1.out.size)
  clear hb2 p0 p1 p2 p3 p4 p5 p6 p7
  go_wp2_with fail
  refine Calls.mono (QR.out _) ?_
  rintro e w3 ⟨cs, rfl, hall, hb3⟩
  have HB3 : Hid (Below W.heap.size W w3) := HB2.out.trans (hb3.mono HB2.out.size)
  have HC3 := HC2.out.trans (hb3.mono HC2.out.size)
  have HA : Hid (AllIs (w2.heap.size + 1) w3 rls cs) := hall
  clear hb3 hall
  have hl : (zrl ++ cs).toArray.size = 175 := by
    have := AllIs.one HA.out
    simp [zrl, this.2, rls]
  have h1 : ∀ v ∈ (zrl ++ cs).toArray.toList, v.oneCell' = true := by
    have := (AllIs.one HA.out).1
    rw [List.all_eq_true] at this
    intro v hv
    simp only [List.toList_toArray, List.mem_append] at hv
    rcases hv with hv | hv
    · exact (show ∀ v ∈ zrl, v.oneCell' = true by decide) v hv
    · exact this v hv
  have hE : ∃ X, X = (zrl ++ cs).toArray := ⟨_, rfl⟩
  obtain ⟨X, hXd⟩ := hE
  rw [← hXd] at hl h1 ⊢
  have hnew := alloc_at w3 (.cells Tryz.zeroCells37 37) rfl
  have hst := run_storeCells_from (P := Tryz.prog) w3.heap.size 37 X.toList 0 Tryz.zeroCells37 _ hnew (by rw [Array.length_toList, hl]; kernel_rfl) h1
  rw [List.take_zero, List.nil_append, Array.toArray_toList] at hst
  have hX := setRow_heap (w3.alloc (.cells Tryz.zeroCells37 37)) w3.heap.size _ X _ _ hnew
  have hbX : Below w3.heap.size w3 ((w3.alloc (.cells Tryz.zeroCells37 37)).setRow w3.heap.size X) := ((Below.refl _ _).alloc (Nat.le_refl _) _).trans ⟨rfl, rfl, rfl, by simp, fun k hk => setRow_other _ _ _ _ (by omega)⟩
  have hsX : ((w3.alloc (.cells Tryz.zeroCells37 37)).setRow w3.heap.size X).heap.size = w3.heap.size + 1 := by simp
  generalize (w3.alloc (.cells Tryz.zeroCells37 37)).setRow w3.heap.size X = WX at hst hX hbX hsX
  have hCX := HC3.trans (hbX.mono HC3.size)
  have HBX : Hid (Below W.heap.size W WX) := HB3.out.trans (hbX.mono HB3.out.size)
  have p0 := own.out WX hCX 0 _ rfl
  have p1 := own.out WX hCX 1 _ rfl
  have p2 := own.out WX hCX 2 _ rfl
  have p3 := own.out WX hCX 3 _ rfl
  have p4 := own.out WX hCX 4 _ rfl
  have p5 := own.out WX hCX 5 _ rfl
  have p6 := own.out WX hCX 6 _ rfl
  have p7 := own.out WX hCX 7 _ rfl
  have hWX : W.heap.size < WX.heap.size := by have := hCX.size; simp only [World.size_alloc] at this; omega
  have hR : RlAt (w2.heap.size + 1) WX w3.heap.size := ⟨cs, by rw [← hXd]; exact hX, AllIs.sin (Sin.of hbX (Nat.le_refl _)) HA.out⟩
  have HR : Hid _ := hR
  have Q : Hid (Calls Tryz.prog 18 #[.agg #[.int .i64 1, .string T1, .int .i64 n, .int .i64 m, .int .i64 a, .int .i64 pos, .string T2, .slice ad N cap], .pointer (some ⟨w3.heap.size, 0, none⟩), .pointer (some ⟨WX.heap.size, 0, none⟩)] (WX.alloc (.cells #[.func (.func 18) #[] #[.pointer (some ⟨w3.heap.size, 0, none⟩), .pointer (some ⟨WX.heap.size, 0, none⟩)]] 26)) _) := QK.out _ (HBX.out.alloc HBX.out.size _) w3.heap.size WX.heap.size (w2.heap.size + 1) (hR.below ((Below.refl _ _).alloc (Nat.le_refl _) _)) (alloc_at _ _ rfl)
  have HBY : Hid (Below W.heap.size W (WX.alloc (.cells #[.func (.func 18) #[] #[.pointer (some ⟨w3.heap.size, 0, none⟩), .pointer (some ⟨WX.heap.size, 0, none⟩)]] 26))) := HBX.out.alloc HBX.out.size _
  clear hXd hX hbX hCX hR h1 hnew HC3 hsX
  go_wp2_with fail
  refine Calls.mono Q.out ?_
  rintro e w4 ⟨rfl, hb4⟩
  have HB4 : Hid (Below W.heap.size W w4) := HBY.out.trans (hb4.mono HBY.out.size)
  clear hb4
  go_wp2
  go_ret
  exact ⟨rfl, HB4.out⟩

end Go.Proofs.YtmoeibhenihhfaaGreatDoor

/- The contracts of the program's own layer 7, over the turned text, as the walks want them. -/
namespace Go.Proofs.YtmoeibhenihhfaaGreatDoor
open Go.RowKit
set_option linter.unusedVariables false

theorem pcount_any {w : World} {t : Tn} (h : TnOk w t) (hf : tfew t = true) (W : World) (hT : Hid (TTab W)) (hB : Below w.heap.size w W) :
    Calls Tryz.prog 10 #[t.val] W fun e W' => e = .returned (.int .i64 (tcount t)) ∧ Below W.heap.size W W' := pcount_all h W hB

theorem pdeep_any {w : World} {t : Tn} (h : TnOk w t) (hf : tfew t = true) (W : World) (hT : Hid (TTab W)) (hB : Below w.heap.size w W) :
    Calls Tryz.prog 11 #[t.val] W fun e W' => e = .returned (.int .i64 (tdeep t)) ∧ Below W.heap.size W W' := pdeep_all h W hB

theorem pcheckB_any {w : World} {t : Tn} (h : TnOk w t) (hf : tfew t = true) (W : World) (hT : Hid (TTab W)) (hB : Below w.heap.size w W) :
    Calls Tryz.prog 9 #[t.val] W fun e W' => e = .returned (.bool (pcheckB t)) ∧ Below W.heap.size W W' := pcheck_all h (tfew_short hf) W hT hB

end Go.Proofs.YtmoeibhenihhfaaGreatDoor

/- The law's own 'awake' of layer 7: the chapter's example holds. -/
namespace Go.Proofs.YtmoeibhenihhfaaGreatDoor
open Go.RowKit
set_option linter.unusedVariables false

def tex : Tn := .mk 1 [] 0 0 0 0 [] none 0 []

theorem tex_ok (w : World) : TnOk w tex := .mk (by unfold i64b; omega) (fun c hc => by simp at hc) (by simp) (by unfold i64b; omega) (by unfold i64b; omega) (by unfold i64b; omega) (by unfold i64b; omega) (fun c hc => by simp at hc) (by simp) (by simp) (by simp) (fun _ => rfl) (fun h => absurd h (by simp)) (fun i t h => by simp at h)

theorem tex_few : tfew tex = true := by decide

theorem tex_check : pcheckB tex = true := by decide

theorem tex_count : tcount tex = 1 := by decide

theorem tex_deep : tdeep tex = 1 := by decide

set_option maxRecDepth 10000 in
set_option maxHeartbeats 1000000 in
theorem tawake_any (w : World) (hT : Hid (TTab w)) : Calls Tryz.prog 4 #[] w fun e w' => e = .returned (.bool true) ∧ Below w.heap.size w w' := by
  have q1 := fun W (hB : Below w.heap.size w W) => pcheckB_any (tex_ok w) tex_few W (hT.out.below hB (Nat.le_refl _)) hB
  have q2 := fun W (hB : Below w.heap.size w W) => pcount_any (tex_ok w) tex_few W (hT.out.below hB (Nat.le_refl _)) hB
  have q3 := fun W (hB : Below w.heap.size w W) => pdeep_any (tex_ok w) tex_few W (hT.out.below hB (Nat.le_refl _)) hB
  rw [tex_check] at q1
  rw [tex_count] at q2
  rw [tex_deep] at q3
  change ∀ V, Below w.heap.size w V → Calls Tryz.prog 9 #[.agg #[.int .i64 1, .string { data := #[] }, .int .i64 0, .int .i64 0, .int .i64 0, .int .i64 0, .string { data := #[] }, .slice none 0 0]] V (fun e W' => e = .returned (.bool true) ∧ Below V.heap.size V W') at q1
  change ∀ V, Below w.heap.size w V → Calls Tryz.prog 10 #[.agg #[.int .i64 1, .string { data := #[] }, .int .i64 0, .int .i64 0, .int .i64 0, .int .i64 0, .string { data := #[] }, .slice none 0 0]] V (fun e W' => e = .returned (.int .i64 1) ∧ Below V.heap.size V W') at q2
  change ∀ V, Below w.heap.size w V → Calls Tryz.prog 11 #[.agg #[.int .i64 1, .string { data := #[] }, .int .i64 0, .int .i64 0, .int .i64 0, .int .i64 0, .string { data := #[] }, .slice none 0 0]] V (fun e W' => e = .returned (.int .i64 1) ∧ Below V.heap.size V W') at q3
  have HBA : Hid (Below w.heap.size w (w.alloc (.cells #[.int .i64 1, .string { data := #[] }, .int .i64 0, .int .i64 0, .int .i64 0, .int .i64 0, .string { data := #[] }, .slice none 0 0] 24))) := (Below.refl _ _).alloc (Nat.le_refl _) _
  have Q1 : Hid _ := q1
  have Q2 : Hid _ := q2
  have Q3 : Hid _ := q3
  clear q1 q2 q3
  go_enter Tryz.func4, Tryz.ntmps4
  go_wp2_with fail
  refine Calls.mono (Q1.out _ HBA.out) ?_
  rintro e w1 ⟨rfl, hb1⟩
  have p0 := own_cells hb1 0 _ rfl
  have p1 := own_cells hb1 1 _ rfl
  have p2 := own_cells hb1 2 _ rfl
  have p3 := own_cells hb1 3 _ rfl
  have p4 := own_cells hb1 4 _ rfl
  have p5 := own_cells hb1 5 _ rfl
  have p6 := own_cells hb1 6 _ rfl
  have p7 := own_cells hb1 7 _ rfl
  have HB1 : Hid (Below w.heap.size w w1) := HBA.out.trans (hb1.mono HBA.out.size)
  have HC1 : Hid _ := hb1
  clear hb1
  go_wp2_with fail
  refine Calls.mono (Q2.out _ HB1.out) ?_
  rintro e w2 ⟨rfl, hb2⟩
  have hb12 := HC1.out.trans (hb2.mono HC1.out.size)
  have r0 := own_cells hb12 0 _ rfl
  have r1 := own_cells hb12 1 _ rfl
  have r2 := own_cells hb12 2 _ rfl
  have r3 := own_cells hb12 3 _ rfl
  have r4 := own_cells hb12 4 _ rfl
  have r5 := own_cells hb12 5 _ rfl
  have r6 := own_cells hb12 6 _ rfl
  have r7 := own_cells hb12 7 _ rfl
  have HB2 : Hid (Below w.heap.size w w2) := HB1.out.trans (hb2.mono HB1.out.size)
  clear hb2 hb12 p0 p1 p2 p3 p4 p5 p6 p7
  go_wp2_with fail
  refine Calls.mono (Q3.out _ HB2.out) ?_
  rintro e w3 ⟨rfl, hb3⟩
  go_wp2
  go_ret
  exact ⟨rfl, HB2.out.trans (hb3.mono HB2.out.size)⟩

end Go.Proofs.YtmoeibhenihhfaaGreatDoor
