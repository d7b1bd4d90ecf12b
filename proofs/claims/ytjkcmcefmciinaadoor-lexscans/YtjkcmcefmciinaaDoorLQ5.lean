/- The reference's own Scan: a token's block is made; a token is put behind the others. -/
import Derived.Test.YtjkcmcefmciinaaDoorLPe
import Derived.Test.YtjkcmcefmciinaaDoorLQ0
namespace Go.Proofs.YtjkcmcefmciinaaDoor
open Go.RowKit
set_option linter.unusedVariables false
set_option linter.unusedSimpArgs false

/-- The token's block. -/
def TkBlk (W w2 : World) (kd : Int) (tx : List Int) (n : Int) (i : Nat) (D : List Int) : Prop :=
  w2.heap[W.heap.size]? = some (.cells #[.int .i64 kd, .string (strOfNums tx), .int .u64 n, .int .i64 (i : Int), .string (strOfNums D)] 40 (0, 0)) ∧ Below W.heap.size W w2

set_option maxRecDepth 100000 in
set_option maxHeartbeats 4000000 in
theorem t1 (S : ByteArray) (s : List Int) (o m t9 k10 : Value) (i : Nat) (us : Nat → Value) (w W : World) (ms : List Nat) (HS : Hid (Src S s)) (HL : Hid (s.length ≤ 100000)) (hi : i < s.length) (hml : ms.length ≤ s.length)
    (HM : Hid (∀ j, ms.getD j 0 ≤ 1000000)) (HMo : Hid (W.ownsRow w.heap.size 3 1 m ms.length (mcells ms))) :
    Goes rT1 (RF S o m (.int .i64 (i : Int)) t9 k10 us) W (fun a w2 => w2 = W.alloc (.cells #[.int .i64 0, .string { data := #[] }, .int .u64 0, .int .i64 (i : Int), .string (strOfNums (ldoc s i ms))] 40) ∧ ∃ us, a = RF S o m (.int .i64 (i : Int)) (.pointer (some ⟨W.heap.size, 0, none⟩)) k10 us) Nev Nev := by
  intro Q hN hX hR
  have hsz := HS.out.sz
  obtain ⟨a6, c6, rfl⟩ := own_slice HMo.out
  have hdoc := rdoc_any (w := W) (a := a6) (len := ms.length) (cap := c6) (ms := ms) s i (Is.of_owns HMo.out) HS.out.bd (by have := HL.out; omega) (by omega) (by have := HL.out; omega) HM
  rw [← HS.out.eq] at hdoc
  generalize ldoc s i ms = D at hdoc hN
  have QD : Hid _ := hdoc
  have HN : Hid _ := hN
  clear hX hN hR hdoc
  unfold RF
  conv => arg 2; whnf
  go_wp2_with fail
  refine Calls.mono QD.out ?_
  rintro e w1 ⟨rfl, rfl⟩
  go_wp2
  exact HN.out _ _ ⟨rfl, RF.mk _ rfl rfl⟩

set_option maxRecDepth 100000 in
set_option maxHeartbeats 4000000 in
theorem t2 (S : ByteArray) (s : List Int) (o m t9 k10 : Value) (i : Nat) (us : Nat → Value) (W : World) (hi : i < s.length) (hlen : (s.length : Int) ≤ 100000) :
    Goes rT2 (RF S o m (.int .i64 (i : Int)) t9 k10 us) W (fun a w2 => w2 = W ∧ ∃ us, a = RF S o m (.int .i64 (i : Int)) t9 (.int .i64 ((i + 1 : Nat) : Int)) us) Nev Nev := by
  intro Q hN hX hR
  have HN : Hid _ := hN
  clear hX hN hR
  unfold RF
  conv => arg 2; whnf
  go_wp2
  rw [show ((i : Int) + 1) = ((i + 1 : Nat) : Int) by omega]
  exact HN.out _ _ ⟨rfl, RF.mk _ rfl rfl⟩

set_option maxRecDepth 100000 in
set_option maxHeartbeats 4000000 in
theorem t3 (S : ByteArray) (s : List Int) (o m iv : Value) (K i : Nat) (us : Nat → Value) (w W w2 : World) (out : List Tk) (kd : Int) (tx : List Int) (n : Int) (D : List Int) (hB : Hid (TkBlk W w2 kd tx n i D)) (HTo : Hid (To W w.heap.size o out)) (HBl : Hid (Below w.heap.size w W)) (HOK : Hid (Tk.ok ⟨kd, tx, n, i, D⟩)) (hol : out.length ≤ 100000) :
    Goes rT3 (RF S o m iv (.pointer (some ⟨W.heap.size, 0, none⟩)) (.int .i64 (K : Int)) us) w2 (fun a w3 => ∃ o2, (∃ us, a = RF S o2 m (.int .i64 (K : Int)) (.pointer (some ⟨W.heap.size, 0, none⟩)) (.int .i64 (K : Int)) us) ∧ To w3 w.heap.size o2 (out ++ [⟨kd, tx, n, i, D⟩]) ∧ Below w.heap.size w w3 ∧
      ∀ ms, W.ownsRow w.heap.size 3 1 m ms.length (mcells ms) → w3.ownsRow w.heap.size 3 1 m ms.length (mcells ms)) Nev Nev := by
  intro Q hN hX hR
  have HN : Hid _ := hN
  obtain ⟨g0, g1, g2, g3, g4, _⟩ := tok_facts hB.out.1
  have hn1 : out.length + 1 ≤ 1000000 := by omega
  have hTo2 := HTo.out.below hB.out.2
  have HTA : Hid (To (w2.alloc (.cells #[.int .i64 kd, .string (strOfNums tx), .int .u64 n, .int .i64 (i : Int), .string (strOfNums D)] 40)) w.heap.size o out) := hTo2.below ((Below.refl _ _).alloc (Nat.le_refl _) _)
  have hB2 : Below w.heap.size w w2 := HBl.out.trans (hB.out.2.mono HBl.out.size)
  have HBA : Hid (Below w.heap.size w (w2.alloc (.cells #[.int .i64 kd, .string (strOfNums tx), .int .u64 n, .int .i64 (i : Int), .string (strOfNums D)] 40))) := hB2.alloc hB2.size _
  have HCL : Hid _ := tok_cells w2 ⟨kd, tx, n, i, D⟩ #[.int .i64 kd, .string (strOfNums tx), .int .u64 n, .int .i64 (i : Int), .string (strOfNums D)] rfl
  clear hX hN hR hTo2 hB2
  unfold RF
  conv => arg 2; whnf
  go_wp2_with (at_builtin; refine wpList_append_tok rfl _ _ rfl w.heap.size _ out ⟨kd, tx, n, i, D⟩ w2.heap.size 1 rfl rfl HTA.out HOK.out HCL.out hn1 HBA.out.size ?_; intro o2 w5 hTo5 hgrow5)
  refine HN.out _ _ ⟨o2, RF.mk _ rfl rfl, hTo5, HBA.out.grown hgrow5 HBA.out.size (fun j hj => (HTA.out.1.lt j hj).1), fun ms hms => ?_⟩
  exact own_other (own_allc (own_below hms hB.out.2) _) HTA.out.1 (by decide) hgrow5

end Go.Proofs.YtjkcmcefmciinaaDoor
