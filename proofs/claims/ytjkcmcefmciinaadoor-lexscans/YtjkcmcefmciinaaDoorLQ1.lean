/- The reference's own Scan: the piece that goes over blanks; the piece that ends it. -/
import Derived.Test.YtjkcmcefmciinaaDoorLQ0
namespace Go.Proofs.YtjkcmcefmciinaaDoor
open Go.RowKit
set_option linter.unusedVariables false
set_option linter.unusedSimpArgs false

set_option maxRecDepth 100000 in
set_option maxHeartbeats 4000000 in
theorem g1 (S : ByteArray) (s : List Int) (o m t9 k10 : Value) (i0 : Nat) (us : Nat → Value) (W : World) (HS : Hid (Src S s)) (hlen : (s.length : Int) ≤ 100000) (hi0 : i0 ≤ s.length) :
    Goes rP1 (RF S o m (.int .i64 (i0 : Int)) t9 k10 us) W (fun a w => w = W ∧ ∃ us, a = RF S o m (.int .i64 ((lrun lblank s s.length (s.length - i0) i0 : Nat) : Int)) t9 k10 us) Nev Nev := by
  intro Q hN hX hR
  have hsz := HS.out.sz
  obtain ⟨K, hK⟩ : ∃ K, K = lrun lblank s s.length (s.length - i0) i0 := ⟨_, rfl⟩
  rw [← hK] at hN
  have HK : Hid (K = lrun lblank s s.length (s.length - i0) i0) := hK
  have HN : Hid _ := hN
  clear hX hR hK hN
  unfold RF
  conv => arg 2; whnf
  go_wp2
  go_loopw [7] (fun v wr => ∃ i : Nat, v = .int .i64 (i : Int) ∧ i0 ≤ i ∧ i ≤ s.length ∧ Hid (K = lrun lblank s s.length (s.length - i) i) ∧ W = wr) (fun v _ => s.length - (intOf v).toNat)
  case atStart => exact ⟨i0, rfl, by omega, hi0, HK, rfl⟩
  case round =>
    obtain ⟨i, rfl, hii, his, HI, rfl⟩ := hrel
    by_cases hil : i < s.length
    · have hat := HS.out.at i hil
      have hcb := HS.out.bd i
      have HI' := HI.out
      obtain ⟨m', hm⟩ : ∃ m, s.length - i = m + 1 := ⟨s.length - i - 1, by omega⟩
      rw [hm, lrun, show m' = s.length - (i + 1) by omega] at HI'
      generalize s.getD i 0 = c at hat hcb HI'
      obtain ⟨c0, c255⟩ := hcb
      clear hm HI
      have q := fun W => rblank_any c W c0 c255
      by_cases hbl : lblank c = true
      · rw [if_pos ⟨hil, hbl⟩] at HI'
        rw [hbl] at q
        have HE : Hid _ := HI'
        have QB : Hid _ := q
        clear HI' q hbl
        go_wp2_with fail
        refine Calls.mono (QB.out _) ?_
        rintro e w1 ⟨rfl, rfl⟩
        go_wp2
        go_roundw
        case rel => first | exact ⟨i + 1, by go_num, by omega, by omega, HE, by first | rfl | trivial⟩ | ((repeat apply Exists.intro); exact ⟨⟨i + 1, by go_num, by omega, by omega, HE, by first | rfl | trivial⟩, rfl⟩)
        case measure => simp [intOf]; omega
      · have hbl' : lblank c = false := by simpa using hbl
        rw [if_neg (fun h => hbl h.2)] at HI'
        rw [hbl'] at q
        have QB : Hid _ := q
        subst HI'
        clear q hbl hbl'
        go_wp2_with fail
        refine Calls.mono (QB.out _) ?_
        rintro e w1 ⟨rfl, rfl⟩
        go_wp2
        exact HN.out _ _ ⟨rfl, RF.mk _ rfl rfl⟩
    · obtain rfl : i = s.length := by omega
      have e := HI.out
      rw [Nat.sub_self, lrun] at e
      subst e
      clear HI
      go_wp2
      exact HN.out _ _ ⟨rfl, RF.mk _ rfl rfl⟩

set_option maxRecDepth 100000 in
set_option maxHeartbeats 4000000 in
theorem g2_on (S : ByteArray) (s : List Int) (o m t9 k10 : Value) (i : Nat) (us : Nat → Value) (W : World) (HS : Hid (Src S s)) (hi : i < s.length) :
    Goes rP2 (RF S o m (.int .i64 (i : Int)) t9 k10 us) W (fun a w => w = W ∧ ∃ us, a = RF S o m (.int .i64 (i : Int)) t9 k10 us) Nev Nev := by
  intro Q hN hX hR
  have hsz := HS.out.sz
  have HN : Hid _ := hN
  have hne : ((i : Int) == (s.length : Int)) = false := by simp; omega
  clear hX hR hN
  unfold RF
  conv => arg 2; whnf
  go_wp2
  exact HN.out _ _ ⟨rfl, RF.mk _ rfl rfl⟩

set_option maxRecDepth 100000 in
set_option maxHeartbeats 4000000 in
theorem g2_end (S : ByteArray) (s : List Int) (o m t9 k10 : Value) (us : Nat → Value) (w W : World) (R : List Tk × Int × Int) (out : List Tk) (ms : List Nat) (HS : Hid (Src S s)) (HL : Hid (s.length ≤ 100000)) (hol : out.length ≤ s.length) (hml : ms.length ≤ s.length)
    (HM : Hid (∀ j, ms.getD j 0 ≤ 1000000)) (HTo : Hid (To W w.heap.size o out)) (HMo : Hid (W.ownsRow w.heap.size 3 1 m ms.length (mcells ms))) (HB : Hid (Below w.heap.size w W)) (E : Hid (R = (out ++ [⟨0, [], 0, s.length, ldoc s s.length ms⟩], 0, 0))) :
    Goes rP2 (RF S o m (.int .i64 (s.length : Int)) t9 k10 us) W Nev Nev (Rtn w R) := by
  intro Q hN hX hR
  have hsz := HS.out.sz
  have HR : Hid _ := hR
  have hnl : ((s.length : Int) == (s.length : Int)) = true := by simp
  obtain ⟨a6, c6, rfl⟩ := own_slice HMo.out
  have hdoc := rdoc_any (w := W) (a := a6) (len := ms.length) (cap := c6) (ms := ms) s s.length (Is.of_owns HMo.out) HS.out.bd (by have := HL.out; omega) (Nat.le_refl _) (by have := HL.out; omega) HM
  rw [← HS.out.eq] at hdoc
  have hdb := ldoc_bd s s.length ms (mem_bd HS.out.bd)
  generalize ldoc s s.length ms = D at hdoc E hdb
  have QD : Hid _ := hdoc
  have hTo' := HTo.out.below ((Below.refl W.heap.size W).alloc (Nat.le_refl _) (.cells #[.int .i64 0, .string { data := #[] }, .int .u64 0, .int .i64 (s.length : Int), .string (strOfNums D)] 40))
  have HTo' : Hid (To _ _ _ _) := hTo'
  have hB1 := HB.out.alloc HB.out.size (.cells #[.int .i64 0, .string { data := #[] }, .int .u64 0, .int .i64 (s.length : Int), .string (strOfNums D)] 40)
  have HB1 : Hid (Below _ _ _) := hB1
  have hn1 : out.length + 1 ≤ 1000000 := by have := HL.out; omega
  have hcl : Hid _ := tok_cells W ⟨0, [], 0, s.length, D⟩ #[.int .i64 0, .string { data := #[] }, .int .u64 0, .int .i64 (s.length : Int), .string (strOfNums D)] rfl
  have hk : Hid (Tk.ok ⟨0, [], 0, s.length, D⟩) := ⟨by simp, hdb⟩
  clear hX hN hR hdoc hTo' hB1 hdb
  unfold RF
  conv => arg 2; whnf
  go_wp2_with fail
  refine Calls.mono QD.out ?_
  rintro e w1 ⟨rfl, rfl⟩
  go_wp2_with (at_builtin; refine wpList_append_tok rfl _ _ rfl w.heap.size _ out ⟨0, [], 0, s.length, D⟩ W.heap.size 1 rfl rfl HTo'.out hk.out hcl.out hn1 HB1.out.size ?_; intro v2 w2 hTo2 hgrow2)
  refine HR.out _ _ ⟨_, rfl, ?_, ?_, rfl, ?_, HB1.out.grown hgrow2 HB1.out.size (fun j hj => (HTo'.out.1.lt j hj).1)⟩
  · rw [E.out]; rfl
  · rw [E.out]; rfl
  · rw [E.out]; exact hTo2

end Go.Proofs.YtjkcmcefmciinaaDoor
