/- The contracts of the program's own quote.appendSign and quote.Text, over the turned text. -/
import Derived.Test.YtilcaihfoelapabDoorQTxt
namespace Go.Proofs.YtilcaihfoelapabDoor
open Go.RowKit
set_option linter.unusedVariables false
set_option linter.unusedSimpArgs false

theorem lits_bs (w : World) (C : Array Value) (zs : List Int) (n : Nat) (hC : C.toList = zs.map (Value.int .u8)) (hn : zs.length = n) (h1 : n ≤ 1000) (hb : ∀ c ∈ zs, 0 ≤ c ∧ c ≤ 255) : Bs (w.alloc (.cells C 5)) (some ⟨w.heap.size, 0, none⟩) n n zs := by
  refine Bs.of_owns (zs := zs) (base := w.heap.size) (n := n) ?_ hb
  have hs : C.size = n := by
    have := congrArg List.length hC
    simp at this
    omega
  rw [← hC]
  exact lit_row w 5 C n hs h1

theorem own_alloc {W : World} {base e sz n : Nat} {v : Value} {xs : List Value} (h : W.ownsRow base e sz v n xs) (o : Obj) : (W.alloc o).ownsRow base e sz v n xs :=
  own_below h ((Below.refl _ _).alloc (Nat.le_refl _) _)

/-- What a way of appendSign ends in: the signs stand behind what was there. -/
def SignEnd (base n : Nat) (xs : List Value) (w : World) (o : List Int) (e : Ending) (w' : World) : Prop :=
  ∃ v', e = .returned v' ∧ w'.ownsRow base 5 1 v' (n + o.length) (xs ++ o.map (Value.int .u8)) ∧ Below base w w'

theorem and7_u8 : ∀ a : Fin 256, bits .and .u8 (a.val : Int) 7 = ((a.val % 8 : Nat) : Int) := by decide +kernel

theorem bits_and7 (x : Int) (h0 : 0 ≤ x) (h1 : x ≤ 255) : bits .and .u8 x 7 = x % 8 := by
  have := and7_u8 ⟨x.toNat, by omega⟩
  simp only at this
  rw [show ((x.toNat : Nat) : Int) = x by omega] at this
  rw [this]; omega

set_option maxHeartbeats 1000000 in
theorem psign_34 {w : World} {base n : Nat} {v : Value} {xs : List Value} (hown : w.ownsRow base 5 1 v n xs) (hn : n + 4 ≤ 140737488355328) (hbase : base ≤ w.heap.size) :
    Calls Tryd.prog 8 #[v, .int .u8 34] w fun e w' => SignEnd base n xs w [92, 34] e w' := by
  have hown' := own_alloc hown (.cells #[.int .u8 92, .int .u8 34] 5)
  have B1 : Hid (Bs (w.alloc (.cells #[.int .u8 92, .int .u8 34] 5)) (some ⟨w.heap.size, 0, none⟩) 2 2 [92, 34]) := lits_bs w _ [92, 34] 2 rfl rfl (by omega) (by intro x hx; simp at hx; omega)
  have hs : base ≤ (w.alloc (.cells #[.int .u8 92, .int .u8 34] 5)).heap.size := by simp; omega
  have h2 : n + 2 ≤ 140737488355328 := by omega
  go_enter Tryd.func8, Tryd.ntmps8
  go_wp2_with (at_builtin; refine wpList_append_bs rfl _ _ rfl base _ _ _ _ _ _ [92, 34] rfl rfl hown' B1.out h2 hs ?_; intro v2 w2 hown2 hgrow2)
  go_ret
  exact ⟨_, rfl, hown2, ((Below.refl _ _).alloc hbase _).grown hgrow2 hs (fun j hj => (hown'.lt j hj).1)⟩

set_option maxHeartbeats 1000000 in
theorem psign_92 {w : World} {base n : Nat} {v : Value} {xs : List Value} (hown : w.ownsRow base 5 1 v n xs) (hn : n + 4 ≤ 140737488355328) (hbase : base ≤ w.heap.size) :
    Calls Tryd.prog 8 #[v, .int .u8 92] w fun e w' => SignEnd base n xs w [92, 92] e w' := by
  have hown' := own_alloc hown (.cells #[.int .u8 92, .int .u8 92] 5)
  have B1 : Hid (Bs (w.alloc (.cells #[.int .u8 92, .int .u8 92] 5)) (some ⟨w.heap.size, 0, none⟩) 2 2 [92, 92]) := lits_bs w _ [92, 92] 2 rfl rfl (by omega) (by intro x hx; simp at hx; omega)
  have hs : base ≤ (w.alloc (.cells #[.int .u8 92, .int .u8 92] 5)).heap.size := by simp; omega
  have h2 : n + 2 ≤ 140737488355328 := by omega
  go_enter Tryd.func8, Tryd.ntmps8
  go_wp2_with (at_builtin; refine wpList_append_bs rfl _ _ rfl base _ _ _ _ _ _ [92, 92] rfl rfl hown' B1.out h2 hs ?_; intro v2 w2 hown2 hgrow2)
  go_ret
  exact ⟨_, rfl, hown2, ((Below.refl _ _).alloc hbase _).grown hgrow2 hs (fun j hj => (hown'.lt j hj).1)⟩

set_option maxHeartbeats 1000000 in
theorem psign_9 {w : World} {base n : Nat} {v : Value} {xs : List Value} (hown : w.ownsRow base 5 1 v n xs) (hn : n + 4 ≤ 140737488355328) (hbase : base ≤ w.heap.size) :
    Calls Tryd.prog 8 #[v, .int .u8 9] w fun e w' => SignEnd base n xs w [92, 116] e w' := by
  have hown' := own_alloc hown (.cells #[.int .u8 92, .int .u8 116] 5)
  have B1 : Hid (Bs (w.alloc (.cells #[.int .u8 92, .int .u8 116] 5)) (some ⟨w.heap.size, 0, none⟩) 2 2 [92, 116]) := lits_bs w _ [92, 116] 2 rfl rfl (by omega) (by intro x hx; simp at hx; omega)
  have hs : base ≤ (w.alloc (.cells #[.int .u8 92, .int .u8 116] 5)).heap.size := by simp; omega
  have h2 : n + 2 ≤ 140737488355328 := by omega
  go_enter Tryd.func8, Tryd.ntmps8
  go_wp2_with (at_builtin; refine wpList_append_bs rfl _ _ rfl base _ _ _ _ _ _ [92, 116] rfl rfl hown' B1.out h2 hs ?_; intro v2 w2 hown2 hgrow2)
  go_ret
  exact ⟨_, rfl, hown2, ((Below.refl _ _).alloc hbase _).grown hgrow2 hs (fun j hj => (hown'.lt j hj).1)⟩

set_option maxHeartbeats 1000000 in
theorem psign_10 {w : World} {base n : Nat} {v : Value} {xs : List Value} (hown : w.ownsRow base 5 1 v n xs) (hn : n + 4 ≤ 140737488355328) (hbase : base ≤ w.heap.size) :
    Calls Tryd.prog 8 #[v, .int .u8 10] w fun e w' => SignEnd base n xs w [92, 110] e w' := by
  have hown' := own_alloc hown (.cells #[.int .u8 92, .int .u8 110] 5)
  have B1 : Hid (Bs (w.alloc (.cells #[.int .u8 92, .int .u8 110] 5)) (some ⟨w.heap.size, 0, none⟩) 2 2 [92, 110]) := lits_bs w _ [92, 110] 2 rfl rfl (by omega) (by intro x hx; simp at hx; omega)
  have hs : base ≤ (w.alloc (.cells #[.int .u8 92, .int .u8 110] 5)).heap.size := by simp; omega
  have h2 : n + 2 ≤ 140737488355328 := by omega
  go_enter Tryd.func8, Tryd.ntmps8
  go_wp2_with (at_builtin; refine wpList_append_bs rfl _ _ rfl base _ _ _ _ _ _ [92, 110] rfl rfl hown' B1.out h2 hs ?_; intro v2 w2 hown2 hgrow2)
  go_ret
  exact ⟨_, rfl, hown2, ((Below.refl _ _).alloc hbase _).grown hgrow2 hs (fun j hj => (hown'.lt j hj).1)⟩

set_option maxHeartbeats 1000000 in
theorem psign_13 {w : World} {base n : Nat} {v : Value} {xs : List Value} (hown : w.ownsRow base 5 1 v n xs) (hn : n + 4 ≤ 140737488355328) (hbase : base ≤ w.heap.size) :
    Calls Tryd.prog 8 #[v, .int .u8 13] w fun e w' => SignEnd base n xs w [92, 114] e w' := by
  have hown' := own_alloc hown (.cells #[.int .u8 92, .int .u8 114] 5)
  have B1 : Hid (Bs (w.alloc (.cells #[.int .u8 92, .int .u8 114] 5)) (some ⟨w.heap.size, 0, none⟩) 2 2 [92, 114]) := lits_bs w _ [92, 114] 2 rfl rfl (by omega) (by intro x hx; simp at hx; omega)
  have hs : base ≤ (w.alloc (.cells #[.int .u8 92, .int .u8 114] 5)).heap.size := by simp; omega
  have h2 : n + 2 ≤ 140737488355328 := by omega
  go_enter Tryd.func8, Tryd.ntmps8
  go_wp2_with (at_builtin; refine wpList_append_bs rfl _ _ rfl base _ _ _ _ _ _ [92, 114] rfl rfl hown' B1.out h2 hs ?_; intro v2 w2 hown2 hgrow2)
  go_ret
  exact ⟨_, rfl, hown2, ((Below.refl _ _).alloc hbase _).grown hgrow2 hs (fun j hj => (hown'.lt j hj).1)⟩

set_option maxHeartbeats 1000000 in
theorem psign_plain {w : World} {base n : Nat} {v : Value} {xs : List Value} (c : Int) (p1 : 32 ≤ c) (p2 : c ≤ 126) (e34 : (c == 34) = false) (e92 : (c == 92) = false) (hown : w.ownsRow base 5 1 v n xs) (hn : n + 4 ≤ 140737488355328) (hbase : base ≤ w.heap.size) :
    Calls Tryd.prog 8 #[v, .int .u8 c] w fun e w' => SignEnd base n xs w [c] e w' := by
  have hown' := own_alloc hown (.cells #[.int .u8 c] 5)
  have B1 : Hid (Bs (w.alloc (.cells #[.int .u8 c] 5)) (some ⟨w.heap.size, 0, none⟩) 1 1 [c]) := lits_bs w _ [c] 1 rfl rfl (by omega) (by intro x hx; simp at hx; omega)
  have hs : base ≤ (w.alloc (.cells #[.int .u8 c] 5)).heap.size := by simp; omega
  have h2 : n + 1 ≤ 140737488355328 := by omega
  have e9 : (c == 9) = false := by simp; omega
  have e10 : (c == 10) = false := by simp; omega
  have e13 : (c == 13) = false := by simp; omega
  go_enter Tryd.func8, Tryd.ntmps8
  go_wp2_with (at_builtin; refine wpList_append_bs rfl _ _ rfl base _ _ _ _ _ _ [c] rfl rfl hown' B1.out h2 hs ?_; intro v2 w2 hown2 hgrow2)
  go_ret
  exact ⟨_, rfl, hown2, ((Below.refl _ _).alloc hbase _).grown hgrow2 hs (fun j hj => (hown'.lt j hj).1)⟩

set_option maxHeartbeats 1000000 in
theorem psign_oct {w : World} {base n : Nat} {v : Value} {xs : List Value} (c : Int) (c0 : 0 ≤ c) (c1 : c ≤ 255) (e34 : (c == 34) = false) (e92 : (c == 92) = false) (e9 : (c == 9) = false) (e10 : (c == 10) = false) (e13 : (c == 13) = false) (hp : ¬ (32 ≤ c ∧ c ≤ 126)) (hown : w.ownsRow base 5 1 v n xs) (hn : n + 4 ≤ 140737488355328) (hbase : base ≤ w.heap.size) :
    Calls Tryd.prog 8 #[v, .int .u8 c] w fun e w' => SignEnd base n xs w [92, 48 + c / 64, 48 + c / 8 % 8, 48 + c % 8] e w' := by
  have hown' := own_alloc hown (.cells #[.int .u8 92, .int .u8 (48 + c / 64), .int .u8 (48 + c / 8 % 8), .int .u8 (48 + c % 8)] 5)
  have B1 : Hid (Bs (w.alloc (.cells #[.int .u8 92, .int .u8 (48 + c / 64), .int .u8 (48 + c / 8 % 8), .int .u8 (48 + c % 8)] 5)) (some ⟨w.heap.size, 0, none⟩) 4 4 [92, 48 + c / 64, 48 + c / 8 % 8, 48 + c % 8]) := lits_bs w _ [92, 48 + c / 64, 48 + c / 8 % 8, 48 + c % 8] 4 rfl rfl (by omega) (by intro x hx; simp at hx; omega)
  have hs : base ≤ (w.alloc (.cells #[.int .u8 92, .int .u8 (48 + c / 64), .int .u8 (48 + c / 8 % 8), .int .u8 (48 + c % 8)] 5)).heap.size := by simp; omega
  have a1 := bits_and7 (c / 8) (by omega) (by omega)
  have a2 := bits_and7 c c0 c1
  by_cases kl : 32 ≤ c
  · have kl2 : ¬ c ≤ 126 := fun h => hp ⟨kl, h⟩
    clear hp
    go_enter Tryd.func8, Tryd.ntmps8
    go_wp2_with (at_builtin; refine wpList_append_bs rfl _ _ rfl base _ _ _ _ _ _ [92, 48 + c / 64, 48 + c / 8 % 8, 48 + c % 8] rfl rfl hown' B1.out hn hs ?_; intro v2 w2 hown2 hgrow2)
    go_ret
    exact ⟨_, rfl, hown2, ((Below.refl _ _).alloc hbase _).grown hgrow2 hs (fun j hj => (hown'.lt j hj).1)⟩
  · clear hp
    go_enter Tryd.func8, Tryd.ntmps8
    go_wp2_with (at_builtin; refine wpList_append_bs rfl _ _ rfl base _ _ _ _ _ _ [92, 48 + c / 64, 48 + c / 8 % 8, 48 + c % 8] rfl rfl hown' B1.out hn hs ?_; intro v2 w2 hown2 hgrow2)
    go_ret
    exact ⟨_, rfl, hown2, ((Below.refl _ _).alloc hbase _).grown hgrow2 hs (fun j hj => (hown'.lt j hj).1)⟩

theorem psign_any {w : World} {base n : Nat} {v : Value} {xs : List Value} (c : Int) (c0 : 0 ≤ c) (c1 : c ≤ 255) (hown : w.ownsRow base 5 1 v n xs) (hn : n + 4 ≤ 140737488355328) (hbase : base ≤ w.heap.size) :
    Calls Tryd.prog 8 #[v, .int .u8 c] w fun e w' => SignEnd base n xs w (qch c) e w' := by
  rw [qch]
  by_cases k : c = 34 ∨ c = 92
  · rw [if_pos k]
    rcases k with rfl | rfl
    · exact psign_34 hown hn hbase
    · exact psign_92 hown hn hbase
  rw [if_neg k]
  by_cases k9 : c = 9
  · rw [if_pos k9]; subst k9; exact psign_9 hown hn hbase
  rw [if_neg k9]
  by_cases k10 : c = 10
  · rw [if_pos k10]; subst k10; exact psign_10 hown hn hbase
  rw [if_neg k10]
  by_cases k13 : c = 13
  · rw [if_pos k13]; subst k13; exact psign_13 hown hn hbase
  rw [if_neg k13]
  have e34 : (c == 34) = false := by simp; omega
  have e92 : (c == 92) = false := by simp; omega
  by_cases kp : 32 ≤ c ∧ c ≤ 126
  · rw [if_pos kp]; exact psign_plain c kp.1 kp.2 e34 e92 hown hn hbase
  · rw [if_neg kp]; exact psign_oct c c0 c1 e34 e92 (by simpa using k9) (by simpa using k10) (by simpa using k13) kp hown hn hbase

set_option maxHeartbeats 1000000 in
theorem ptext_bs {w : World} {a : Option Addr} {len cap : Nat} {zs : List Int} (h : Hid (Bs w a len cap zs)) (hl6 : len ≤ 2000000) :
    Calls Tryd.prog 5 #[.slice a len cap] w fun e w' => e = .returned (.string (strOfNums (qtext zs))) ∧ Below w.heap.size w w' := by
  have HL : Hid (zs.length = len) := h.out.1
  have hown0 := lit_row w 5 #[.int .u8 34] 1 rfl (by omega)
  go_enter Tryd.func5, Tryd.ntmps5
  go_wp2
  go_loopw [3, 9] (fun v i wr => ∃ (k : Nat) (O : List Int), i = .int .i64 (k : Int) ∧ k ≤ len ∧ O.length ≤ 4 * k ∧ Hid (O = (zs.take k).flatMap qch) ∧ wr.ownsRow w.heap.size 5 1 v (1 + O.length) ((34 :: O).map (Value.int .u8)) ∧ Below w.heap.size w wr) (fun _ i _ => len - (intOf i).toNat)
  case atStart => exact ⟨0, [], rfl, by omega, by simp, (by show _ = _; simp), hown0, (Below.refl _ _).alloc (Nat.le_refl _) _⟩
  case round =>
    obtain ⟨k, O, rfl, hkl, hO, HO, hown, hb⟩ := hrel
    clear hown0
    have hbs := hb.size
    by_cases hk : k < len
    · obtain ⟨b, off, rfl, hlt, hcell⟩ := h.out.2.2.2.2.2 (by omega)
      have hc := (hb.cell hlt).trans (hcell k hk)
      obtain ⟨c0, c255⟩ := h.out.2.2.1 k
      have HN : Hid ((zs.take (k + 1)).flatMap qch = O ++ qch (zs.getD k 0)) := by show _ = _; rw [HO.out]; exact flat_take zs k (by rw [HL.out]; exact hk)
      generalize zs.getD k 0 = c at hc c0 c255 HN
      clear hcell HO
      have hq := qch_len c
      have q := psign_any c c0 c255 hown (by omega) hbs
      have Q : Hid _ := q
      clear q
      go_wp2_with fail
      refine Calls.mono Q.out ?_
      rintro e w1 ⟨v1, rfl, hown1, hb1⟩
      go_wp2
      go_roundw
      case rel =>
        refine ⟨k + 1, O ++ qch c, by go_num, by omega, by simp only [List.length_append]; omega, HN.out.symm, ?_, hb.trans hb1⟩
        rw [List.length_append, ← Nat.add_assoc, ← List.cons_append, List.map_append]
        exact hown1
      case measure => simp [intOf]; omega
    · obtain rfl : k = len := by omega
      have E : Hid (qtext zs = 34 :: (O ++ [34])) := by show _ = _; rw [qtext, HO.out, List.take_of_length_le (by rw [HL.out]; omega)]
      clear HO
      have hown' := own_alloc hown (.cells #[.int .u8 34] 5)
      have B1 : Hid (Bs (wr.alloc (.cells #[.int .u8 34] 5)) (some ⟨wr.heap.size, 0, none⟩) 1 1 [34]) := lits_bs wr _ [34] 1 rfl rfl (by omega) (by intro x hx; simp at hx; omega)
      have hs : w.heap.size ≤ (wr.alloc (.cells #[.int .u8 34] 5)).heap.size := by simp; omega
      have h2 : 1 + O.length + 1 ≤ 140737488355328 := by omega
      have HO2 : Hid (∀ c ∈ (34 :: (O ++ [34])), 0 ≤ c ∧ c ≤ 255) := by
        rw [← E.out]
        intro c hc
        have := qtext_plain zs h.out.mem c hc
        omega
      go_wp2_with (at_builtin; refine wpList_append_bs rfl _ _ rfl w.heap.size _ _ _ _ _ _ [34] rfl rfl hown' B1.out h2 hs ?_; intro v2 w2 hown2 hgrow2; obtain ⟨a2, cc2, rfl⟩ := own_slice hown2; have hcv := Bs.conv (Bs.of_owns (zs := 34 :: (O ++ [34])) (by simpa using hown2) HO2.out))
      go_ret
      exact ⟨by rw [E.out]; rfl, (hb.alloc hbs _).grown hgrow2 hs (fun j hj => (hown'.lt j hj).1)⟩

end Go.Proofs.YtilcaihfoelapabDoor
