/- The contracts of the program's own Place, Line. -/
import Derived.Test.YtjkcmcefmciinaaDoorLPe
import Derived.Test.YtjkcmcefmciinaaDoorLRef4
import Derived.WalkLawsBesides
import Derived.Laws.FloatArith
namespace Go.Proofs.YtjkcmcefmciinaaDoor
open Go.RowKit
set_option linter.unusedVariables false
set_option linter.unusedSimpArgs false

theorem take_snoc (s : List Int) (k : Nat) (h : k < s.length) : s.take (k + 1) = s.take k ++ [s.getD k 0] := by
  rw [List.take_add_one, List.getElem?_eq_getElem h]
  simp [List.getD, List.getElem?_eq_getElem h]

theorem cnt10 (s : List Int) (hz : ∀ i, 0 ≤ s.getD i 0 ∧ s.getD i 0 ≤ 255) : ∀ k, k ≤ s.length → 1 + ((Lib.countByte (u8s (s.take k)) 10 : Nat) : Int) = lline s k
  | 0, _ => by simp [u8s, Lib.countByte, lline]
  | k + 1, h => by
    have ih := cnt10 s hz k (by omega)
    rw [take_snoc s k (by omega), lline]
    unfold Lib.countByte at ih ⊢
    rw [u8s, List.map_append, List.count_append]
    rw [u8s] at ih
    have e := u8_eq _ (hz k) 10 (by omega)
    by_cases c : s.getD k 0 = 10
    · rw [if_pos c, ← ih, List.map_cons, List.map_nil, e.2 c]
      simp
      omega
    · rw [if_neg c, ← ih, List.map_cons, List.map_nil, List.count_cons_of_ne (by exact fun g => c (e.1 g))]
      simp

theorem data_at (z : List Int) (hz : ∀ i, 0 ≤ z.getD i 0 ∧ z.getD i 0 ≤ 255) (j : Nat) (h : j < z.length) : (((strOfNums z).data[j]!).toNat : Int) = z.getD j 0 := by
  have hs : j < (strOfNums z).size := by rw [strOfNums_size]; exact h
  rw [← str_at z hz j hs]
  congr 2
  exact getElem!_pos (strOfNums z).data j hs

theorem last10 (s : List Int) (hz : ∀ i, 0 ≤ s.getD i 0 ∧ s.getD i 0 ≤ 255) (k : Nat) (hk : k ≤ s.length) : Lib.lastIndexByte (strOfNums (s.take k)) 10 = (lnAt s k : Int) - 1 := by
  have hl : (s.take k).length = k := by simp; omega
  have hzt : ∀ i, 0 ≤ (s.take k).getD i 0 ∧ (s.take k).getD i 0 ≤ 255 := getD_bd fun c hc => mem_bd hz c (List.mem_of_mem_take hc)
  have hat : ∀ j, j < k → (((strOfNums (s.take k)).data[j]!).toNat : Int) = s.getD j 0 := fun j hj => by
    rw [data_at _ hzt j (by rw [hl]; exact hj)]
    simp [List.getD, List.getElem?_take, hj]
  unfold Lib.lastIndexByte
  rw [strOfNums_size, hl]
  rcases Lib.lastIdx_spec (strOfNums (s.take k)) 10 k with ⟨h1, h2⟩ | ⟨i, hi, h1, h2, h3⟩
  · rw [h1, lnAt_ext s 0 k (by omega) (fun p _ hp => by rw [← hat p hp]; exact h2 p hp)]
    rfl
  · rw [h1, lnAt_ext s (i + 1) k (by omega) (fun p g1 g2 => by rw [← hat p g2]; exact h3 p (by omega) g2), lnAt_next s i (by rw [← hat i hi]; exact h2)]
    omega

set_option maxHeartbeats 1000000 in
theorem pplace_any (s : List Int) (x : Int) (w : World) (hz : Hid (∀ i, 0 ≤ s.getD i 0 ∧ s.getD i 0 ≤ 255)) (hlen : (s.length : Int) ≤ 100000) :
    Calls Tryd.prog 15 #[.string (strOfNums s), .int .i64 x] w fun e w' => e = .returned (.complex .f64 (floatOfInt .f64 (lline s (lclamp s.length x))) (floatOfInt .f64 ((lclamp s.length x : Int) - (lnAt s (lclamp s.length x) : Int) + 1))) ∧ Below w.heap.size w w' := by
  have hsz := strOfNums_size s
  have hcl : lclamp s.length x ≤ s.length := by unfold lclamp; split; omega; split <;> omega
  have hmm : min (max x 0) (s.length : Int) = (lclamp s.length x : Int) := by unfold lclamp; split; omega; split <;> omega
  generalize lclamp s.length x = k at hcl hmm ⊢
  have hrc := run_slice_string_h (P := Tryd.prog) w 9 (strOfNums s) Tryd.underlying9 .i64 (k : Int) (by omega) (by omega)
  have hc := cnt10 s hz.out k hcl
  have hl := last10 s hz.out k hcl
  have hx : (strOfNums s).extract 0 k = strOfNums (s.take k) := by rw [str_cut]; simp
  have q1 := fun W => Sh.strings_Count_one (strOfNums (s.take k)) 10 W
  rw [nums_list] at q1
  have hbd := lline_bd s k
  have hln := lnAt_le s k
  have q2 := fun W => Sh.strings_LastIndexByte (strOfNums (s.take k)) 10 (by rw [strOfNums_size]; simp; omega) W
  rw [hl] at q2
  have hts : (strOfNums (s.take k)).size = k := by rw [strOfNums_size]; simp; omega
  generalize (Lib.countByte (u8s (s.take k)) 10 : Nat) = n at q1 hc
  generalize lline s k = L at hc hbd ⊢
  generalize lnAt s k = m at q2 hln ⊢
  have Q1 : Hid _ := q1
  have Q2 : Hid _ := q2
  have HC : Hid (1 + (n : Int) = L) := hc
  have hn : (n : Int) ≤ 100001 := by omega
  clear q1 q2 hc hl
  go_enter Tryd.func15, Tryd.ntmps15
  go_wp2_with fail
  refine Calls.mono (Q1.out _) ?_
  rintro e w1 ⟨rfl, hw1⟩
  subst hw1
  go_wp2_with fail
  refine Calls.mono (Q2.out _) ?_
  rintro e w1 ⟨rfl, hw1⟩
  subst hw1
  go_wp2
  go_ret
  refine ⟨?_, Below.refl _ _⟩
  rw [← HC.out, show (k : Int) - (m : Int) + 1 = (k : Int) - ((m : Int) - 1) by omega]
  rfl

theorem fti_fin : ∀ n : Fin 602, floatToIntVal .f64 (floatOfInt .f64 (n.val : Int)) .i64 = some (n.val : Int) := by decide +kernel

theorem run_fti (x : Int) (h : 1 ≤ x ∧ x ≤ 601) : ∀ W, (convert 35 3 (.float .f64 (floatOfInt .f64 x))).run Tryd.prog W = .ok (.int .i64 x) W := fun W => by
  have e := fti_fin ⟨x.toNat, by omega⟩
  simp only at e
  rw [show ((x.toNat : Nat) : Int) = x by omega] at e
  exact run_convert_float_int (P := Tryd.prog) W 35 3 .f64 .i64 _ x (by rw [Tryd.underlying35]; rfl) Tryd.underlying3 e

set_option maxHeartbeats 1000000 in
theorem pline_any (s : List Int) (x : Int) (w : World) (hz : Hid (∀ i, 0 ≤ s.getD i 0 ∧ s.getD i 0 ≤ 255)) (hlen : (s.length : Int) ≤ 600) :
    Calls Tryd.prog 13 #[.string (strOfNums s), .int .i64 x] w fun e w' => e = .returned (.tuple #[.int .i64 (lline s (lclamp s.length x)), .int .i64 ((lclamp s.length x : Int) - (lnAt s (lclamp s.length x) : Int) + 1)]) ∧ Below w.heap.size w w' := by
  have q := pplace_any s x w hz (by omega)
  have hcl : lclamp s.length x ≤ s.length := by unfold lclamp; split; omega; split <;> omega
  have hb1 := lline_bd s (lclamp s.length x)
  have hln := lnAt_le s (lclamp s.length x)
  have hC0 : 1 ≤ (lclamp s.length x : Int) - (lnAt s (lclamp s.length x) : Int) + 1 ∧ (lclamp s.length x : Int) - (lnAt s (lclamp s.length x) : Int) + 1 ≤ 601 := by omega
  have hL0 : 1 ≤ lline s (lclamp s.length x) ∧ lline s (lclamp s.length x) ≤ 601 := by omega
  generalize lline s (lclamp s.length x) = L at q hL0 ⊢
  generalize (lclamp s.length x : Int) - (lnAt s (lclamp s.length x) : Int) + 1 = C at q hC0 ⊢
  generalize strOfNums s = S at q ⊢
  have Q : Hid _ := q
  have fL := run_fti L hL0
  have fC := run_fti C hC0
  clear q hb1 hcl hln
  go_enter Tryd.func13, Tryd.ntmps13
  go_wp2_with fail
  refine Calls.mono Q.out ?_
  rintro e w1 ⟨rfl, hb⟩
  go_wp2
  go_ret2
  exact ⟨rfl, hb⟩

end Go.Proofs.YtjkcmcefmciinaaDoor
