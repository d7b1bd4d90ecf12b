/- Put together by a program out of these texts of mine: TChk2, NRef3, TChk1, TChk3. -/
import Derived.Test.YtgkablmglkagfaaGreatDoorBunC3
import Derived.Test.YtgkablmglkagfaaGreatDoorBunC5
import Derived.Test.YtgkablmglkagfaaGreatDoorBunC6

/- The contracts of the reference's own documented, may, worth, number. -/
namespace Go.Proofs.YtgkablmglkagfaaGreatDoor
open Go.RowKit
set_option linter.unusedVariables false
set_option linter.unusedSimpArgs false

set_option maxHeartbeats 1000000 in
theorem rdocd_any (k : Int) (w : World) (hk : i64b k) :
    Calls Tryz.prog 68 #[.int .i64 k] w fun e w' => e = .returned (.bool (tdocd k)) ∧ w = w' := by
  obtain ⟨hk0, hk1⟩ := hk
  rcases (show k < 5 ∨ k = 5 ∨ k = 6 ∨ k = 7 ∨ (8 ≤ k ∧ k ≤ 11) ∨ (11 < k ∧ k < 16) ∨ k = 16 ∨ k = 17 ∨ 17 < k by omega) with h | rfl | rfl | rfl | h | h | rfl | rfl | h
  · have E : Hid (tdocd k = false) := decide_eq_false (by omega)
    go_enter Tryz.func68, Tryz.ntmps68
    go_wp2
    go_ret
    exact ⟨by rw [E.out]; first | rfl | (simp <;> omega), rfl⟩
  · have E : Hid (tdocd 5 = true) := rfl
    go_enter Tryz.func68, Tryz.ntmps68
    go_wp2
    go_ret
    exact ⟨by rw [E.out]; first | rfl | (simp <;> omega), rfl⟩
  · have E : Hid (tdocd 6 = true) := rfl
    go_enter Tryz.func68, Tryz.ntmps68
    go_wp2
    go_ret
    exact ⟨by rw [E.out]; first | rfl | (simp <;> omega), rfl⟩
  · have E : Hid (tdocd 7 = false) := rfl
    go_enter Tryz.func68, Tryz.ntmps68
    go_wp2
    go_ret
    exact ⟨by rw [E.out]; first | rfl | (simp <;> omega), rfl⟩
  · have E : Hid (tdocd k = true) := decide_eq_true (by omega)
    go_enter Tryz.func68, Tryz.ntmps68
    go_wp2
    go_ret
    exact ⟨by rw [E.out]; first | rfl | (simp <;> omega), rfl⟩
  · have E : Hid (tdocd k = false) := decide_eq_false (by omega)
    go_enter Tryz.func68, Tryz.ntmps68
    go_wp2
    go_ret
    exact ⟨by rw [E.out]; first | rfl | (simp <;> omega), rfl⟩
  · have E : Hid (tdocd 16 = true) := rfl
    go_enter Tryz.func68, Tryz.ntmps68
    go_wp2
    go_ret
    exact ⟨by rw [E.out]; first | rfl | (simp <;> omega), rfl⟩
  · have E : Hid (tdocd 17 = true) := rfl
    go_enter Tryz.func68, Tryz.ntmps68
    go_wp2
    go_ret
    exact ⟨by rw [E.out]; first | rfl | (simp <;> omega), rfl⟩
  · have E : Hid (tdocd k = false) := decide_eq_false (by omega)
    go_enter Tryz.func68, Tryz.ntmps68
    go_wp2
    go_ret
    exact ⟨by rw [E.out]; first | rfl | (simp <;> omega), rfl⟩

set_option maxHeartbeats 1000000 in
theorem rworth_any (k : Int) (w : World) (hk : i64b k) :
    Calls Tryz.prog 89 #[.int .i64 k] w fun e w' => e = .returned (.bool (tworth k)) ∧ w = w' := by
  obtain ⟨hk0, hk1⟩ := hk
  rcases (show k < 20 ∨ (20 ≤ k ∧ k ≤ 23) ∨ 23 < k by omega) with h | h | h
  · have E : Hid (tworth k = false) := decide_eq_false (by omega)
    go_enter Tryz.func89, Tryz.ntmps89
    go_wp2
    go_ret
    exact ⟨by rw [E.out]; first | rfl | (simp <;> omega), rfl⟩
  · have E : Hid (tworth k = true) := decide_eq_true (by omega)
    go_enter Tryz.func89, Tryz.ntmps89
    go_wp2
    go_ret
    exact ⟨by rw [E.out]; first | rfl | (simp <;> omega), rfl⟩
  · have E : Hid (tworth k = false) := decide_eq_false (by omega)
    go_enter Tryz.func89, Tryz.ntmps89
    go_wp2
    go_ret
    exact ⟨by rw [E.out]; first | rfl | (simp <;> omega), rfl⟩

set_option maxHeartbeats 4000000 in
theorem rmay_any (kind kid : Int) (w : World) (hk : i64b kind) (hk' : i64b kid) :
    Calls Tryz.prog 88 #[.int .i64 kind, .int .i64 kid] w fun e w' => e = .returned (.bool (tmay kind kid)) ∧ w = w' := by
  obtain ⟨hk0, hk1⟩ := hk
  obtain ⟨hk2, hk3⟩ := hk'
  rcases (show kind = 1 ∨ kind = 5 ∨ kind = 6 ∨ kind = 7 ∨ kind = 8 ∨ kind = 11 ∨ kind = 12 ∨ kind = 23 ∨ kind = 16 ∨ (kind ≠ 1 ∧ kind ≠ 5 ∧ kind ≠ 6 ∧ kind ≠ 7 ∧ kind ≠ 8 ∧ kind ≠ 11 ∧ kind ≠ 12 ∧ kind ≠ 23 ∧ kind ≠ 16) by omega) with rfl | rfl | rfl | rfl | rfl | rfl | rfl | rfl | rfl | ⟨n1, n5, n6, n7, n8, n11, n12, n23, n16⟩
  · rcases (show kid < 2 ∨ (2 ≤ kid ∧ kid ≤ 8) ∨ 8 < kid by omega) with h | ⟨h, h2⟩ | h
    · have E : Hid (tmay 1 kid = false) := decide_eq_false (by omega)
      go_enter Tryz.func88, Tryz.ntmps88
      go_wp2
      go_ret
      exact ⟨by rw [E.out]; first | rfl | (simp <;> omega), rfl⟩
    · have E : Hid (tmay 1 kid = true) := decide_eq_true (by omega)
      go_enter Tryz.func88, Tryz.ntmps88
      go_wp2
      go_ret
      exact ⟨by rw [E.out]; first | rfl | (simp <;> omega), rfl⟩
    · have E : Hid (tmay 1 kid = false) := decide_eq_false (by omega)
      go_enter Tryz.func88, Tryz.ntmps88
      go_wp2
      go_ret
      exact ⟨by rw [E.out]; first | rfl | (simp <;> omega), rfl⟩
  · rcases (show kid < 4 ∨ kid = 4 ∨ kid = 5 ∨ kid = 6 ∨ kid = 7 ∨ kid = 8 ∨ kid = 9 ∨ kid = 10 ∨ (11 ≤ kid ∧ kid ≤ 13) ∨ 13 < kid by omega) with h | rfl | rfl | rfl | rfl | rfl | rfl | rfl | ⟨h, h2⟩ | h
    · have E : Hid (tmay 5 kid = false) := decide_eq_false (by omega)
      go_enter Tryz.func88, Tryz.ntmps88
      go_wp2
      go_ret
      exact ⟨by rw [E.out]; first | rfl | (simp <;> omega), rfl⟩
    · have E : Hid (tmay 5 4 = true) := rfl
      go_enter Tryz.func88, Tryz.ntmps88
      go_wp2
      go_ret
      exact ⟨by rw [E.out]; first | rfl | (simp <;> omega), rfl⟩
    · have E : Hid (tmay 5 5 = true) := rfl
      go_enter Tryz.func88, Tryz.ntmps88
      go_wp2
      go_ret
      exact ⟨by rw [E.out]; first | rfl | (simp <;> omega), rfl⟩
    · have E : Hid (tmay 5 6 = true) := rfl
      go_enter Tryz.func88, Tryz.ntmps88
      go_wp2
      go_ret
      exact ⟨by rw [E.out]; first | rfl | (simp <;> omega), rfl⟩
    · have E : Hid (tmay 5 7 = true) := rfl
      go_enter Tryz.func88, Tryz.ntmps88
      go_wp2
      go_ret
      exact ⟨by rw [E.out]; first | rfl | (simp <;> omega), rfl⟩
    · have E : Hid (tmay 5 8 = false) := rfl
      go_enter Tryz.func88, Tryz.ntmps88
      go_wp2
      go_ret
      exact ⟨by rw [E.out]; first | rfl | (simp <;> omega), rfl⟩
    · have E : Hid (tmay 5 9 = true) := rfl
      go_enter Tryz.func88, Tryz.ntmps88
      go_wp2
      go_ret
      exact ⟨by rw [E.out]; first | rfl | (simp <;> omega), rfl⟩
    · have E : Hid (tmay 5 10 = true) := rfl
      go_enter Tryz.func88, Tryz.ntmps88
      go_wp2
      go_ret
      exact ⟨by rw [E.out]; first | rfl | (simp <;> omega), rfl⟩
    · have E : Hid (tmay 5 kid = true) := decide_eq_true (by omega)
      go_enter Tryz.func88, Tryz.ntmps88
      go_wp2
      go_ret
      exact ⟨by rw [E.out]; first | rfl | (simp <;> omega), rfl⟩
    · have E : Hid (tmay 5 kid = false) := decide_eq_false (by omega)
      go_enter Tryz.func88, Tryz.ntmps88
      go_wp2
      go_ret
      exact ⟨by rw [E.out]; first | rfl | (simp <;> omega), rfl⟩
  · rcases (show kid = 16 ∨ kid = 4 ∨ (kid ≠ 16 ∧ kid ≠ 4) by omega) with rfl | rfl | ⟨h, h2⟩
    · have E : Hid (tmay 6 16 = true) := rfl
      go_enter Tryz.func88, Tryz.ntmps88
      go_wp2
      go_ret
      exact ⟨by rw [E.out]; first | rfl | (simp <;> omega), rfl⟩
    · have E : Hid (tmay 6 4 = true) := rfl
      go_enter Tryz.func88, Tryz.ntmps88
      go_wp2
      go_ret
      exact ⟨by rw [E.out]; first | rfl | (simp <;> omega), rfl⟩
    · have E : Hid (tmay 6 kid = false) := decide_eq_false (by omega)
      go_enter Tryz.func88, Tryz.ntmps88
      go_wp2
      go_ret
      exact ⟨by rw [E.out]; first | rfl | (simp <;> omega), rfl⟩
  · rcases (show kid = 9 ∨ kid ≠ 9 by omega) with rfl | h
    · have E : Hid (tmay 7 9 = true) := rfl
      go_enter Tryz.func88, Tryz.ntmps88
      go_wp2
      go_ret
      exact ⟨by rw [E.out]; first | rfl | (simp <;> omega), rfl⟩
    · have E : Hid (tmay 7 kid = false) := decide_eq_false (by omega)
      go_enter Tryz.func88, Tryz.ntmps88
      go_wp2
      go_ret
      exact ⟨by rw [E.out]; first | rfl | (simp <;> omega), rfl⟩
  · rcases (show kid = 17 ∨ kid = 4 ∨ (kid ≠ 17 ∧ kid ≠ 4) by omega) with rfl | rfl | ⟨h, h2⟩
    · have E : Hid (tmay 8 17 = true) := rfl
      go_enter Tryz.func88, Tryz.ntmps88
      go_wp2
      go_ret
      exact ⟨by rw [E.out]; first | rfl | (simp <;> omega), rfl⟩
    · have E : Hid (tmay 8 4 = true) := rfl
      go_enter Tryz.func88, Tryz.ntmps88
      go_wp2
      go_ret
      exact ⟨by rw [E.out]; first | rfl | (simp <;> omega), rfl⟩
    · have E : Hid (tmay 8 kid = false) := decide_eq_false (by omega)
      go_enter Tryz.func88, Tryz.ntmps88
      go_wp2
      go_ret
      exact ⟨by rw [E.out]; first | rfl | (simp <;> omega), rfl⟩
  · rcases (show kid = 9 ∨ kid = 4 ∨ (kid ≠ 9 ∧ kid ≠ 4) by omega) with rfl | rfl | ⟨h, h2⟩
    · have E : Hid (tmay 11 9 = true) := rfl
      go_enter Tryz.func88, Tryz.ntmps88
      go_wp2
      go_ret
      exact ⟨by rw [E.out]; first | rfl | (simp <;> omega), rfl⟩
    · have E : Hid (tmay 11 4 = true) := rfl
      go_enter Tryz.func88, Tryz.ntmps88
      go_wp2
      go_ret
      exact ⟨by rw [E.out]; first | rfl | (simp <;> omega), rfl⟩
    · have E : Hid (tmay 11 kid = false) := decide_eq_false (by omega)
      go_enter Tryz.func88, Tryz.ntmps88
      go_wp2
      go_ret
      exact ⟨by rw [E.out]; first | rfl | (simp <;> omega), rfl⟩
  · rcases (show kid = 14 ∨ kid ≠ 14 by omega) with rfl | h
    · have E : Hid (tmay 12 14 = true) := rfl
      go_enter Tryz.func88, Tryz.ntmps88
      go_wp2
      go_ret
      exact ⟨by rw [E.out]; first | rfl | (simp <;> omega), rfl⟩
    · have E : Hid (tmay 12 kid = false) := decide_eq_false (by omega)
      go_enter Tryz.func88, Tryz.ntmps88
      go_wp2
      go_ret
      exact ⟨by rw [E.out]; first | rfl | (simp <;> omega), rfl⟩
  · rcases (show kid = 24 ∨ kid ≠ 24 by omega) with rfl | h
    · have E : Hid (tmay 23 24 = true) := rfl
      go_enter Tryz.func88, Tryz.ntmps88
      go_wp2
      go_ret
      exact ⟨by rw [E.out]; first | rfl | (simp <;> omega), rfl⟩
    · have E : Hid (tmay 23 kid = false) := decide_eq_false (by omega)
      go_enter Tryz.func88, Tryz.ntmps88
      go_wp2
      go_ret
      exact ⟨by rw [E.out]; first | rfl | (simp <;> omega), rfl⟩
  · rcases (show kid = 4 ∨ kid ≠ 4 by omega) with rfl | h
    · have E : Hid (tmay 16 4 = true) := rfl
      go_enter Tryz.func88, Tryz.ntmps88
      go_wp2
      go_ret
      exact ⟨by rw [E.out]; first | rfl | (simp <;> omega), rfl⟩
    · have E : Hid (tmay 16 kid = false) := decide_eq_false (by omega)
      go_enter Tryz.func88, Tryz.ntmps88
      go_wp2
      go_ret
      exact ⟨by rw [E.out]; first | rfl | (simp <;> omega), rfl⟩
  · have E : Hid (tmay kind kid = false) := by show _ = _; unfold tmay; rw [if_neg n1, if_neg n5, if_neg n6, if_neg n7, if_neg n8, if_neg n11, if_neg n12, if_neg n23, if_neg n16]
    go_enter Tryz.func88, Tryz.ntmps88
    go_wp2
    go_ret
    exact ⟨by rw [E.out]; first | rfl | (simp <;> omega), rfl⟩

end Go.Proofs.YtgkablmglkagfaaGreatDoor

/- The contracts of the reference's own Parts, Full. -/
namespace Go.Proofs.YtgkablmglkagfaaGreatDoor
open Go.RowKit
set_option linter.unusedVariables false
set_option linter.unusedSimpArgs false

theorem lpc_more (s : List Int) (f i : Nat) (h : f ≤ i) (hi : i < s.length) : lpc s f (i + 1) = lpc s f i ++ [s.getD i 0] := by
  unfold lpc
  rw [List.take_add_one, List.getElem?_eq_getElem hi, List.drop_append_of_le_length (by simp; omega)]
  simp [List.getD, hi]

theorem lpc_none (s : List Int) (i : Nat) : lpc s i i = [] := by unfold lpc; simp

theorem lpc_bd (s : List Int) (i k : Nat) (h : byts s) : byts (lpc s i k) := fun c hc => h c (List.mem_of_mem_take (List.mem_of_mem_drop hc))

theorem run_piece (s : List Int) (i k : Nat) (h1 : i ≤ k) (h2 : k ≤ s.length) : ∀ W, (Instr.slice 9 (.string (strOfNums s)) (some (.int .i64 (i : Int))) (some (.int .i64 (k : Int))) none).run Tryz.prog W = .ok (.string (strOfNums (lpc s i k))) W := fun W => by
  rw [run_cut (strOfNums s) i k _ _ rfl rfl h1 (by rw [strOfNums_size]; exact h2) W, str_cut]
  unfold lpc
  rw [List.drop_take]

theorem nsp_len : ∀ (s cur : List Int), (nsp cur s).length ≤ s.length + 1
  | [], cur => by simp [nsp]
  | c :: r, cur => by
    rw [nsp]
    split
    · have := nsp_len r []; simp only [List.length_cons]; omega
    · have := nsp_len r (cur ++ [c]); simp only [List.length_cons]; omega

theorem nsp_each : ∀ (s cur z : List Int), z ∈ nsp cur s → z.length ≤ cur.length + s.length
  | [], cur, z, h => by
    simp only [nsp, List.mem_cons, List.not_mem_nil, or_false] at h
    subst h; simp
  | c :: r, cur, z, h => by
    rw [nsp] at h
    by_cases k : c = 46
    · rw [if_pos k] at h
      rcases List.mem_cons.1 h with h | h
      · subst h; omega
      · have := nsp_each r [] z h; simp only [List.length_nil, List.length_cons] at this ⊢; omega
    · rw [if_neg k] at h
      have := nsp_each r (cur ++ [c]) z h
      simp only [List.length_append, List.length_cons, List.length_nil] at this ⊢
      omega

set_option maxHeartbeats 1000000 in
theorem rparts_any (s : List Int) (w : World) (hz : Hid (∀ i, 0 ≤ s.getD i 0 ∧ s.getD i 0 ≤ 255)) (hlen : (s.length : Int) ≤ 100000) :
    Calls Tryz.prog 99 #[.string (strOfNums s)] w fun e w' => ∃ v, e = .returned v ∧ So w' w.heap.size v (nparts s) ∧ Below w.heap.size w w' := by
  obtain ⟨X, hX⟩ : ∃ X, X = strOfNums s := ⟨_, rfl⟩
  have hsz : X.size = s.length := by rw [hX]; exact strOfNums_size s
  have HA : Hid (∀ k, (h : k < s.length) → ((X[k]'(hsz ▸ h)).toNat : Int) = s.getD k 0) := fun k h => by subst hX; exact str_at s hz.out k _
  have HP : Hid (∀ i k, i ≤ k → k ≤ s.length → ∀ W, (Instr.slice 9 (.string X) (some (.int .i64 (i : Int))) (some (.int .i64 (k : Int))) none).run Tryz.prog W = .ok (.string (strOfNums (lpc s i k))) W) := fun i k h1 h2 => by subst hX; exact run_piece s i k h1 h2
  have HBy : Hid (byts s) := mem_bd hz.out
  rw [← hX]
  clear hX
  obtain ⟨R, hR⟩ : ∃ R, R = nparts s := ⟨_, rfl⟩
  rw [← hR]
  have HR : Hid (R = [] ++ nsp (lpc s 0 0) (s.drop 0)) := by show _ = _; rw [lpc_none, hR]; rfl
  clear hR
  go_enter Tryz.func99, Tryz.ntmps99
  go_wp2
  go_loopw [3, 4, 5] (fun v fv kv wr => ∃ (k fr : Nat) (o : List (List Int)), fv = .int .i64 (fr : Int) ∧ kv = .int .i64 (k : Int) ∧ o.length ≤ k ∧ k ≤ s.length + 1 ∧ Hid ((k ≤ s.length ∧ fr ≤ k ∧ R = o ++ nsp (lpc s fr k) (s.drop k)) ∨ (k = s.length + 1 ∧ R = o)) ∧ Hid (So wr w.heap.size v o) ∧ Hid (Below w.heap.size w wr)) (fun _ _ kv _ => s.length + 1 - (intOf kv).toNat)
  case atStart => exact ⟨0, 0, [], rfl, rfl, by simp, by omega, .inl ⟨by omega, by omega, HR⟩, So.nil _ _, Below.refl _ _⟩
  case round =>
    obtain ⟨k, fr, o, rfl, rfl, hol, hk, HJ, HO, HB⟩ := hrel
    by_cases hkl : k ≤ s.length
    · obtain ⟨_, hfk, HQ⟩ := HJ.out.resolve_right (fun h => by omega)
      have h1 := HP.out fr k hfk hkl
      have hpb := lpc_bd s fr k HBy.out
      obtain ⟨P, hP⟩ : ∃ P, P = lpc s fr k := ⟨_, rfl⟩
      rw [← hP] at h1 hpb HQ
      have HPb : Hid (byts P) := hpb
      have HPe : Hid (P = lpc s fr k) := hP
      have hn1 : o.length + 1 ≤ 1000000 := by omega
      have hbs := HB.out.size
      have HOA : Hid (So (wr.alloc (.cells #[.string (strOfNums P)] 9)) w.heap.size _ o) := HO.out.below ((Below.refl _ _).alloc (Nat.le_refl _) _)
      have HBA : Hid (Below w.heap.size w (wr.alloc (.cells #[.string (strOfNums P)] 9))) := HB.out.alloc hbs _
      have HCL : Hid ((wr.alloc (.cells #[.string (strOfNums P)] 9)).cell? ⟨wr.heap.size, 0, none⟩ = some (scell P)) := str_cell wr _
      clear hP hpb
      by_cases hkz : k = s.length
      · have HR2 : Hid (R = o ++ [P]) := by
          show _ = _
          rw [HQ, hkz, List.drop_length]
          rfl
        have hke : ((k : Int) == (s.length : Int)) = true := by rw [hkz]; simp
        have HKZ : Hid (k = s.length) := hkz
        clear HQ HJ HR hkz
        go_wp2_with (at_builtin; refine wpList_append_s rfl _ _ rfl w.heap.size _ o P wr.heap.size 1 rfl rfl HOA.out HPb.out HCL.out hn1 HBA.out.size ?_; intro v2 w2 hO2 hgrow2)
        have HB2 : Hid (Below w.heap.size w w2) := HOA.out.grown HBA.out HBA.out.size hgrow2
        go_roundw
        case rel => first | exact ⟨k + 1, k + 1, o ++ [P], by go_num, by go_num, by simp; omega, by omega, .inr ⟨by have := HKZ.out; omega, HR2⟩, hO2, HB2⟩ | ((repeat apply Exists.intro); exact ⟨⟨k + 1, k + 1, o ++ [P], by go_num, by go_num, by simp; omega, by omega, .inr ⟨by have := HKZ.out; omega, HR2⟩, hO2, HB2⟩, rfl⟩)
        case measure => simp [intOf]; omega
      · have hke : ((k : Int) == (s.length : Int)) = false := by simp; omega
        have hat := HA.out k (by omega)
        have HQ' := HQ
        rw [drop_at (show k < s.length by omega), nsp] at HQ'
        have hmo := lpc_more s fr k hfk (by omega)
        rw [← HPe.out] at hmo
        by_cases h46 : s.getD k 0 = 46
        · rw [if_pos h46] at HQ'
          rw [h46] at hat
          have HR2 : Hid (R = (o ++ [P]) ++ nsp (lpc s (k + 1) (k + 1)) (s.drop (k + 1))) := by show _ = _; rw [HQ', lpc_none]; simp
          clear HQ HQ' HJ HR hmo h46
          go_wp2_with (at_builtin; refine wpList_append_s rfl _ _ rfl w.heap.size _ o P wr.heap.size 1 rfl rfl HOA.out HPb.out HCL.out hn1 HBA.out.size ?_; intro v2 w2 hO2 hgrow2)
          have HB2 : Hid (Below w.heap.size w w2) := HOA.out.grown HBA.out HBA.out.size hgrow2
          go_roundw
          case rel => first | exact ⟨k + 1, k + 1, o ++ [P], by go_num, by go_num, by simp; omega, by omega, .inl ⟨by omega, by omega, HR2⟩, hO2, HB2⟩ | ((repeat apply Exists.intro); exact ⟨⟨k + 1, k + 1, o ++ [P], by go_num, by go_num, by simp; omega, by omega, .inl ⟨by omega, by omega, HR2⟩, hO2, HB2⟩, rfl⟩)
          case measure => simp [intOf]; omega
        · rw [if_neg h46, ← hmo] at HQ'
          have HR2 : Hid _ := HQ'
          generalize s.getD k 0 = c at hat h46
          have e46 : (c == 46) = false := by simpa using h46
          clear HQ HQ' HJ HR hmo
          go_wp2
          go_roundw
          case rel => first | exact ⟨k + 1, fr, o, rfl, by go_num, by omega, by omega, .inl ⟨by omega, by omega, HR2⟩, HO, HB⟩ | ((repeat apply Exists.intro); exact ⟨⟨k + 1, fr, o, rfl, by go_num, by omega, by omega, .inl ⟨by omega, by omega, HR2⟩, HO, HB⟩, rfl⟩)
          case measure => simp [intOf]; omega
    · obtain rfl : k = s.length + 1 := by omega
      have E : Hid (R = o) := by
        rcases HJ.out with h | h
        · omega
        · exact h.2
      have hkl' : ¬ ((s.length + 1 : Nat) : Int) ≤ (s.length : Int) := by omega
      clear HJ
      go_wp2
      go_ret
      exact ⟨_, rfl, by rw [E.out]; exact HO.out, HB.out⟩

set_option maxHeartbeats 1000000 in
theorem rfull_any (s : List Int) (w : World) (hz : Hid (∀ i, 0 ≤ s.getD i 0 ∧ s.getD i 0 ≤ 255)) (hlen : (s.length : Int) ≤ 100000) :
    Calls Tryz.prog 85 #[.string (strOfNums s)] w fun e w' => e = .returned (.bool (nfull s)) ∧ Below w.heap.size w w' := by
  have hsz := strOfNums_size s
  by_cases hbig : 1000 < s.length
  · have hbig' : (1000 : Int) < (s.length : Int) := by omega
    have E : Hid (nfull s = false) := by show _ = _; unfold nfull; rw [decide_eq_false (by omega)]; rfl
    generalize strOfNums s = X at hsz
    go_enter Tryz.func85, Tryz.ntmps85
    go_wp2
    go_ret
    exact ⟨by rw [E.out]; rfl, Below.refl _ _⟩
  · have hbig' : ¬ (1000 : Int) < (s.length : Int) := by omega
    have E0 : Hid (nfull s = (nparts s).all nident) := by show _ = _; unfold nfull; rw [decide_eq_true (by omega)]; rfl
    have Q : Hid _ := rparts_any s w hz hlen
    have hnl : (nparts s).length ≤ s.length + 1 := nsp_len s []
    have HLs : Hid (∀ z ∈ nparts s, (z.length : Int) ≤ 100000) := fun z hzm => by
      have := nsp_each s [] z hzm
      simp at this
      omega
    generalize nparts s = zs at Q E0 hnl HLs
    generalize strOfNums s = X at hsz Q
    go_enter Tryz.func85, Tryz.ntmps85
    go_wp2_with fail
    refine Calls.mono Q.out ?_
    rintro e w1 ⟨v, rfl, hO, hb1⟩
    obtain ⟨a, c, rfl⟩ := hO.slice
    obtain ⟨_, _, h3, h4, h5, h6⟩ := Ss.of_own hO
    have H5 : Hid (∀ z ∈ zs, byts z) := h5
    have H6 : Hid _ := h6
    clear h5 h6 hO
    go_wp2
    go_loopw [11] (fun v wr => ∃ k : Nat, v = .int .i64 (k : Int) ∧ k ≤ zs.length ∧ Hid (∀ j z, j < k → zs[j]? = some z → nident z = true) ∧ w1 = wr) (fun v _ => zs.length - (intOf v).toNat)
    case atStart => exact ⟨0, rfl, by omega, fun j z hj => absurd hj (by omega), rfl⟩
    case round =>
      obtain ⟨k, rfl, hk, HJ, rfl⟩ := hrel
      by_cases hkl : k < zs.length
      · obtain ⟨b, off, rfl, hlt, hc⟩ := H6.out (by omega)
        obtain ⟨z, hz⟩ : ∃ z, zs[k]? = some z := ⟨zs[k]'hkl, List.getElem?_eq_getElem hkl⟩
        have hcell := hc k z hz
        unfold scell at hcell
        have hzm := List.mem_of_getElem? hz
        have q := fun W => rident_any z W (getD_bd (H5.out z hzm)) (by have := HLs.out z hzm; omega)
        by_cases hid : nident z = true
        · rw [hid] at q
          have Q2 : Hid _ := q
          have HJ2 : Hid (∀ j z, j < k + 1 → zs[j]? = some z → nident z = true) := fun j y hj hy => by
            by_cases e : j = k
            · rw [e, hz] at hy; rw [← Option.some.inj hy]; exact hid
            · exact HJ.out j y (by omega) hy
          generalize strOfNums z = Z at hcell Q2
          clear q HJ hz hid hc hzm
          go_wp2_with fail
          refine Calls.mono (Q2.out _) ?_
          rintro e w2 ⟨rfl, rfl⟩
          go_wp2
          go_roundw
          case rel => first | exact ⟨k + 1, by go_num, by omega, HJ2, by first | rfl | trivial⟩ | ((repeat apply Exists.intro); exact ⟨⟨k + 1, by go_num, by omega, HJ2, by first | rfl | trivial⟩, rfl⟩)
          case measure => simp [intOf]; omega
        · have hid' : nident z = false := by simpa using hid
          rw [hid'] at q
          have Q2 : Hid _ := q
          have E : Hid (nfull s = false) := by
            show _ = _
            rw [E0.out, List.all_eq_false]
            exact ⟨z, hzm, by rw [hid']; decide⟩
          generalize strOfNums z = Z at hcell Q2
          clear q HJ hz hid hid' hc hzm E0
          go_wp2_with fail
          refine Calls.mono (Q2.out _) ?_
          rintro e w2 ⟨rfl, rfl⟩
          go_wp2
          go_ret
          exact ⟨by rw [E.out]; rfl, hb1⟩
      · obtain rfl : k = zs.length := by omega
        have E : Hid (nfull s = true) := by
          show _ = _
          rw [E0.out, List.all_eq_true]
          intro z hzm
          obtain ⟨j, hj⟩ := List.getElem?_of_mem hzm
          exact HJ.out j z (List.getElem?_eq_some_iff.1 hj).1 hj
        clear HJ E0
        go_wp2
        go_ret
        exact ⟨by rw [E.out]; rfl, hb1⟩

end Go.Proofs.YtgkablmglkagfaaGreatDoor

/- The contracts of the reference's own ref, Type. -/
namespace Go.Proofs.YtgkablmglkagfaaGreatDoor
open Go.RowKit
set_option linter.unusedVariables false
set_option linter.unusedSimpArgs false

/-- A text's first sign: nothing, a point, another one. -/
theorem first_sign (s : List Int) (hz : ∀ i, 0 ≤ s.getD i 0 ∧ s.getD i 0 ≤ 255) (X : ByteArray) (hX : X = strOfNums s) :
    (s = [] ∧ (X.toList == []) = true) ∨ (s ≠ [] ∧ (X.toList == []) = false ∧ X.size = s.length ∧ 0 < s.length ∧ ∀ h : 0 < X.size, ((X[0]'h).toNat : Int) = s.getD 0 0) := by
  subst hX
  cases s with
  | nil => exact .inl ⟨rfl, by rw [str_list]; rfl⟩
  | cons c r => exact .inr ⟨by simp, str_ne c r, strOfNums_size _, by simp, fun h => str_at _ hz 0 h⟩

set_option maxHeartbeats 1000000 in
theorem rref_any (s : List Int) (w : World) (hz : Hid (∀ i, 0 ≤ s.getD i 0 ∧ s.getD i 0 ≤ 255)) (hlen : (s.length : Int) ≤ 100000) :
    Calls Tryz.prog 86 #[.string (strOfNums s)] w fun e w' => e = .returned (.bool (tref s)) ∧ Below w.heap.size w w' := by
  obtain ⟨X, hX⟩ : ∃ X, X = strOfNums s := ⟨_, rfl⟩
  by_cases h46 : s.getD 0 0 = 46
  · have hd : Hid (∀ i, 0 ≤ (s.drop 1).getD i 0 ∧ (s.drop 1).getD i 0 ≤ 255) := fun i => by rw [getD_drop']; exact hz.out _
    have q := fun W => rfull_any (s.drop 1) W hd (by rw [List.length_drop]; omega)
    have E : Hid (tref s = nfull (s.drop 1)) := by show _ = _; unfold tref; rw [if_pos h46]
    rcases first_sign s hz.out X hX with ⟨h0, _⟩ | ⟨h0, hne, hsz, hl, hat⟩
    · rw [h0] at h46; simp at h46
    have hat0 := hat (by omega)
    rw [h46] at hat0
    have h1 : ∀ W, (Instr.slice 9 (.string X) (some (.int .i64 1)) none none).run Tryz.prog W = .ok (.string (strOfNums (s.drop 1))) W := by subst hX; exact run_tail s 1 (by omega) _ rfl
    rw [← hX]
    generalize nfull (s.drop 1) = B at q E
    generalize strOfNums (s.drop 1) = T at q h1
    have Q : Hid _ := q
    clear q hX h0 h46 hat
    go_enter Tryz.func86, Tryz.ntmps86
    go_wp2_with fail
    refine Calls.mono (Q.out _) ?_
    rintro e w1 ⟨rfl, hb⟩
    go_wp2
    go_ret
    exact ⟨by rw [E.out]; rfl, hb⟩
  · have q := fun W => rfull_any s W hz hlen
    have E : Hid (tref s = nfull s) := by show _ = _; unfold tref; rw [if_neg h46]
    rw [← hX] at q ⊢
    generalize nfull s = B at q E
    have Q : Hid _ := q
    rcases first_sign s hz.out X hX with ⟨h0, hne⟩ | ⟨h0, hne, hsz, hl, hat⟩
    · clear q hX h0 h46
      go_enter Tryz.func86, Tryz.ntmps86
      go_wp2_with fail
      refine Calls.mono (Q.out _) ?_
      rintro e w1 ⟨rfl, hb⟩
      go_wp2
      go_ret
      exact ⟨by rw [E.out]; rfl, hb⟩
    · have hat0 := hat (by omega)
      generalize s.getD 0 0 = c0 at hat0 h46
      have e46 : (c0 == 46) = false := by simpa using h46
      clear q hX h0 h46 hat
      go_enter Tryz.func86, Tryz.ntmps86
      go_wp2_with fail
      refine Calls.mono (Q.out _) ?_
      rintro e w1 ⟨rfl, hb⟩
      go_wp2
      go_ret
      exact ⟨by rw [E.out]; rfl, hb⟩

theorem nsp_ne : ∀ (s cur : List Int), nsp cur s ≠ []
  | [], cur => by simp [nsp]
  | c :: r, cur => by
    rw [nsp]
    split
    · simp
    · exact nsp_ne r _

theorem nsp_byts : ∀ (s cur : List Int), byts s → byts cur → ∀ z ∈ nsp cur s, byts z
  | [], cur, _, hc, z, hm => by simp [nsp] at hm; rw [hm]; exact hc
  | c :: r, cur, hs, hc, z, hm => by
    have hr : byts r := fun x hx => hs x (List.mem_cons_of_mem _ hx)
    rw [nsp] at hm
    split at hm
    · rcases List.mem_cons.1 hm with h | h
      · rw [h]; exact hc
      · exact nsp_byts r [] hr (by intro x hx; simp at hx) z h
    · refine nsp_byts r _ hr ?_ z hm
      intro x hx
      rcases List.mem_append.1 hx with h | h
      · exact hc x h
      · simp at h; rw [h]; exact hs c (by simp)

set_option maxHeartbeats 2000000 in
theorem rtype_rest (s : List Int) (X : ByteArray) (hX : X = strOfNums s) (w : World) (hz : Hid (∀ i, 0 ≤ s.getD i 0 ∧ s.getD i 0 ≤ 255)) (hlen : (s.length : Int) ≤ 100000) (h46 : s.getD 0 0 ≠ 46)
    (hc : (X.toList == []) = true ∨ ∃ c0, (X.toList == []) = false ∧ (c0 == (46 : Int)) = false ∧ ∃ h : 0 < X.size, ((X[0]'h).toNat : Int) = c0) :
    Calls Tryz.prog 84 #[.string X] w fun e w' => e = .returned (.tuple #[.bool (ttype s).1, .bool (ttype s).2]) ∧ Below w.heap.size w w' := by
  have E0 : Hid (ttype s = if nword s ≠ 0 then (true, false) else (nfull s && !nkey ((nparts s).getD 0 []), true)) := by show _ = _; unfold ttype; rw [if_neg h46]
  have q1 := fun W => rword_any s W (mem_bd hz.out)
  have q2 := fun W => rfull_any s W hz hlen
  have q3 := fun W => rparts_any s W hz hlen
  have hne : nparts s ≠ [] := nsp_ne s []
  obtain ⟨z, hz0⟩ : ∃ z, (nparts s)[0]? = some z := by
    cases hp : nparts s with
    | nil => exact absurd hp hne
    | cons a b => exact ⟨a, rfl⟩
  have hgd : (nparts s).getD 0 [] = z := by rw [List.getD, hz0]; rfl
  rw [hgd] at E0
  have hzb : byts z := by
    have hm := List.mem_of_getElem? hz0
    exact nsp_byts s [] (mem_bd hz.out) (by intro c hc'; simp at hc') z hm
  have q4 := fun W => rkey_any z W hzb
  have hnl : 0 < (nparts s).length := List.length_pos_iff.2 hne
  have hnl2 : (nparts s).length ≤ s.length + 1 := nsp_len s []
  have HZ0 : Hid ((nparts s)[0]? = some z) := hz0
  rw [← hX] at q1 q2 q3
  generalize nparts s = ps at q3 HZ0 hnl hnl2
  generalize nfull s = F at q2 E0
  generalize nword s = N at q1 E0
  have Q1 : Hid _ := q1
  have Q2 : Hid _ := q2
  have Q3 : Hid _ := q3
  generalize nkey z = K at q4 E0
  have Q4 : Hid _ := q4
  clear q1 q2 q3 q4 hne hz0 hgd hX h46 hzb
  rcases hc with he | ⟨c0, he, hc46, hs0, hat⟩
  all_goals
    by_cases hN : N = 0
    · subst hN
      cases F with
      | false =>
        have E : Hid (ttype s = (false, true)) := by show _ = _; rw [E0.out]; simp
        clear E0
        go_enter Tryz.func84, Tryz.ntmps84
        go_wp2_with fail
        refine Calls.mono (Q1.out _) ?_
        rintro e w1 ⟨rfl, hb1⟩
        go_wp2_with fail
        refine Calls.mono (Q2.out _) ?_
        rintro e w2 ⟨rfl, hb2⟩
        go_wp2
        go_ret2
        exact ⟨by rw [E.out]; rfl, hb1.trans (hb2.mono hb1.size)⟩
      | true =>
        have E : Hid (ttype s = (!K, true)) := by show _ = _; rw [E0.out]; simp
        clear E0
        go_enter Tryz.func84, Tryz.ntmps84
        go_wp2_with fail
        refine Calls.mono (Q1.out _) ?_
        rintro e w1 ⟨rfl, hb1⟩
        go_wp2_with fail
        refine Calls.mono (Q2.out _) ?_
        rintro e w2 ⟨rfl, hb2⟩
        go_wp2_with fail
        refine Calls.mono (Q3.out _) ?_
        rintro e w3 ⟨v, rfl, hO, hb3⟩
        obtain ⟨a, c, rfl⟩ := hO.slice
        obtain ⟨_, _, h3, h4, h5, h6⟩ := Ss.of_own hO
        obtain ⟨b, off, rfl, hlt, hc⟩ := h6 hnl
        have hcell := hc 0 z HZ0.out
        unfold scell at hcell
        rw [Nat.add_zero] at hcell
        generalize strOfNums z = Z at hcell Q4
        clear h5 h6 hO hc
        go_wp2_with fail
        refine Calls.mono (Q4.out _) ?_
        rintro e w4 ⟨rfl, hb4⟩
        go_wp2
        go_ret2
        have b2 := hb1.trans (hb2.mono hb1.size)
        have b3 := b2.trans (hb3.mono b2.size)
        exact ⟨by rw [E.out]; cases K <;> rfl, b3.trans (hb4.mono b3.size)⟩
    · have E : Hid (ttype s = (true, false)) := by show _ = _; rw [E0.out, if_pos hN]
      have hN' : ¬ (N : Int) = 0 := by omega
      clear E0 hN
      go_enter Tryz.func84, Tryz.ntmps84
      go_wp2_with fail
      refine Calls.mono (Q1.out _) ?_
      rintro e w1 ⟨rfl, hb1⟩
      go_wp2
      go_ret2
      exact ⟨by rw [E.out]; rfl, hb1⟩

set_option maxHeartbeats 1000000 in
theorem rtype_any (s : List Int) (w : World) (hz : Hid (∀ i, 0 ≤ s.getD i 0 ∧ s.getD i 0 ≤ 255)) (hlen : (s.length : Int) ≤ 100000) :
    Calls Tryz.prog 84 #[.string (strOfNums s)] w fun e w' => e = .returned (.tuple #[.bool (ttype s).1, .bool (ttype s).2]) ∧ Below w.heap.size w w' := by
  obtain ⟨X, hX⟩ : ∃ X, X = strOfNums s := ⟨_, rfl⟩
  by_cases h46 : s.getD 0 0 = 46
  · have q := fun W => rref_any s W hz hlen
    have E : Hid (ttype s = (tref s, true)) := by show _ = _; unfold ttype; rw [if_pos h46]
    rcases first_sign s hz.out X hX with ⟨h0, _⟩ | ⟨h0, hne, hsz, hl, hat⟩
    · rw [h0] at h46; simp at h46
    have hat0 := hat (by omega)
    rw [h46] at hat0
    rw [← hX] at q ⊢
    generalize tref s = B at q E
    have Q : Hid _ := q
    clear q hX h0 h46 hat
    go_enter Tryz.func84, Tryz.ntmps84
    go_wp2_with fail
    refine Calls.mono (Q.out _) ?_
    rintro e w1 ⟨rfl, hb⟩
    go_wp2
    go_ret2
    exact ⟨by rw [E.out]; rfl, hb⟩
  · rw [← hX]
    refine rtype_rest s X hX w hz hlen h46 ?_
    rcases first_sign s hz.out X hX with ⟨h0, hne⟩ | ⟨h0, hne, hsz, hl, hat⟩
    · exact .inl hne
    · exact .inr ⟨s.getD 0 0, hne, by simpa using h46, by omega, hat (by omega)⟩

end Go.Proofs.YtgkablmglkagfaaGreatDoor

/- The contracts of the reference's own number, text. -/
namespace Go.Proofs.YtgkablmglkagfaaGreatDoor
open Go.RowKit
set_option linter.unusedVariables false
set_option linter.unusedSimpArgs false

def tnumber (kind n m : Int) : Bool :=
  if kind = 9 ∨ kind = 10 then decide (0 ≤ n ∧ n < 2147483648)
  else if kind = 14 then decide (0 ≤ n ∧ n < 2147483648 ∧ 0 ≤ m ∧ m < 2147483648)
  else if kind = 16 then decide (-2147483648 ≤ n ∧ n < 2147483648)
  else true

set_option maxHeartbeats 4000000 in
theorem rnumb_any (kind n m a pos : Int) (T1 T2 : ByteArray) (ad : Option Addr) (len cap : Nat) (w : World) (hk : i64b kind) (hn : i64b n) (hm : i64b m) :
    Calls Tryz.prog 70 #[.agg #[.int .i64 kind, .string T1, .int .i64 n, .int .i64 m, .int .i64 a, .int .i64 pos, .string T2, .slice ad len cap]] w fun e w' => e = .returned (.bool (tnumber kind n m)) ∧ Below w.heap.size w w' := by
  have HBA : Hid (Below w.heap.size w (w.alloc (.cells #[.int .i64 kind, .string T1, .int .i64 n, .int .i64 m, .int .i64 a, .int .i64 pos, .string T2, .slice ad len cap] 24))) := (Below.refl _ _).alloc (Nat.le_refl _) _
  obtain ⟨hk0, hk1⟩ := hk
  obtain ⟨hn0, hn1⟩ := hn
  obtain ⟨hm0, hm1⟩ := hm
  rcases (show kind = 9 ∨ kind = 10 ∨ kind = 14 ∨ kind = 16 ∨ (kind ≠ 9 ∧ kind ≠ 10 ∧ kind ≠ 14 ∧ kind ≠ 16) by omega) with rfl | rfl | rfl | rfl | ⟨n9, n10, n14, n16⟩
  · rcases (show n < 0 ∨ (0 ≤ n ∧ n < 2147483648) ∨ 2147483648 ≤ n by omega) with h | ⟨h0, h1⟩ | h
    · have E : Hid (tnumber 9 n m = false) := decide_eq_false (by omega)
      go_enter Tryz.func70, Tryz.ntmps70
      go_wp2
      go_ret
      exact ⟨by rw [E.out]; first | rfl | (simp <;> omega), HBA.out⟩
    · have E : Hid (tnumber 9 n m = true) := decide_eq_true (by omega)
      go_enter Tryz.func70, Tryz.ntmps70
      go_wp2
      go_ret
      exact ⟨by rw [E.out]; first | rfl | (simp <;> omega), HBA.out⟩
    · have E : Hid (tnumber 9 n m = false) := decide_eq_false (by omega)
      go_enter Tryz.func70, Tryz.ntmps70
      go_wp2
      go_ret
      exact ⟨by rw [E.out]; first | rfl | (simp <;> omega), HBA.out⟩
  · rcases (show n < 0 ∨ (0 ≤ n ∧ n < 2147483648) ∨ 2147483648 ≤ n by omega) with h | ⟨h0, h1⟩ | h
    · have E : Hid (tnumber 10 n m = false) := decide_eq_false (by omega)
      go_enter Tryz.func70, Tryz.ntmps70
      go_wp2
      go_ret
      exact ⟨by rw [E.out]; first | rfl | (simp <;> omega), HBA.out⟩
    · have E : Hid (tnumber 10 n m = true) := decide_eq_true (by omega)
      go_enter Tryz.func70, Tryz.ntmps70
      go_wp2
      go_ret
      exact ⟨by rw [E.out]; first | rfl | (simp <;> omega), HBA.out⟩
    · have E : Hid (tnumber 10 n m = false) := decide_eq_false (by omega)
      go_enter Tryz.func70, Tryz.ntmps70
      go_wp2
      go_ret
      exact ⟨by rw [E.out]; first | rfl | (simp <;> omega), HBA.out⟩
  · rcases (show n < 0 ∨ 2147483648 ≤ n ∨ (0 ≤ n ∧ n < 2147483648 ∧ m < 0) ∨ (0 ≤ n ∧ n < 2147483648 ∧ 2147483648 ≤ m) ∨ (0 ≤ n ∧ n < 2147483648 ∧ 0 ≤ m ∧ m < 2147483648) by omega) with h | h | ⟨h0, h1, h2⟩ | ⟨h0, h1, h2⟩ | ⟨h0, h1, h2, h3⟩
    · have E : Hid (tnumber 14 n m = false) := decide_eq_false (by omega)
      go_enter Tryz.func70, Tryz.ntmps70
      go_wp2
      go_ret
      exact ⟨by rw [E.out]; first | rfl | (simp <;> omega), HBA.out⟩
    · have E : Hid (tnumber 14 n m = false) := decide_eq_false (by omega)
      go_enter Tryz.func70, Tryz.ntmps70
      go_wp2
      go_ret
      exact ⟨by rw [E.out]; first | rfl | (simp <;> omega), HBA.out⟩
    · have E : Hid (tnumber 14 n m = false) := decide_eq_false (by omega)
      go_enter Tryz.func70, Tryz.ntmps70
      go_wp2
      go_ret
      exact ⟨by rw [E.out]; first | rfl | (simp <;> omega), HBA.out⟩
    · have E : Hid (tnumber 14 n m = false) := decide_eq_false (by omega)
      go_enter Tryz.func70, Tryz.ntmps70
      go_wp2
      go_ret
      exact ⟨by rw [E.out]; first | rfl | (simp <;> omega), HBA.out⟩
    · have E : Hid (tnumber 14 n m = true) := decide_eq_true (by omega)
      go_enter Tryz.func70, Tryz.ntmps70
      go_wp2
      go_ret
      exact ⟨by rw [E.out]; first | rfl | (simp <;> omega), HBA.out⟩
  · rcases (show n < -2147483648 ∨ (-2147483648 ≤ n ∧ n < 2147483648) ∨ 2147483648 ≤ n by omega) with h | ⟨h0, h1⟩ | h
    · have E : Hid (tnumber 16 n m = false) := decide_eq_false (by omega)
      go_enter Tryz.func70, Tryz.ntmps70
      go_wp2
      go_ret
      exact ⟨by rw [E.out]; first | rfl | (simp <;> omega), HBA.out⟩
    · have E : Hid (tnumber 16 n m = true) := decide_eq_true (by omega)
      go_enter Tryz.func70, Tryz.ntmps70
      go_wp2
      go_ret
      exact ⟨by rw [E.out]; first | rfl | (simp <;> omega), HBA.out⟩
    · have E : Hid (tnumber 16 n m = false) := decide_eq_false (by omega)
      go_enter Tryz.func70, Tryz.ntmps70
      go_wp2
      go_ret
      exact ⟨by rw [E.out]; first | rfl | (simp <;> omega), HBA.out⟩
  · have E : Hid (tnumber kind n m = true) := by show _ = _; unfold tnumber; rw [if_neg (by omega), if_neg n14, if_neg n16]
    go_enter Tryz.func70, Tryz.ntmps70
    go_wp2
    go_ret
    exact ⟨by rw [E.out]; first | rfl | (simp <;> omega), HBA.out⟩

def ttext (kind a : Int) (s : List Int) : Bool :=
  if kind = 1 then s == [] || (s == [112, 114, 111, 116, 111, 50] || s == [112, 114, 111, 116, 111, 51])
  else if kind = 2 then decide ((s.length : Int) ≤ 1000)
  else if kind = 3 then nfull s
  else if kind = 7 then (ttype s).1 && (ttype s).2
  else if kind = 18 then (ttype s).1
  else if kind = 20 then (tint s).2.2
  else if kind = 22 then decide ((s.length : Int) ≤ 10000)
  else if kind = 4 ∨ kind = 12 ∨ kind = 13 ∨ kind = 14 ∨ kind = 23 then s == []
  else if kind = 16 then nident s && (!(s == [111, 112, 116, 105, 111, 110]) && !(s == [114, 101, 115, 101, 114, 118, 101, 100]))
  else if (kind = 19 ∨ kind = 24) ∧ a = 1 then tref s
  else nident s

theorem str_is {s z : List Int} (h1 : byts s) (h2 : byts z) {L : List UInt8} (hL : L = z.map fun n => UInt8.ofNat n.toNat) : ((strOfNums s).toList == L) = (s == z) := by
  rw [hL, ← str_list z]
  exact str_eq h1 h2

set_option maxHeartbeats 8000000 in
theorem rtext_any (kind n m a pos : Int) (s : List Int) (T2 : ByteArray) (ad : Option Addr) (len cap : Nat) (w : World) (hk : i64b kind) (ha : i64b a) (hz : Hid (∀ i, 0 ≤ s.getD i 0 ∧ s.getD i 0 ≤ 255)) (hlen : (s.length : Int) ≤ 100000) :
    Calls Tryz.prog 69 #[.agg #[.int .i64 kind, .string (strOfNums s), .int .i64 n, .int .i64 m, .int .i64 a, .int .i64 pos, .string T2, .slice ad len cap]] w fun e w' => e = .returned (.bool (ttext kind a s)) ∧ Below w.heap.size w w' := by
  obtain ⟨X, hX⟩ : ∃ X, X = strOfNums s := ⟨_, rfl⟩
  have hs : byts s := mem_bd hz.out
  have s0 : (X.toList == []) = (s == []) := by rw [hX]; exact str_is hs (by intro c hc; simp at hc) rfl
  have s1 : (X.toList == [112, 114, 111, 116, 111, 50]) = (s == [112, 114, 111, 116, 111, 50]) := by rw [hX]; exact str_is hs (by unfold byts; decide) rfl
  have s2 : (X.toList == [112, 114, 111, 116, 111, 51]) = (s == [112, 114, 111, 116, 111, 51]) := by rw [hX]; exact str_is hs (by unfold byts; decide) rfl
  have s3 : (X.toList == [111, 112, 116, 105, 111, 110]) = (s == [111, 112, 116, 105, 111, 110]) := by rw [hX]; exact str_is hs (by unfold byts; decide) rfl
  have s4 : (X.toList == [114, 101, 115, 101, 114, 118, 101, 100]) = (s == [114, 101, 115, 101, 114, 118, 101, 100]) := by rw [hX]; exact str_is hs (by unfold byts; decide) rfl
  have hsz : X.size = s.length := by rw [hX]; exact strOfNums_size s
  have qi := fun W => rint_any s W hz (by omega)
  have qt := fun W => rtype_any s W hz hlen
  have qf := fun W => rfull_any s W hz hlen
  have qr := fun W => rref_any s W hz hlen
  have qd := fun W => rident_any s W hz (by omega)
  obtain ⟨RES, E0⟩ : ∃ R, R = ttext kind a s := ⟨_, rfl⟩
  rw [← E0]
  unfold ttext at E0
  rw [← hX] at qi qt qf qr qd ⊢
  have HBA : Hid (Below w.heap.size w (w.alloc (.cells #[.int .i64 kind, .string X, .int .i64 n, .int .i64 m, .int .i64 a, .int .i64 pos, .string T2, .slice ad len cap] 24))) := (Below.refl _ _).alloc (Nat.le_refl _) _
  generalize nfull s = F at qf E0
  generalize tref s = R at qr E0
  generalize nident s = D at qd E0
  generalize (s == []) = b0 at s0 E0
  generalize (s == [112, 114, 111, 116, 111, 50]) = b1 at s1 E0
  generalize (s == [112, 114, 111, 116, 111, 51]) = b2 at s2 E0
  generalize (s == [111, 112, 116, 105, 111, 110]) = b3 at s3 E0
  generalize (s == [114, 101, 115, 101, 114, 118, 101, 100]) = b4 at s4 E0
  generalize ttype s = TY at qt E0
  generalize tint s = TI at qi E0
  obtain ⟨ty1, ty2⟩ := TY
  obtain ⟨ti1, ti2, ti3⟩ := TI
  dsimp only at qt qi E0
  have QI : Hid _ := qi
  have QT : Hid _ := qt
  have QF : Hid _ := qf
  have QR : Hid _ := qr
  have QD : Hid _ := qd
  have EZ : Hid _ := E0
  clear qi qt qf qr qd hX E0
  obtain ⟨hk0, hk1⟩ := hk
  obtain ⟨ha0, ha1⟩ := ha
  rcases (show kind = 1 ∨ kind = 2 ∨ kind = 3 ∨ kind = 7 ∨ kind = 18 ∨ kind = 20 ∨ kind = 22 ∨ kind = 4 ∨ kind = 12 ∨ kind = 13 ∨ kind = 14 ∨ kind = 23 ∨ kind = 16 ∨ kind = 19 ∨ kind = 24 ∨ (kind ≠ 1 ∧ kind ≠ 2 ∧ kind ≠ 3 ∧ kind ≠ 7 ∧ kind ≠ 18 ∧ kind ≠ 20 ∧ kind ≠ 22 ∧ kind ≠ 4 ∧ kind ≠ 12 ∧ kind ≠ 13 ∧ kind ≠ 14 ∧ kind ≠ 23 ∧ kind ≠ 16 ∧ kind ≠ 19 ∧ kind ≠ 24) by omega) with rfl | rfl | rfl | rfl | rfl | rfl | rfl | rfl | rfl | rfl | rfl | rfl | rfl | rfl | rfl | ⟨n1, n2, n3, n7, n18, n20, n22, n4, n12, n13, n14, n23, n16, n19, n24⟩
  · cases b0
    · cases b1
      · cases b2
        · have E : Hid (RES = false) := by show _ = _; rw [EZ.out]; simp
          clear EZ
          go_enter Tryz.func69, Tryz.ntmps69
          go_wp2_with fail
          refine Calls.mono (QI.out _) ?_
          rintro e w1 ⟨rfl, hb1⟩
          have o1 := own_cells hb1 1 _ rfl
          go_wp2_with fail
          refine Calls.mono (QT.out _) ?_
          rintro e w2 ⟨rfl, hb2⟩
          have hb12 := hb1.trans (hb2.mono hb1.size)
          have p0 := own_cells hb12 0 _ rfl
          have p1 := own_cells hb12 1 _ rfl
          have p4 := own_cells hb12 4 _ rfl
          have HB1 : Hid _ := hb1
          have HB2 : Hid _ := hb2
          clear o1 hb12 hb1 hb2
          go_wp2
          go_ret
          have b2 := (HBA.out.trans (HB1.out.mono HBA.out.size)).trans (HB2.out.mono (HBA.out.trans (HB1.out.mono HBA.out.size)).size)
          exact ⟨by rw [E.out]; first | rfl | (simp <;> omega), b2⟩
        · have E : Hid (RES = true) := by show _ = _; rw [EZ.out]; simp
          clear EZ
          go_enter Tryz.func69, Tryz.ntmps69
          go_wp2_with fail
          refine Calls.mono (QI.out _) ?_
          rintro e w1 ⟨rfl, hb1⟩
          have o1 := own_cells hb1 1 _ rfl
          go_wp2_with fail
          refine Calls.mono (QT.out _) ?_
          rintro e w2 ⟨rfl, hb2⟩
          have hb12 := hb1.trans (hb2.mono hb1.size)
          have p0 := own_cells hb12 0 _ rfl
          have p1 := own_cells hb12 1 _ rfl
          have p4 := own_cells hb12 4 _ rfl
          have HB1 : Hid _ := hb1
          have HB2 : Hid _ := hb2
          clear o1 hb12 hb1 hb2
          go_wp2
          go_ret
          have b2 := (HBA.out.trans (HB1.out.mono HBA.out.size)).trans (HB2.out.mono (HBA.out.trans (HB1.out.mono HBA.out.size)).size)
          exact ⟨by rw [E.out]; first | rfl | (simp <;> omega), b2⟩
      · have E : Hid (RES = true) := by show _ = _; rw [EZ.out]; simp
        clear EZ
        go_enter Tryz.func69, Tryz.ntmps69
        go_wp2_with fail
        refine Calls.mono (QI.out _) ?_
        rintro e w1 ⟨rfl, hb1⟩
        have o1 := own_cells hb1 1 _ rfl
        go_wp2_with fail
        refine Calls.mono (QT.out _) ?_
        rintro e w2 ⟨rfl, hb2⟩
        have hb12 := hb1.trans (hb2.mono hb1.size)
        have p0 := own_cells hb12 0 _ rfl
        have p1 := own_cells hb12 1 _ rfl
        have p4 := own_cells hb12 4 _ rfl
        have HB1 : Hid _ := hb1
        have HB2 : Hid _ := hb2
        clear o1 hb12 hb1 hb2
        go_wp2
        go_ret
        have b2 := (HBA.out.trans (HB1.out.mono HBA.out.size)).trans (HB2.out.mono (HBA.out.trans (HB1.out.mono HBA.out.size)).size)
        exact ⟨by rw [E.out]; first | rfl | (simp <;> omega), b2⟩
    · have E : Hid (RES = true) := by show _ = _; rw [EZ.out]; simp
      clear EZ
      go_enter Tryz.func69, Tryz.ntmps69
      go_wp2_with fail
      refine Calls.mono (QI.out _) ?_
      rintro e w1 ⟨rfl, hb1⟩
      have o1 := own_cells hb1 1 _ rfl
      go_wp2_with fail
      refine Calls.mono (QT.out _) ?_
      rintro e w2 ⟨rfl, hb2⟩
      have hb12 := hb1.trans (hb2.mono hb1.size)
      have p0 := own_cells hb12 0 _ rfl
      have p1 := own_cells hb12 1 _ rfl
      have p4 := own_cells hb12 4 _ rfl
      have HB1 : Hid _ := hb1
      have HB2 : Hid _ := hb2
      clear o1 hb12 hb1 hb2
      go_wp2
      go_ret
      have b2 := (HBA.out.trans (HB1.out.mono HBA.out.size)).trans (HB2.out.mono (HBA.out.trans (HB1.out.mono HBA.out.size)).size)
      exact ⟨by rw [E.out]; first | rfl | (simp <;> omega), b2⟩
  · by_cases hL : (s.length : Int) ≤ 1000
    · have E : Hid (RES = true) := by show _ = _; rw [EZ.out]; simp; omega
      clear EZ
      go_enter Tryz.func69, Tryz.ntmps69
      go_wp2_with fail
      refine Calls.mono (QI.out _) ?_
      rintro e w1 ⟨rfl, hb1⟩
      have o1 := own_cells hb1 1 _ rfl
      go_wp2_with fail
      refine Calls.mono (QT.out _) ?_
      rintro e w2 ⟨rfl, hb2⟩
      have hb12 := hb1.trans (hb2.mono hb1.size)
      have p0 := own_cells hb12 0 _ rfl
      have p1 := own_cells hb12 1 _ rfl
      have p4 := own_cells hb12 4 _ rfl
      have HB1 : Hid _ := hb1
      have HB2 : Hid _ := hb2
      clear o1 hb12 hb1 hb2
      go_wp2
      go_ret
      have b2 := (HBA.out.trans (HB1.out.mono HBA.out.size)).trans (HB2.out.mono (HBA.out.trans (HB1.out.mono HBA.out.size)).size)
      exact ⟨by rw [E.out]; first | rfl | (simp <;> omega), b2⟩
    · have E : Hid (RES = false) := by show _ = _; rw [EZ.out]; simp; omega
      clear EZ
      go_enter Tryz.func69, Tryz.ntmps69
      go_wp2_with fail
      refine Calls.mono (QI.out _) ?_
      rintro e w1 ⟨rfl, hb1⟩
      have o1 := own_cells hb1 1 _ rfl
      go_wp2_with fail
      refine Calls.mono (QT.out _) ?_
      rintro e w2 ⟨rfl, hb2⟩
      have hb12 := hb1.trans (hb2.mono hb1.size)
      have p0 := own_cells hb12 0 _ rfl
      have p1 := own_cells hb12 1 _ rfl
      have p4 := own_cells hb12 4 _ rfl
      have HB1 : Hid _ := hb1
      have HB2 : Hid _ := hb2
      clear o1 hb12 hb1 hb2
      go_wp2
      go_ret
      have b2 := (HBA.out.trans (HB1.out.mono HBA.out.size)).trans (HB2.out.mono (HBA.out.trans (HB1.out.mono HBA.out.size)).size)
      exact ⟨by rw [E.out]; first | rfl | (simp <;> omega), b2⟩
  · have E : Hid (RES = F) := by show _ = _; rw [EZ.out]; simp
    clear EZ
    go_enter Tryz.func69, Tryz.ntmps69
    go_wp2_with fail
    refine Calls.mono (QI.out _) ?_
    rintro e w1 ⟨rfl, hb1⟩
    have o1 := own_cells hb1 1 _ rfl
    go_wp2_with fail
    refine Calls.mono (QT.out _) ?_
    rintro e w2 ⟨rfl, hb2⟩
    have hb12 := hb1.trans (hb2.mono hb1.size)
    have p0 := own_cells hb12 0 _ rfl
    have p1 := own_cells hb12 1 _ rfl
    have p4 := own_cells hb12 4 _ rfl
    have HB1 : Hid _ := hb1
    have HB2 : Hid _ := hb2
    clear o1 hb12 hb1 hb2
    go_wp2_with fail
    refine Calls.mono (QF.out _) ?_
    rintro e w3 ⟨rfl, hb3⟩
    go_wp2
    go_ret
    have b2 := (HBA.out.trans (HB1.out.mono HBA.out.size)).trans (HB2.out.mono (HBA.out.trans (HB1.out.mono HBA.out.size)).size)
    exact ⟨by rw [E.out]; first | rfl | (simp <;> omega), b2.trans (hb3.mono b2.size)⟩
  · cases ty1
    · have E : Hid (RES = false) := by show _ = _; rw [EZ.out]; simp
      clear EZ
      go_enter Tryz.func69, Tryz.ntmps69
      go_wp2_with fail
      refine Calls.mono (QI.out _) ?_
      rintro e w1 ⟨rfl, hb1⟩
      have o1 := own_cells hb1 1 _ rfl
      go_wp2_with fail
      refine Calls.mono (QT.out _) ?_
      rintro e w2 ⟨rfl, hb2⟩
      have hb12 := hb1.trans (hb2.mono hb1.size)
      have p0 := own_cells hb12 0 _ rfl
      have p1 := own_cells hb12 1 _ rfl
      have p4 := own_cells hb12 4 _ rfl
      have HB1 : Hid _ := hb1
      have HB2 : Hid _ := hb2
      clear o1 hb12 hb1 hb2
      go_wp2
      go_ret
      have b2 := (HBA.out.trans (HB1.out.mono HBA.out.size)).trans (HB2.out.mono (HBA.out.trans (HB1.out.mono HBA.out.size)).size)
      exact ⟨by rw [E.out]; first | rfl | (simp <;> omega), b2⟩
    · have E : Hid (RES = ty2) := by show _ = _; rw [EZ.out]; simp
      clear EZ
      go_enter Tryz.func69, Tryz.ntmps69
      go_wp2_with fail
      refine Calls.mono (QI.out _) ?_
      rintro e w1 ⟨rfl, hb1⟩
      have o1 := own_cells hb1 1 _ rfl
      go_wp2_with fail
      refine Calls.mono (QT.out _) ?_
      rintro e w2 ⟨rfl, hb2⟩
      have hb12 := hb1.trans (hb2.mono hb1.size)
      have p0 := own_cells hb12 0 _ rfl
      have p1 := own_cells hb12 1 _ rfl
      have p4 := own_cells hb12 4 _ rfl
      have HB1 : Hid _ := hb1
      have HB2 : Hid _ := hb2
      clear o1 hb12 hb1 hb2
      go_wp2
      go_ret
      have b2 := (HBA.out.trans (HB1.out.mono HBA.out.size)).trans (HB2.out.mono (HBA.out.trans (HB1.out.mono HBA.out.size)).size)
      exact ⟨by rw [E.out]; first | rfl | (simp <;> omega), b2⟩
  · have E : Hid (RES = ty1) := by show _ = _; rw [EZ.out]; simp
    clear EZ
    go_enter Tryz.func69, Tryz.ntmps69
    go_wp2_with fail
    refine Calls.mono (QI.out _) ?_
    rintro e w1 ⟨rfl, hb1⟩
    have o1 := own_cells hb1 1 _ rfl
    go_wp2_with fail
    refine Calls.mono (QT.out _) ?_
    rintro e w2 ⟨rfl, hb2⟩
    have hb12 := hb1.trans (hb2.mono hb1.size)
    have p0 := own_cells hb12 0 _ rfl
    have p1 := own_cells hb12 1 _ rfl
    have p4 := own_cells hb12 4 _ rfl
    have HB1 : Hid _ := hb1
    have HB2 : Hid _ := hb2
    clear o1 hb12 hb1 hb2
    go_wp2
    go_ret
    have b2 := (HBA.out.trans (HB1.out.mono HBA.out.size)).trans (HB2.out.mono (HBA.out.trans (HB1.out.mono HBA.out.size)).size)
    exact ⟨by rw [E.out]; first | rfl | (simp <;> omega), b2⟩
  · have E : Hid (RES = ti3) := by show _ = _; rw [EZ.out]; simp
    clear EZ
    go_enter Tryz.func69, Tryz.ntmps69
    go_wp2_with fail
    refine Calls.mono (QI.out _) ?_
    rintro e w1 ⟨rfl, hb1⟩
    have o1 := own_cells hb1 1 _ rfl
    go_wp2_with fail
    refine Calls.mono (QT.out _) ?_
    rintro e w2 ⟨rfl, hb2⟩
    have hb12 := hb1.trans (hb2.mono hb1.size)
    have p0 := own_cells hb12 0 _ rfl
    have p1 := own_cells hb12 1 _ rfl
    have p4 := own_cells hb12 4 _ rfl
    have HB1 : Hid _ := hb1
    have HB2 : Hid _ := hb2
    clear o1 hb12 hb1 hb2
    go_wp2
    go_ret
    have b2 := (HBA.out.trans (HB1.out.mono HBA.out.size)).trans (HB2.out.mono (HBA.out.trans (HB1.out.mono HBA.out.size)).size)
    exact ⟨by rw [E.out]; first | rfl | (simp <;> omega), b2⟩
  · by_cases hL : (s.length : Int) ≤ 10000
    · have E : Hid (RES = true) := by show _ = _; rw [EZ.out]; simp; omega
      clear EZ
      go_enter Tryz.func69, Tryz.ntmps69
      go_wp2_with fail
      refine Calls.mono (QI.out _) ?_
      rintro e w1 ⟨rfl, hb1⟩
      have o1 := own_cells hb1 1 _ rfl
      go_wp2_with fail
      refine Calls.mono (QT.out _) ?_
      rintro e w2 ⟨rfl, hb2⟩
      have hb12 := hb1.trans (hb2.mono hb1.size)
      have p0 := own_cells hb12 0 _ rfl
      have p1 := own_cells hb12 1 _ rfl
      have p4 := own_cells hb12 4 _ rfl
      have HB1 : Hid _ := hb1
      have HB2 : Hid _ := hb2
      clear o1 hb12 hb1 hb2
      go_wp2
      go_ret
      have b2 := (HBA.out.trans (HB1.out.mono HBA.out.size)).trans (HB2.out.mono (HBA.out.trans (HB1.out.mono HBA.out.size)).size)
      exact ⟨by rw [E.out]; first | rfl | (simp <;> omega), b2⟩
    · have E : Hid (RES = false) := by show _ = _; rw [EZ.out]; simp; omega
      clear EZ
      go_enter Tryz.func69, Tryz.ntmps69
      go_wp2_with fail
      refine Calls.mono (QI.out _) ?_
      rintro e w1 ⟨rfl, hb1⟩
      have o1 := own_cells hb1 1 _ rfl
      go_wp2_with fail
      refine Calls.mono (QT.out _) ?_
      rintro e w2 ⟨rfl, hb2⟩
      have hb12 := hb1.trans (hb2.mono hb1.size)
      have p0 := own_cells hb12 0 _ rfl
      have p1 := own_cells hb12 1 _ rfl
      have p4 := own_cells hb12 4 _ rfl
      have HB1 : Hid _ := hb1
      have HB2 : Hid _ := hb2
      clear o1 hb12 hb1 hb2
      go_wp2
      go_ret
      have b2 := (HBA.out.trans (HB1.out.mono HBA.out.size)).trans (HB2.out.mono (HBA.out.trans (HB1.out.mono HBA.out.size)).size)
      exact ⟨by rw [E.out]; first | rfl | (simp <;> omega), b2⟩
  · have E : Hid (RES = b0) := by show _ = _; rw [EZ.out]; simp
    clear EZ
    go_enter Tryz.func69, Tryz.ntmps69
    go_wp2_with fail
    refine Calls.mono (QI.out _) ?_
    rintro e w1 ⟨rfl, hb1⟩
    have o1 := own_cells hb1 1 _ rfl
    go_wp2_with fail
    refine Calls.mono (QT.out _) ?_
    rintro e w2 ⟨rfl, hb2⟩
    have hb12 := hb1.trans (hb2.mono hb1.size)
    have p0 := own_cells hb12 0 _ rfl
    have p1 := own_cells hb12 1 _ rfl
    have p4 := own_cells hb12 4 _ rfl
    have HB1 : Hid _ := hb1
    have HB2 : Hid _ := hb2
    clear o1 hb12 hb1 hb2
    go_wp2
    go_ret
    have b2 := (HBA.out.trans (HB1.out.mono HBA.out.size)).trans (HB2.out.mono (HBA.out.trans (HB1.out.mono HBA.out.size)).size)
    exact ⟨by rw [E.out]; first | rfl | (simp [s0]) | (simp <;> omega), b2⟩
  · have E : Hid (RES = b0) := by show _ = _; rw [EZ.out]; simp
    clear EZ
    go_enter Tryz.func69, Tryz.ntmps69
    go_wp2_with fail
    refine Calls.mono (QI.out _) ?_
    rintro e w1 ⟨rfl, hb1⟩
    have o1 := own_cells hb1 1 _ rfl
    go_wp2_with fail
    refine Calls.mono (QT.out _) ?_
    rintro e w2 ⟨rfl, hb2⟩
    have hb12 := hb1.trans (hb2.mono hb1.size)
    have p0 := own_cells hb12 0 _ rfl
    have p1 := own_cells hb12 1 _ rfl
    have p4 := own_cells hb12 4 _ rfl
    have HB1 : Hid _ := hb1
    have HB2 : Hid _ := hb2
    clear o1 hb12 hb1 hb2
    go_wp2
    go_ret
    have b2 := (HBA.out.trans (HB1.out.mono HBA.out.size)).trans (HB2.out.mono (HBA.out.trans (HB1.out.mono HBA.out.size)).size)
    exact ⟨by rw [E.out]; first | rfl | (simp [s0]) | (simp <;> omega), b2⟩
  · have E : Hid (RES = b0) := by show _ = _; rw [EZ.out]; simp
    clear EZ
    go_enter Tryz.func69, Tryz.ntmps69
    go_wp2_with fail
    refine Calls.mono (QI.out _) ?_
    rintro e w1 ⟨rfl, hb1⟩
    have o1 := own_cells hb1 1 _ rfl
    go_wp2_with fail
    refine Calls.mono (QT.out _) ?_
    rintro e w2 ⟨rfl, hb2⟩
    have hb12 := hb1.trans (hb2.mono hb1.size)
    have p0 := own_cells hb12 0 _ rfl
    have p1 := own_cells hb12 1 _ rfl
    have p4 := own_cells hb12 4 _ rfl
    have HB1 : Hid _ := hb1
    have HB2 : Hid _ := hb2
    clear o1 hb12 hb1 hb2
    go_wp2
    go_ret
    have b2 := (HBA.out.trans (HB1.out.mono HBA.out.size)).trans (HB2.out.mono (HBA.out.trans (HB1.out.mono HBA.out.size)).size)
    exact ⟨by rw [E.out]; first | rfl | (simp [s0]) | (simp <;> omega), b2⟩
  · have E : Hid (RES = b0) := by show _ = _; rw [EZ.out]; simp
    clear EZ
    go_enter Tryz.func69, Tryz.ntmps69
    go_wp2_with fail
    refine Calls.mono (QI.out _) ?_
    rintro e w1 ⟨rfl, hb1⟩
    have o1 := own_cells hb1 1 _ rfl
    go_wp2_with fail
    refine Calls.mono (QT.out _) ?_
    rintro e w2 ⟨rfl, hb2⟩
    have hb12 := hb1.trans (hb2.mono hb1.size)
    have p0 := own_cells hb12 0 _ rfl
    have p1 := own_cells hb12 1 _ rfl
    have p4 := own_cells hb12 4 _ rfl
    have HB1 : Hid _ := hb1
    have HB2 : Hid _ := hb2
    clear o1 hb12 hb1 hb2
    go_wp2
    go_ret
    have b2 := (HBA.out.trans (HB1.out.mono HBA.out.size)).trans (HB2.out.mono (HBA.out.trans (HB1.out.mono HBA.out.size)).size)
    exact ⟨by rw [E.out]; first | rfl | (simp [s0]) | (simp <;> omega), b2⟩
  · have E : Hid (RES = b0) := by show _ = _; rw [EZ.out]; simp
    clear EZ
    go_enter Tryz.func69, Tryz.ntmps69
    go_wp2_with fail
    refine Calls.mono (QI.out _) ?_
    rintro e w1 ⟨rfl, hb1⟩
    have o1 := own_cells hb1 1 _ rfl
    go_wp2_with fail
    refine Calls.mono (QT.out _) ?_
    rintro e w2 ⟨rfl, hb2⟩
    have hb12 := hb1.trans (hb2.mono hb1.size)
    have p0 := own_cells hb12 0 _ rfl
    have p1 := own_cells hb12 1 _ rfl
    have p4 := own_cells hb12 4 _ rfl
    have HB1 : Hid _ := hb1
    have HB2 : Hid _ := hb2
    clear o1 hb12 hb1 hb2
    go_wp2
    go_ret
    have b2 := (HBA.out.trans (HB1.out.mono HBA.out.size)).trans (HB2.out.mono (HBA.out.trans (HB1.out.mono HBA.out.size)).size)
    exact ⟨by rw [E.out]; first | rfl | (simp [s0]) | (simp <;> omega), b2⟩
  · cases D
    · have E : Hid (RES = false) := by show _ = _; rw [EZ.out]; simp
      clear EZ
      go_enter Tryz.func69, Tryz.ntmps69
      go_wp2_with fail
      refine Calls.mono (QI.out _) ?_
      rintro e w1 ⟨rfl, hb1⟩
      have o1 := own_cells hb1 1 _ rfl
      go_wp2_with fail
      refine Calls.mono (QT.out _) ?_
      rintro e w2 ⟨rfl, hb2⟩
      have hb12 := hb1.trans (hb2.mono hb1.size)
      have p0 := own_cells hb12 0 _ rfl
      have p1 := own_cells hb12 1 _ rfl
      have p4 := own_cells hb12 4 _ rfl
      have HB1 : Hid _ := hb1
      have HB2 : Hid _ := hb2
      clear o1 hb12 hb1 hb2
      go_wp2_with fail
      refine Calls.mono (QD.out _) ?_
      rintro e w3 ⟨rfl, rfl⟩
      go_wp2
      go_ret
      have b2 := (HBA.out.trans (HB1.out.mono HBA.out.size)).trans (HB2.out.mono (HBA.out.trans (HB1.out.mono HBA.out.size)).size)
      exact ⟨by rw [E.out]; first | rfl | (simp <;> omega), b2⟩
    · cases b3
      · have E : Hid (RES = !b4) := by show _ = _; rw [EZ.out]; simp
        clear EZ
        go_enter Tryz.func69, Tryz.ntmps69
        go_wp2_with fail
        refine Calls.mono (QI.out _) ?_
        rintro e w1 ⟨rfl, hb1⟩
        have o1 := own_cells hb1 1 _ rfl
        go_wp2_with fail
        refine Calls.mono (QT.out _) ?_
        rintro e w2 ⟨rfl, hb2⟩
        have hb12 := hb1.trans (hb2.mono hb1.size)
        have p0 := own_cells hb12 0 _ rfl
        have p1 := own_cells hb12 1 _ rfl
        have p4 := own_cells hb12 4 _ rfl
        have HB1 : Hid _ := hb1
        have HB2 : Hid _ := hb2
        clear o1 hb12 hb1 hb2
        go_wp2_with fail
        refine Calls.mono (QD.out _) ?_
        rintro e w3 ⟨rfl, rfl⟩
        go_wp2
        go_ret
        have b2 := (HBA.out.trans (HB1.out.mono HBA.out.size)).trans (HB2.out.mono (HBA.out.trans (HB1.out.mono HBA.out.size)).size)
        exact ⟨by rw [E.out]; first | rfl | (simp [s4]) | (simp <;> omega), b2⟩
      · have E : Hid (RES = false) := by show _ = _; rw [EZ.out]; simp
        clear EZ
        go_enter Tryz.func69, Tryz.ntmps69
        go_wp2_with fail
        refine Calls.mono (QI.out _) ?_
        rintro e w1 ⟨rfl, hb1⟩
        have o1 := own_cells hb1 1 _ rfl
        go_wp2_with fail
        refine Calls.mono (QT.out _) ?_
        rintro e w2 ⟨rfl, hb2⟩
        have hb12 := hb1.trans (hb2.mono hb1.size)
        have p0 := own_cells hb12 0 _ rfl
        have p1 := own_cells hb12 1 _ rfl
        have p4 := own_cells hb12 4 _ rfl
        have HB1 : Hid _ := hb1
        have HB2 : Hid _ := hb2
        clear o1 hb12 hb1 hb2
        go_wp2_with fail
        refine Calls.mono (QD.out _) ?_
        rintro e w3 ⟨rfl, rfl⟩
        go_wp2
        go_ret
        have b2 := (HBA.out.trans (HB1.out.mono HBA.out.size)).trans (HB2.out.mono (HBA.out.trans (HB1.out.mono HBA.out.size)).size)
        exact ⟨by rw [E.out]; first | rfl | (simp <;> omega), b2⟩
  · by_cases h1 : a = 1
    · subst h1
      have E : Hid (RES = R) := by show _ = _; rw [EZ.out]; simp
      clear EZ
      go_enter Tryz.func69, Tryz.ntmps69
      go_wp2_with fail
      refine Calls.mono (QI.out _) ?_
      rintro e w1 ⟨rfl, hb1⟩
      have o1 := own_cells hb1 1 _ rfl
      go_wp2_with fail
      refine Calls.mono (QT.out _) ?_
      rintro e w2 ⟨rfl, hb2⟩
      have hb12 := hb1.trans (hb2.mono hb1.size)
      have p0 := own_cells hb12 0 _ rfl
      have p1 := own_cells hb12 1 _ rfl
      have p4 := own_cells hb12 4 _ rfl
      have HB1 : Hid _ := hb1
      have HB2 : Hid _ := hb2
      clear o1 hb12 hb1 hb2
      go_wp2_with fail
      refine Calls.mono (QR.out _) ?_
      rintro e w3 ⟨rfl, hb3⟩
      go_wp2
      go_ret
      have b2 := (HBA.out.trans (HB1.out.mono HBA.out.size)).trans (HB2.out.mono (HBA.out.trans (HB1.out.mono HBA.out.size)).size)
      exact ⟨by rw [E.out]; first | rfl | (simp <;> omega), b2.trans (hb3.mono b2.size)⟩
    · have E : Hid (RES = D) := by show _ = _; rw [EZ.out]; simp [h1]
      clear EZ
      go_enter Tryz.func69, Tryz.ntmps69
      go_wp2_with fail
      refine Calls.mono (QI.out _) ?_
      rintro e w1 ⟨rfl, hb1⟩
      have o1 := own_cells hb1 1 _ rfl
      go_wp2_with fail
      refine Calls.mono (QT.out _) ?_
      rintro e w2 ⟨rfl, hb2⟩
      have hb12 := hb1.trans (hb2.mono hb1.size)
      have p0 := own_cells hb12 0 _ rfl
      have p1 := own_cells hb12 1 _ rfl
      have p4 := own_cells hb12 4 _ rfl
      have HB1 : Hid _ := hb1
      have HB2 : Hid _ := hb2
      clear o1 hb12 hb1 hb2
      go_wp2_with fail
      refine Calls.mono (QD.out _) ?_
      rintro e w3 ⟨rfl, rfl⟩
      go_wp2
      go_ret
      have b2 := (HBA.out.trans (HB1.out.mono HBA.out.size)).trans (HB2.out.mono (HBA.out.trans (HB1.out.mono HBA.out.size)).size)
      exact ⟨by rw [E.out]; first | rfl | (simp <;> omega), b2⟩
  · by_cases h1 : a = 1
    · subst h1
      have E : Hid (RES = R) := by show _ = _; rw [EZ.out]; simp
      clear EZ
      go_enter Tryz.func69, Tryz.ntmps69
      go_wp2_with fail
      refine Calls.mono (QI.out _) ?_
      rintro e w1 ⟨rfl, hb1⟩
      have o1 := own_cells hb1 1 _ rfl
      go_wp2_with fail
      refine Calls.mono (QT.out _) ?_
      rintro e w2 ⟨rfl, hb2⟩
      have hb12 := hb1.trans (hb2.mono hb1.size)
      have p0 := own_cells hb12 0 _ rfl
      have p1 := own_cells hb12 1 _ rfl
      have p4 := own_cells hb12 4 _ rfl
      have HB1 : Hid _ := hb1
      have HB2 : Hid _ := hb2
      clear o1 hb12 hb1 hb2
      go_wp2_with fail
      refine Calls.mono (QR.out _) ?_
      rintro e w3 ⟨rfl, hb3⟩
      go_wp2
      go_ret
      have b2 := (HBA.out.trans (HB1.out.mono HBA.out.size)).trans (HB2.out.mono (HBA.out.trans (HB1.out.mono HBA.out.size)).size)
      exact ⟨by rw [E.out]; first | rfl | (simp <;> omega), b2.trans (hb3.mono b2.size)⟩
    · have E : Hid (RES = D) := by show _ = _; rw [EZ.out]; simp [h1]
      clear EZ
      go_enter Tryz.func69, Tryz.ntmps69
      go_wp2_with fail
      refine Calls.mono (QI.out _) ?_
      rintro e w1 ⟨rfl, hb1⟩
      have o1 := own_cells hb1 1 _ rfl
      go_wp2_with fail
      refine Calls.mono (QT.out _) ?_
      rintro e w2 ⟨rfl, hb2⟩
      have hb12 := hb1.trans (hb2.mono hb1.size)
      have p0 := own_cells hb12 0 _ rfl
      have p1 := own_cells hb12 1 _ rfl
      have p4 := own_cells hb12 4 _ rfl
      have HB1 : Hid _ := hb1
      have HB2 : Hid _ := hb2
      clear o1 hb12 hb1 hb2
      go_wp2_with fail
      refine Calls.mono (QD.out _) ?_
      rintro e w3 ⟨rfl, rfl⟩
      go_wp2
      go_ret
      have b2 := (HBA.out.trans (HB1.out.mono HBA.out.size)).trans (HB2.out.mono (HBA.out.trans (HB1.out.mono HBA.out.size)).size)
      exact ⟨by rw [E.out]; first | rfl | (simp <;> omega), b2⟩
  · have E : Hid (RES = D) := by show _ = _; rw [EZ.out, if_neg n1, if_neg n2, if_neg n3, if_neg n7, if_neg n18, if_neg n20, if_neg n22, if_neg (by omega), if_neg n16, if_neg (by omega)]
    clear EZ
    go_enter Tryz.func69, Tryz.ntmps69
    go_wp2_with fail
    refine Calls.mono (QI.out _) ?_
    rintro e w1 ⟨rfl, hb1⟩
    have o1 := own_cells hb1 1 _ rfl
    go_wp2_with fail
    refine Calls.mono (QT.out _) ?_
    rintro e w2 ⟨rfl, hb2⟩
    have hb12 := hb1.trans (hb2.mono hb1.size)
    have p0 := own_cells hb12 0 _ rfl
    have p1 := own_cells hb12 1 _ rfl
    have p4 := own_cells hb12 4 _ rfl
    have HB1 : Hid _ := hb1
    have HB2 : Hid _ := hb2
    clear o1 hb12 hb1 hb2
    go_wp2_with fail
    refine Calls.mono (QD.out _) ?_
    rintro e w3 ⟨rfl, rfl⟩
    go_wp2
    go_ret
    have b2 := (HBA.out.trans (HB1.out.mono HBA.out.size)).trans (HB2.out.mono (HBA.out.trans (HB1.out.mono HBA.out.size)).size)
    exact ⟨by rw [E.out]; first | rfl | (simp <;> omega), b2⟩

end Go.Proofs.YtgkablmglkagfaaGreatDoor
