/- The contracts of the reference's own Parts, Full. -/
import Derived.Test.YtmpdgdjjjgnpiaaNStr
namespace Go.Proofs.Ytmpdgdjjjgnpiaa
open Go.RowKit
set_option linter.unusedVariables false
set_option linter.unusedSimpArgs false

theorem lpc_more (s : List Int) (f i : Nat) (h : f ≤ i) (hi : i < s.length) : lpc s f (i + 1) = lpc s f i ++ [s.getD i 0] := by
  unfold lpc
  rw [List.take_add_one, List.getElem?_eq_getElem hi, List.drop_append_of_le_length (by simp; omega)]
  simp [List.getD, hi]

theorem lpc_none (s : List Int) (i : Nat) : lpc s i i = [] := by unfold lpc; simp

theorem lpc_bd (s : List Int) (i k : Nat) (h : byts s) : byts (lpc s i k) := fun c hc => h c (List.mem_of_mem_take (List.mem_of_mem_drop hc))

theorem run_piece (s : List Int) (i k : Nat) (h1 : i ≤ k) (h2 : k ≤ s.length) : ∀ W, (Instr.slice 9 (.string (strOfNums s)) (some (.int .i64 (i : Int))) (some (.int .i64 (k : Int))) none).run Try.prog W = .ok (.string (strOfNums (lpc s i k))) W := fun W => by
  rw [run_cut (strOfNums s) i k _ _ rfl rfl h1 (by rw [strOfNums_size]; exact h2) W, str_cut]
  unfold lpc
  rw [List.drop_take]

theorem nsp_len : ∀ (s cur : List Int), (nsp cur s).length ≤ s.length + 1
  | [], cur => by simp [nsp]
  | c :: r, cur => by
    rw [nsp]
    split
    · have := nsp_len r []; simp only [List.length_cons]; omega
    · have := nsp_len r (cur ++ [c]); simp only [List.length_cons]; omega

theorem nsp_each : ∀ (s cur z : List Int), z ∈ nsp cur s → z.length ≤ cur.length + s.length
  | [], cur, z, h => by
    simp only [nsp, List.mem_cons, List.not_mem_nil, or_false] at h
    subst h; simp
  | c :: r, cur, z, h => by
    rw [nsp] at h
    by_cases k : c = 46
    · rw [if_pos k] at h
      rcases List.mem_cons.1 h with h | h
      · subst h; omega
      · have := nsp_each r [] z h; simp only [List.length_nil, List.length_cons] at this ⊢; omega
    · rw [if_neg k] at h
      have := nsp_each r (cur ++ [c]) z h
      simp only [List.length_append, List.length_cons, List.length_nil] at this ⊢
      omega

set_option maxHeartbeats 1000000 in
theorem rparts_any (s : List Int) (w : World) (hz : Hid (∀ i, 0 ≤ s.getD i 0 ∧ s.getD i 0 ≤ 255)) (hlen : (s.length : Int) ≤ 100000) :
    Calls Try.prog 33 #[.string (strOfNums s)] w fun e w' => ∃ v, e = .returned v ∧ So w' w.heap.size v (nparts s) ∧ Below w.heap.size w w' := by
  obtain ⟨X, hX⟩ : ∃ X, X = strOfNums s := ⟨_, rfl⟩
  have hsz : X.size = s.length := by rw [hX]; exact strOfNums_size s
  have HA : Hid (∀ k, (h : k < s.length) → ((X[k]'(hsz ▸ h)).toNat : Int) = s.getD k 0) := fun k h => by subst hX; exact str_at s hz.out k _
  have HP : Hid (∀ i k, i ≤ k → k ≤ s.length → ∀ W, (Instr.slice 9 (.string X) (some (.int .i64 (i : Int))) (some (.int .i64 (k : Int))) none).run Try.prog W = .ok (.string (strOfNums (lpc s i k))) W) := fun i k h1 h2 => by subst hX; exact run_piece s i k h1 h2
  have HBy : Hid (byts s) := mem_bd hz.out
  rw [← hX]
  clear hX
  obtain ⟨R, hR⟩ : ∃ R, R = nparts s := ⟨_, rfl⟩
  rw [← hR]
  have HR : Hid (R = [] ++ nsp (lpc s 0 0) (s.drop 0)) := by show _ = _; rw [lpc_none, hR]; rfl
  clear hR
  go_enter Try.func33, Try.ntmps33
  go_wp2
  go_loopw [3, 4, 5] (fun v fv kv wr => ∃ (k fr : Nat) (o : List (List Int)), fv = .int .i64 (fr : Int) ∧ kv = .int .i64 (k : Int) ∧ o.length ≤ k ∧ k ≤ s.length + 1 ∧ Hid ((k ≤ s.length ∧ fr ≤ k ∧ R = o ++ nsp (lpc s fr k) (s.drop k)) ∨ (k = s.length + 1 ∧ R = o)) ∧ Hid (So wr w.heap.size v o) ∧ Hid (Below w.heap.size w wr)) (fun _ _ kv _ => s.length + 1 - (intOf kv).toNat)
  case atStart => exact ⟨0, 0, [], rfl, rfl, by simp, by omega, .inl ⟨by omega, by omega, HR⟩, So.nil _ _, Below.refl _ _⟩
  case round =>
    obtain ⟨k, fr, o, rfl, rfl, hol, hk, HJ, HO, HB⟩ := hrel
    by_cases hkl : k ≤ s.length
    · obtain ⟨_, hfk, HQ⟩ := HJ.out.resolve_right (fun h => by omega)
      have h1 := HP.out fr k hfk hkl
      have hpb := lpc_bd s fr k HBy.out
      obtain ⟨P, hP⟩ : ∃ P, P = lpc s fr k := ⟨_, rfl⟩
      rw [← hP] at h1 hpb HQ
      have HPb : Hid (byts P) := hpb
      have HPe : Hid (P = lpc s fr k) := hP
      have hn1 : o.length + 1 ≤ 1000000 := by omega
      have hbs := HB.out.size
      have HOA : Hid (So (wr.alloc (.cells #[.string (strOfNums P)] 9)) w.heap.size _ o) := HO.out.below ((Below.refl _ _).alloc (Nat.le_refl _) _)
      have HBA : Hid (Below w.heap.size w (wr.alloc (.cells #[.string (strOfNums P)] 9))) := HB.out.alloc hbs _
      have HCL : Hid ((wr.alloc (.cells #[.string (strOfNums P)] 9)).cell? ⟨wr.heap.size, 0, none⟩ = some (scell P)) := str_cell wr _
      clear hP hpb
      by_cases hkz : k = s.length
      · have HR2 : Hid (R = o ++ [P]) := by
          show _ = _
          rw [HQ, hkz, List.drop_length]
          rfl
        have hke : ((k : Int) == (s.length : Int)) = true := by rw [hkz]; simp
        have HKZ : Hid (k = s.length) := hkz
        clear HQ HJ HR hkz
        go_wp2_with (at_builtin; refine wpList_append_s rfl _ _ rfl w.heap.size _ o P wr.heap.size 1 rfl rfl HOA.out HPb.out HCL.out hn1 HBA.out.size ?_; intro v2 w2 hO2 hgrow2)
        have HB2 : Hid (Below w.heap.size w w2) := HOA.out.grown HBA.out HBA.out.size hgrow2
        go_roundw
        case rel => first | exact ⟨k + 1, k + 1, o ++ [P], by go_num, by go_num, by simp; omega, by omega, .inr ⟨by have := HKZ.out; omega, HR2⟩, hO2, HB2⟩ | ((repeat apply Exists.intro); exact ⟨⟨k + 1, k + 1, o ++ [P], by go_num, by go_num, by simp; omega, by omega, .inr ⟨by have := HKZ.out; omega, HR2⟩, hO2, HB2⟩, rfl⟩)
        case measure => simp [intOf]; omega
      · have hke : ((k : Int) == (s.length : Int)) = false := by simp; omega
        have hat := HA.out k (by omega)
        have HQ' := HQ
        rw [drop_at (show k < s.length by omega), nsp] at HQ'
        have hmo := lpc_more s fr k hfk (by omega)
        rw [← HPe.out] at hmo
        by_cases h46 : s.getD k 0 = 46
        · rw [if_pos h46] at HQ'
          rw [h46] at hat
          have HR2 : Hid (R = (o ++ [P]) ++ nsp (lpc s (k + 1) (k + 1)) (s.drop (k + 1))) := by show _ = _; rw [HQ', lpc_none]; simp
          clear HQ HQ' HJ HR hmo h46
          go_wp2_with (at_builtin; refine wpList_append_s rfl _ _ rfl w.heap.size _ o P wr.heap.size 1 rfl rfl HOA.out HPb.out HCL.out hn1 HBA.out.size ?_; intro v2 w2 hO2 hgrow2)
          have HB2 : Hid (Below w.heap.size w w2) := HOA.out.grown HBA.out HBA.out.size hgrow2
          go_roundw
          case rel => first | exact ⟨k + 1, k + 1, o ++ [P], by go_num, by go_num, by simp; omega, by omega, .inl ⟨by omega, by omega, HR2⟩, hO2, HB2⟩ | ((repeat apply Exists.intro); exact ⟨⟨k + 1, k + 1, o ++ [P], by go_num, by go_num, by simp; omega, by omega, .inl ⟨by omega, by omega, HR2⟩, hO2, HB2⟩, rfl⟩)
          case measure => simp [intOf]; omega
        · rw [if_neg h46, ← hmo] at HQ'
          have HR2 : Hid _ := HQ'
          generalize s.getD k 0 = c at hat h46
          have e46 : (c == 46) = false := by simpa using h46
          clear HQ HQ' HJ HR hmo
          go_wp2
          go_roundw
          case rel => first | exact ⟨k + 1, fr, o, rfl, by go_num, by omega, by omega, .inl ⟨by omega, by omega, HR2⟩, HO, HB⟩ | ((repeat apply Exists.intro); exact ⟨⟨k + 1, fr, o, rfl, by go_num, by omega, by omega, .inl ⟨by omega, by omega, HR2⟩, HO, HB⟩, rfl⟩)
          case measure => simp [intOf]; omega
    · obtain rfl : k = s.length + 1 := by omega
      have E : Hid (R = o) := by
        rcases HJ.out with h | h
        · omega
        · exact h.2
      have hkl' : ¬ ((s.length + 1 : Nat) : Int) ≤ (s.length : Int) := by omega
      clear HJ
      go_wp2
      go_ret
      exact ⟨_, rfl, by rw [E.out]; exact HO.out, HB.out⟩

set_option maxHeartbeats 1000000 in
theorem rfull_any (s : List Int) (w : World) (hz : Hid (∀ i, 0 ≤ s.getD i 0 ∧ s.getD i 0 ≤ 255)) (hlen : (s.length : Int) ≤ 100000) :
    Calls Try.prog 13 #[.string (strOfNums s)] w fun e w' => e = .returned (.bool (nfull s)) ∧ Below w.heap.size w w' := by
  have hsz := strOfNums_size s
  by_cases hbig : 1000 < s.length
  · have hbig' : (1000 : Int) < (s.length : Int) := by omega
    have E : Hid (nfull s = false) := by show _ = _; unfold nfull; rw [decide_eq_false (by omega)]; rfl
    generalize strOfNums s = X at hsz
    go_enter Try.func13, Try.ntmps13
    go_wp2
    go_ret
    exact ⟨by rw [E.out]; rfl, Below.refl _ _⟩
  · have hbig' : ¬ (1000 : Int) < (s.length : Int) := by omega
    have E0 : Hid (nfull s = (nparts s).all nident) := by show _ = _; unfold nfull; rw [decide_eq_true (by omega)]; rfl
    have Q : Hid _ := rparts_any s w hz hlen
    have hnl : (nparts s).length ≤ s.length + 1 := nsp_len s []
    have HLs : Hid (∀ z ∈ nparts s, (z.length : Int) ≤ 100000) := fun z hzm => by
      have := nsp_each s [] z hzm
      simp at this
      omega
    generalize nparts s = zs at Q E0 hnl HLs
    generalize strOfNums s = X at hsz Q
    go_enter Try.func13, Try.ntmps13
    go_wp2_with fail
    refine Calls.mono Q.out ?_
    rintro e w1 ⟨v, rfl, hO, hb1⟩
    obtain ⟨a, c, rfl⟩ := hO.slice
    obtain ⟨_, _, h3, h4, h5, h6⟩ := Ss.of_own hO
    have H5 : Hid (∀ z ∈ zs, byts z) := h5
    have H6 : Hid _ := h6
    clear h5 h6 hO
    go_wp2
    go_loopw [11] (fun v wr => ∃ k : Nat, v = .int .i64 (k : Int) ∧ k ≤ zs.length ∧ Hid (∀ j z, j < k → zs[j]? = some z → nident z = true) ∧ w1 = wr) (fun v _ => zs.length - (intOf v).toNat)
    case atStart => exact ⟨0, rfl, by omega, fun j z hj => absurd hj (by omega), rfl⟩
    case round =>
      obtain ⟨k, rfl, hk, HJ, rfl⟩ := hrel
      by_cases hkl : k < zs.length
      · obtain ⟨b, off, rfl, hlt, hc⟩ := H6.out (by omega)
        obtain ⟨z, hz⟩ : ∃ z, zs[k]? = some z := ⟨zs[k]'hkl, List.getElem?_eq_getElem hkl⟩
        have hcell := hc k z hz
        unfold scell at hcell
        have hzm := List.mem_of_getElem? hz
        have q := fun W => rident_any z W (getD_bd (H5.out z hzm)) (by have := HLs.out z hzm; omega)
        by_cases hid : nident z = true
        · rw [hid] at q
          have Q2 : Hid _ := q
          have HJ2 : Hid (∀ j z, j < k + 1 → zs[j]? = some z → nident z = true) := fun j y hj hy => by
            by_cases e : j = k
            · rw [e, hz] at hy; rw [← Option.some.inj hy]; exact hid
            · exact HJ.out j y (by omega) hy
          generalize strOfNums z = Z at hcell Q2
          clear q HJ hz hid hc hzm
          go_wp2_with fail
          refine Calls.mono (Q2.out _) ?_
          rintro e w2 ⟨rfl, rfl⟩
          go_wp2
          go_roundw
          case rel => first | exact ⟨k + 1, by go_num, by omega, HJ2, by first | rfl | trivial⟩ | ((repeat apply Exists.intro); exact ⟨⟨k + 1, by go_num, by omega, HJ2, by first | rfl | trivial⟩, rfl⟩)
          case measure => simp [intOf]; omega
        · have hid' : nident z = false := by simpa using hid
          rw [hid'] at q
          have Q2 : Hid _ := q
          have E : Hid (nfull s = false) := by
            show _ = _
            rw [E0.out, List.all_eq_false]
            exact ⟨z, hzm, by rw [hid']; decide⟩
          generalize strOfNums z = Z at hcell Q2
          clear q HJ hz hid hid' hc hzm E0
          go_wp2_with fail
          refine Calls.mono (Q2.out _) ?_
          rintro e w2 ⟨rfl, rfl⟩
          go_wp2
          go_ret
          exact ⟨by rw [E.out]; rfl, hb1⟩
      · obtain rfl : k = zs.length := by omega
        have E : Hid (nfull s = true) := by
          show _ = _
          rw [E0.out, List.all_eq_true]
          intro z hzm
          obtain ⟨j, hj⟩ := List.getElem?_of_mem hzm
          exact HJ.out j z (List.getElem?_eq_some_iff.1 hj).1 hj
        clear HJ E0
        go_wp2
        go_ret
        exact ⟨by rw [E.out]; rfl, hb1⟩

end Go.Proofs.Ytmpdgdjjjgnpiaa
