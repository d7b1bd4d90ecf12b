/- Put together by a program out of these texts of mine: NRef3, NRef4, NPa, NSh, NPe, HMath, HMem. -/
import Derived.Lib.OthersKept
import Derived.Shelf.Small.Wraps
import Derived.Shelf.LaysM
import Derived.Shelf.Strconv.Clone
import Derived.Shelf.Strings.LastIndex
import Derived.Shelf.Strings.Prefix
import Derived.Shelf.Slices.Turned
import Derived.Test.YtafmoceinamcdaaGreatProg
import Derived.Deep.RegionWith
import Derived.SliceStrings
import Derived.Maps.AppendAt
import Derived.Test.YtafmoceinamcdaaGreatBunS1

namespace Go.Proofs.YtafmoceinamcdaaGreat
open Go.RowKit
set_option linter.unusedVariables false
set_option linter.unusedSimpArgs false

theorem lpc_more (s : List Int) (f i : Nat) (h : f ≤ i) (hi : i < s.length) : lpc s f (i + 1) = lpc s f i ++ [s.getD i 0] := by
  unfold lpc
  rw [List.take_add_one, List.getElem?_eq_getElem hi, List.drop_append_of_le_length (by simp; omega)]
  simp [List.getD, hi]

theorem lpc_none (s : List Int) (i : Nat) : lpc s i i = [] := by unfold lpc; simp

theorem lpc_bd (s : List Int) (i k : Nat) (h : byts s) : byts (lpc s i k) := fun c hc => h c (List.mem_of_mem_take (List.mem_of_mem_drop hc))

theorem run_piece (s : List Int) (i k : Nat) (h1 : i ≤ k) (h2 : k ≤ s.length) : ∀ W, (Instr.slice 9 (.string (strOfNums s)) (some (.int .i64 (i : Int))) (some (.int .i64 (k : Int))) none).run Tryz.prog W = .ok (.string (strOfNums (lpc s i k))) W := fun W => by
  rw [run_cut (strOfNums s) i k _ _ rfl rfl h1 (by rw [strOfNums_size]; exact h2) W, str_cut]
  unfold lpc
  rw [List.drop_take]

theorem nsp_len : ∀ (s cur : List Int), (nsp cur s).length ≤ s.length + 1
  | [], cur => by simp [nsp]
  | c :: r, cur => by
    rw [nsp]
    split
    · have := nsp_len r []; simp only [List.length_cons]; omega
    · have := nsp_len r (cur ++ [c]); simp only [List.length_cons]; omega

theorem nsp_each : ∀ (s cur z : List Int), z ∈ nsp cur s → z.length ≤ cur.length + s.length
  | [], cur, z, h => by
    simp only [nsp, List.mem_cons, List.not_mem_nil, or_false] at h
    subst h; simp
  | c :: r, cur, z, h => by
    rw [nsp] at h
    by_cases k : c = 46
    · rw [if_pos k] at h
      rcases List.mem_cons.1 h with h | h
      · subst h; omega
      · have := nsp_each r [] z h; simp only [List.length_nil, List.length_cons] at this ⊢; omega
    · rw [if_neg k] at h
      have := nsp_each r (cur ++ [c]) z h
      simp only [List.length_append, List.length_cons, List.length_nil] at this ⊢
      omega

set_option maxHeartbeats 1000000 in
theorem rparts_any (s : List Int) (w : World) (hz : Hid (∀ i, 0 ≤ s.getD i 0 ∧ s.getD i 0 ≤ 255)) (hlen : (s.length : Int) ≤ 100000) :
    Calls Tryz.prog 61 #[.string (strOfNums s)] w fun e w' => ∃ v, e = .returned v ∧ So w' w.heap.size v (nparts s) ∧ Below w.heap.size w w' := by
  obtain ⟨X, hX⟩ : ∃ X, X = strOfNums s := ⟨_, rfl⟩
  have hsz : X.size = s.length := by rw [hX]; exact strOfNums_size s
  have HA : Hid (∀ k, (h : k < s.length) → ((X[k]'(hsz ▸ h)).toNat : Int) = s.getD k 0) := fun k h => by subst hX; exact str_at s hz.out k _
  have HP : Hid (∀ i k, i ≤ k → k ≤ s.length → ∀ W, (Instr.slice 9 (.string X) (some (.int .i64 (i : Int))) (some (.int .i64 (k : Int))) none).run Tryz.prog W = .ok (.string (strOfNums (lpc s i k))) W) := fun i k h1 h2 => by subst hX; exact run_piece s i k h1 h2
  have HBy : Hid (byts s) := mem_bd hz.out
  rw [← hX]
  clear hX
  obtain ⟨R, hR⟩ : ∃ R, R = nparts s := ⟨_, rfl⟩
  rw [← hR]
  have HR : Hid (R = [] ++ nsp (lpc s 0 0) (s.drop 0)) := by show _ = _; rw [lpc_none, hR]; rfl
  clear hR
  go_enter Tryz.func61, Tryz.ntmps61
  go_wp2
  go_loopw [3, 4, 5] (fun v fv kv wr => ∃ (k fr : Nat) (o : List (List Int)), fv = .int .i64 (fr : Int) ∧ kv = .int .i64 (k : Int) ∧ o.length ≤ k ∧ k ≤ s.length + 1 ∧ Hid ((k ≤ s.length ∧ fr ≤ k ∧ R = o ++ nsp (lpc s fr k) (s.drop k)) ∨ (k = s.length + 1 ∧ R = o)) ∧ Hid (So wr w.heap.size v o) ∧ Hid (Below w.heap.size w wr)) (fun _ _ kv _ => s.length + 1 - (intOf kv).toNat)
  case atStart => exact ⟨0, 0, [], rfl, rfl, by simp, by omega, .inl ⟨by omega, by omega, HR⟩, So.nil _ _, Below.refl _ _⟩
  case round =>
    obtain ⟨k, fr, o, rfl, rfl, hol, hk, HJ, HO, HB⟩ := hrel
    by_cases hkl : k ≤ s.length
    · obtain ⟨_, hfk, HQ⟩ := HJ.out.resolve_right (fun h => by omega)
      have h1 := HP.out fr k hfk hkl
      have hpb := lpc_bd s fr k HBy.out
      obtain ⟨P, hP⟩ : ∃ P, P = lpc s fr k := ⟨_, rfl⟩
      rw [← hP] at h1 hpb HQ
      have HPb : Hid (byts P) := hpb
      have HPe : Hid (P = lpc s fr k) := hP
      have hn1 : o.length + 1 ≤ 1000000 := by omega
      have hbs := HB.out.size
      have HOA : Hid (So (wr.alloc (.cells #[.string (strOfNums P)] 9)) w.heap.size _ o) := HO.out.below ((Below.refl _ _).alloc (Nat.le_refl _) _)
      have HBA : Hid (Below w.heap.size w (wr.alloc (.cells #[.string (strOfNums P)] 9))) := HB.out.alloc hbs _
      have HCL : Hid ((wr.alloc (.cells #[.string (strOfNums P)] 9)).cell? ⟨wr.heap.size, 0, none⟩ = some (scell P)) := str_cell wr _
      clear hP hpb
      by_cases hkz : k = s.length
      · have HR2 : Hid (R = o ++ [P]) := by
          show _ = _
          rw [HQ, hkz, List.drop_length]
          rfl
        have hke : ((k : Int) == (s.length : Int)) = true := by rw [hkz]; simp
        have HKZ : Hid (k = s.length) := hkz
        clear HQ HJ HR hkz
        go_wp2_with (at_builtin; refine wpList_append_s rfl _ _ rfl w.heap.size _ o P wr.heap.size 1 rfl rfl HOA.out HPb.out HCL.out hn1 HBA.out.size ?_; intro v2 w2 hO2 hgrow2)
        have HB2 : Hid (Below w.heap.size w w2) := HOA.out.grown HBA.out HBA.out.size hgrow2
        go_roundw
        case rel => first | exact ⟨k + 1, k + 1, o ++ [P], by go_num, by go_num, by simp; omega, by omega, .inr ⟨by have := HKZ.out; omega, HR2⟩, hO2, HB2⟩ | ((repeat apply Exists.intro); exact ⟨⟨k + 1, k + 1, o ++ [P], by go_num, by go_num, by simp; omega, by omega, .inr ⟨by have := HKZ.out; omega, HR2⟩, hO2, HB2⟩, rfl⟩)
        case measure => simp [intOf]; omega
      · have hke : ((k : Int) == (s.length : Int)) = false := by simp; omega
        have hat := HA.out k (by omega)
        have HQ' := HQ
        rw [drop_at (show k < s.length by omega), nsp] at HQ'
        have hmo := lpc_more s fr k hfk (by omega)
        rw [← HPe.out] at hmo
        by_cases h46 : s.getD k 0 = 46
        · rw [if_pos h46] at HQ'
          rw [h46] at hat
          have HR2 : Hid (R = (o ++ [P]) ++ nsp (lpc s (k + 1) (k + 1)) (s.drop (k + 1))) := by show _ = _; rw [HQ', lpc_none]; simp
          clear HQ HQ' HJ HR hmo h46
          go_wp2_with (at_builtin; refine wpList_append_s rfl _ _ rfl w.heap.size _ o P wr.heap.size 1 rfl rfl HOA.out HPb.out HCL.out hn1 HBA.out.size ?_; intro v2 w2 hO2 hgrow2)
          have HB2 : Hid (Below w.heap.size w w2) := HOA.out.grown HBA.out HBA.out.size hgrow2
          go_roundw
          case rel => first | exact ⟨k + 1, k + 1, o ++ [P], by go_num, by go_num, by simp; omega, by omega, .inl ⟨by omega, by omega, HR2⟩, hO2, HB2⟩ | ((repeat apply Exists.intro); exact ⟨⟨k + 1, k + 1, o ++ [P], by go_num, by go_num, by simp; omega, by omega, .inl ⟨by omega, by omega, HR2⟩, hO2, HB2⟩, rfl⟩)
          case measure => simp [intOf]; omega
        · rw [if_neg h46, ← hmo] at HQ'
          have HR2 : Hid _ := HQ'
          generalize s.getD k 0 = c at hat h46
          have e46 : (c == 46) = false := by simpa using h46
          clear HQ HQ' HJ HR hmo
          go_wp2
          go_roundw
          case rel => first | exact ⟨k + 1, fr, o, rfl, by go_num, by omega, by omega, .inl ⟨by omega, by omega, HR2⟩, HO, HB⟩ | ((repeat apply Exists.intro); exact ⟨⟨k + 1, fr, o, rfl, by go_num, by omega, by omega, .inl ⟨by omega, by omega, HR2⟩, HO, HB⟩, rfl⟩)
          case measure => simp [intOf]; omega
    · obtain rfl : k = s.length + 1 := by omega
      have E : Hid (R = o) := by
        rcases HJ.out with h | h
        · omega
        · exact h.2
      have hkl' : ¬ ((s.length + 1 : Nat) : Int) ≤ (s.length : Int) := by omega
      clear HJ
      go_wp2
      go_ret
      exact ⟨_, rfl, by rw [E.out]; exact HO.out, HB.out⟩

set_option maxHeartbeats 1000000 in
theorem rfull_any (s : List Int) (w : World) (hz : Hid (∀ i, 0 ≤ s.getD i 0 ∧ s.getD i 0 ≤ 255)) (hlen : (s.length : Int) ≤ 100000) :
    Calls Tryz.prog 29 #[.string (strOfNums s)] w fun e w' => e = .returned (.bool (nfull s)) ∧ Below w.heap.size w w' := by
  have hsz := strOfNums_size s
  by_cases hbig : 1000 < s.length
  · have hbig' : (1000 : Int) < (s.length : Int) := by omega
    have E : Hid (nfull s = false) := by show _ = _; unfold nfull; rw [decide_eq_false (by omega)]; rfl
    generalize strOfNums s = X at hsz
    go_enter Tryz.func29, Tryz.ntmps29
    go_wp2
    go_ret
    exact ⟨by rw [E.out]; rfl, Below.refl _ _⟩
  · have hbig' : ¬ (1000 : Int) < (s.length : Int) := by omega
    have E0 : Hid (nfull s = (nparts s).all nident) := by show _ = _; unfold nfull; rw [decide_eq_true (by omega)]; rfl
    have Q : Hid _ := rparts_any s w hz hlen
    have hnl : (nparts s).length ≤ s.length + 1 := nsp_len s []
    have HLs : Hid (∀ z ∈ nparts s, (z.length : Int) ≤ 100000) := fun z hzm => by
      have := nsp_each s [] z hzm
      simp at this
      omega
    generalize nparts s = zs at Q E0 hnl HLs
    generalize strOfNums s = X at hsz Q
    go_enter Tryz.func29, Tryz.ntmps29
    go_wp2_with fail
    refine Calls.mono Q.out ?_
    rintro e w1 ⟨v, rfl, hO, hb1⟩
    obtain ⟨a, c, rfl⟩ := hO.slice
    obtain ⟨_, _, h3, h4, h5, h6⟩ := Ss.of_own hO
    have H5 : Hid (∀ z ∈ zs, byts z) := h5
    have H6 : Hid _ := h6
    clear h5 h6 hO
    go_wp2
    go_loopw [11] (fun v wr => ∃ k : Nat, v = .int .i64 (k : Int) ∧ k ≤ zs.length ∧ Hid (∀ j z, j < k → zs[j]? = some z → nident z = true) ∧ w1 = wr) (fun v _ => zs.length - (intOf v).toNat)
    case atStart => exact ⟨0, rfl, by omega, fun j z hj => absurd hj (by omega), rfl⟩
    case round =>
      obtain ⟨k, rfl, hk, HJ, rfl⟩ := hrel
      by_cases hkl : k < zs.length
      · obtain ⟨b, off, rfl, hlt, hc⟩ := H6.out (by omega)
        obtain ⟨z, hz⟩ : ∃ z, zs[k]? = some z := ⟨zs[k]'hkl, List.getElem?_eq_getElem hkl⟩
        have hcell := hc k z hz
        unfold scell at hcell
        have hzm := List.mem_of_getElem? hz
        have q := fun W => rident_any z W (getD_bd (H5.out z hzm)) (by have := HLs.out z hzm; omega)
        by_cases hid : nident z = true
        · rw [hid] at q
          have Q2 : Hid _ := q
          have HJ2 : Hid (∀ j z, j < k + 1 → zs[j]? = some z → nident z = true) := fun j y hj hy => by
            by_cases e : j = k
            · rw [e, hz] at hy; rw [← Option.some.inj hy]; exact hid
            · exact HJ.out j y (by omega) hy
          generalize strOfNums z = Z at hcell Q2
          clear q HJ hz hid hc hzm
          go_wp2_with fail
          refine Calls.mono (Q2.out _) ?_
          rintro e w2 ⟨rfl, rfl⟩
          go_wp2
          go_roundw
          case rel => first | exact ⟨k + 1, by go_num, by omega, HJ2, by first | rfl | trivial⟩ | ((repeat apply Exists.intro); exact ⟨⟨k + 1, by go_num, by omega, HJ2, by first | rfl | trivial⟩, rfl⟩)
          case measure => simp [intOf]; omega
        · have hid' : nident z = false := by simpa using hid
          rw [hid'] at q
          have Q2 : Hid _ := q
          have E : Hid (nfull s = false) := by
            show _ = _
            rw [E0.out, List.all_eq_false]
            exact ⟨z, hzm, by rw [hid']; decide⟩
          generalize strOfNums z = Z at hcell Q2
          clear q HJ hz hid hid' hc hzm E0
          go_wp2_with fail
          refine Calls.mono (Q2.out _) ?_
          rintro e w2 ⟨rfl, rfl⟩
          go_wp2
          go_ret
          exact ⟨by rw [E.out]; rfl, hb1⟩
      · obtain rfl : k = zs.length := by omega
        have E : Hid (nfull s = true) := by
          show _ = _
          rw [E0.out, List.all_eq_true]
          intro z hzm
          obtain ⟨j, hj⟩ := List.getElem?_of_mem hzm
          exact HJ.out j z (List.getElem?_eq_some_iff.1 hj).1 hj
        clear HJ E0
        go_wp2
        go_ret
        exact ⟨by rw [E.out]; rfl, hb1⟩

def nwords : List (List Int) := [[], [100, 111, 117, 98, 108, 101], [102, 108, 111, 97, 116], [105, 110, 116, 54, 52], [117, 105, 110, 116, 54, 52], [105, 110, 116, 51, 50], [102, 105, 120, 101, 100, 54, 52], [102, 105, 120, 101, 100, 51, 50], [98, 111, 111, 108], [115, 116, 114, 105, 110, 103], [], [], [98, 121, 116, 101, 115], [117, 105, 110, 116, 51, 50], [], [115, 102, 105, 120, 101, 100, 51, 50], [115, 102, 105, 120, 101, 100, 54, 52], [115, 105, 110, 116, 51, 50], [115, 105, 110, 116, 54, 52]]

def nkeys : List (List Int) := [[109, 101, 115, 115, 97, 103, 101], [101, 110, 117, 109], [101, 120, 116, 101, 110, 100], [101, 120, 116, 101, 110, 115, 105, 111, 110, 115], [111, 112, 116, 105, 111, 110], [111, 110, 101, 111, 102], [109, 97, 112], [114, 101, 115, 101, 114, 118, 101, 100], [111, 112, 116, 105, 111, 110, 97, 108], [114, 101, 113, 117, 105, 114, 101, 100], [114, 101, 112, 101, 97, 116, 101, 100], [114, 112, 99], [115, 101, 114, 118, 105, 99, 101], [105, 109, 112, 111, 114, 116], [112, 97, 99, 107, 97, 103, 101], [115, 121, 110, 116, 97, 120], [115, 116, 114, 101, 97, 109], [114, 101, 116, 117, 114, 110, 115], [116, 111], [109, 97, 120], [112, 117, 98, 108, 105, 99]]

def nwf (s : List Int) : List (List Int) → Nat → Nat
  | [], _ => 0
  | z :: r, k => if z ≠ [] ∧ z = s then k else nwf s r (k + 1)

def nword (s : List Int) : Nat := nwf s nwords 0

def nkey (s : List Int) : Bool := decide (s ∈ nkeys) || decide (nword s ≠ 0)

theorem nwords_bd : ∀ z ∈ nwords, byts z := by unfold byts; decide

theorem nkeys_bd : ∀ z ∈ nkeys, byts z := by unfold byts; decide

theorem lit_cell (W : World) (C : Array Value) (zs : List (List Int)) (hC : C.toList = zs.map scell) (k : Nat) (z : List Int) (hz : zs[k]? = some z) : (W.alloc (.cells C 9)).cell? ⟨W.heap.size, k, none⟩ = some (.string (strOfNums z)) := by
  rw [World.cell?_alloc_new, ← Array.getElem?_toList, hC, List.getElem?_map, hz]
  rfl

set_option maxRecDepth 10000 in
set_option maxHeartbeats 2000000 in
theorem rword_any (s : List Int) (w : World) (hs : Hid (byts s)) :
    Calls Tryz.prog 116 #[.string (strOfNums s)] w fun e w' => e = .returned (.int .i64 (nword s : Int)) ∧ Below w.heap.size w w' := by
  have HC : Hid (∀ k z, nwords[k]? = some z → (w.alloc (.cells #[.string { data := #[] }, .string { data := #[100, 111, 117, 98, 108, 101] }, .string { data := #[102, 108, 111, 97, 116] }, .string { data := #[105, 110, 116, 54, 52] }, .string { data := #[117, 105, 110, 116, 54, 52] }, .string { data := #[105, 110, 116, 51, 50] }, .string { data := #[102, 105, 120, 101, 100, 54, 52] }, .string { data := #[102, 105, 120, 101, 100, 51, 50] }, .string { data := #[98, 111, 111, 108] }, .string { data := #[115, 116, 114, 105, 110, 103] }, .string { data := #[] }, .string { data := #[] }, .string { data := #[98, 121, 116, 101, 115] }, .string { data := #[117, 105, 110, 116, 51, 50] }, .string { data := #[] }, .string { data := #[115, 102, 105, 120, 101, 100, 51, 50] }, .string { data := #[115, 102, 105, 120, 101, 100, 54, 52] }, .string { data := #[115, 105, 110, 116, 51, 50] }, .string { data := #[115, 105, 110, 116, 54, 52] }] 9)).cell? ⟨w.heap.size, k, none⟩ = some (.string (strOfNums z))) := fun k z hz => lit_cell w _ nwords rfl k z hz
  have HBl : Hid (Below w.heap.size w (w.alloc (.cells #[.string { data := #[] }, .string { data := #[100, 111, 117, 98, 108, 101] }, .string { data := #[102, 108, 111, 97, 116] }, .string { data := #[105, 110, 116, 54, 52] }, .string { data := #[117, 105, 110, 116, 54, 52] }, .string { data := #[105, 110, 116, 51, 50] }, .string { data := #[102, 105, 120, 101, 100, 54, 52] }, .string { data := #[102, 105, 120, 101, 100, 51, 50] }, .string { data := #[98, 111, 111, 108] }, .string { data := #[115, 116, 114, 105, 110, 103] }, .string { data := #[] }, .string { data := #[] }, .string { data := #[98, 121, 116, 101, 115] }, .string { data := #[117, 105, 110, 116, 51, 50] }, .string { data := #[] }, .string { data := #[115, 102, 105, 120, 101, 100, 51, 50] }, .string { data := #[115, 102, 105, 120, 101, 100, 54, 52] }, .string { data := #[115, 105, 110, 116, 51, 50] }, .string { data := #[115, 105, 110, 116, 54, 52] }] 9))) := (Below.refl _ _).alloc (Nat.le_refl _) _
  obtain ⟨R, hR⟩ : ∃ R, R = nword s := ⟨_, rfl⟩
  rw [← hR]
  have HR : Hid (R = nwf s (nwords.drop 0) 0) := hR
  clear hR
  go_enter Tryz.func116, Tryz.ntmps116
  go_wp2
  go_loopw [7] (fun v wr => ∃ k : Nat, v = .int .i64 (k : Int) ∧ k ≤ 19 ∧ Hid (R = nwf s (nwords.drop k) k) ∧ w.alloc (.cells #[.string { data := #[] }, .string { data := #[100, 111, 117, 98, 108, 101] }, .string { data := #[102, 108, 111, 97, 116] }, .string { data := #[105, 110, 116, 54, 52] }, .string { data := #[117, 105, 110, 116, 54, 52] }, .string { data := #[105, 110, 116, 51, 50] }, .string { data := #[102, 105, 120, 101, 100, 54, 52] }, .string { data := #[102, 105, 120, 101, 100, 51, 50] }, .string { data := #[98, 111, 111, 108] }, .string { data := #[115, 116, 114, 105, 110, 103] }, .string { data := #[] }, .string { data := #[] }, .string { data := #[98, 121, 116, 101, 115] }, .string { data := #[117, 105, 110, 116, 51, 50] }, .string { data := #[] }, .string { data := #[115, 102, 105, 120, 101, 100, 51, 50] }, .string { data := #[115, 102, 105, 120, 101, 100, 54, 52] }, .string { data := #[115, 105, 110, 116, 51, 50] }, .string { data := #[115, 105, 110, 116, 54, 52] }] 9) = wr) (fun v _ => 19 - (intOf v).toNat)
  case atStart => exact ⟨0, rfl, by omega, HR, rfl⟩
  case round =>
    obtain ⟨k, rfl, hk, HJ, rfl⟩ := hrel
    by_cases hkl : k < 19
    · obtain ⟨z, hz⟩ : ∃ z, nwords[k]? = some z := ⟨nwords[k]'hkl, List.getElem?_eq_getElem hkl⟩
      have hcell := HC.out k z hz
      have hzb := nwords_bd z (List.mem_of_getElem? hz)
      have heq := str_eq hzb hs.out
      have HJ' := HJ.out
      rw [show nwords.drop k = z :: nwords.drop (k + 1) by
        rw [List.drop_eq_getElem_cons hkl]
        congr 1
        rw [List.getElem?_eq_getElem hkl] at hz
        exact Option.some.inj hz, nwf] at HJ'
      by_cases hz0 : z = []
      · rw [if_neg (fun h => h.1 hz0)] at HJ'
        have hne : ((strOfNums z).toList == []) = true := by rw [hz0, str_list]; rfl
        have HJ2 : Hid _ := HJ'
        generalize strOfNums z = Z at hcell hne heq
        generalize strOfNums s = X at heq ⊢
        clear HJ HJ' hz hzb hz0 heq
        go_wp2
        go_roundw
        case rel => first | exact ⟨k + 1, by go_num, by omega, HJ2, by first | rfl | trivial⟩ | ((repeat apply Exists.intro); exact ⟨⟨k + 1, by go_num, by omega, HJ2, by first | rfl | trivial⟩, rfl⟩)
        case measure => simp [intOf]; omega
      · have hne : ((strOfNums z).toList == []) = false := by
          cases z with
          | nil => exact absurd rfl hz0
          | cons c r => exact str_ne c r
        by_cases hzs : z = s
        · rw [if_pos ⟨hz0, hzs⟩] at HJ'
          have e' : (z == s) = true := by simpa using hzs
          rw [e'] at heq
          have HJ2 : Hid _ := HJ'
          generalize strOfNums z = Z at hcell hne heq
          generalize strOfNums s = X at heq ⊢
          clear HJ HJ' hz hzb hz0 hzs e'
          go_wp2
          go_ret
          exact ⟨by rw [HJ2.out]; rfl, HBl.out⟩
        · rw [if_neg (fun h => hzs h.2)] at HJ'
          have e' : (z == s) = false := by simpa using hzs
          rw [e'] at heq
          have HJ2 : Hid _ := HJ'
          generalize strOfNums z = Z at hcell hne heq
          generalize strOfNums s = X at heq ⊢
          clear HJ HJ' hz hzb hz0 hzs e'
          go_wp2
          go_roundw
          case rel => first | exact ⟨k + 1, by go_num, by omega, HJ2, by first | rfl | trivial⟩ | ((repeat apply Exists.intro); exact ⟨⟨k + 1, by go_num, by omega, HJ2, by first | rfl | trivial⟩, rfl⟩)
          case measure => simp [intOf]; omega
    · obtain rfl : k = 19 := by omega
      have E : Hid (R = 0) := by show _ = _; rw [HJ.out]; rfl
      clear HJ
      go_wp2
      go_ret
      exact ⟨by rw [E.out]; rfl, HBl.out⟩

set_option maxRecDepth 10000 in
set_option maxHeartbeats 2000000 in
theorem rkey_any (s : List Int) (w : World) (hs : Hid (byts s)) :
    Calls Tryz.prog 67 #[.string (strOfNums s)] w fun e w' => e = .returned (.bool (nkey s)) ∧ Below w.heap.size w w' := by
  have HC : Hid (∀ k z, nkeys[k]? = some z → (w.alloc (.cells #[.string { data := #[109, 101, 115, 115, 97, 103, 101] }, .string { data := #[101, 110, 117, 109] }, .string { data := #[101, 120, 116, 101, 110, 100] }, .string { data := #[101, 120, 116, 101, 110, 115, 105, 111, 110, 115] }, .string { data := #[111, 112, 116, 105, 111, 110] }, .string { data := #[111, 110, 101, 111, 102] }, .string { data := #[109, 97, 112] }, .string { data := #[114, 101, 115, 101, 114, 118, 101, 100] }, .string { data := #[111, 112, 116, 105, 111, 110, 97, 108] }, .string { data := #[114, 101, 113, 117, 105, 114, 101, 100] }, .string { data := #[114, 101, 112, 101, 97, 116, 101, 100] }, .string { data := #[114, 112, 99] }, .string { data := #[115, 101, 114, 118, 105, 99, 101] }, .string { data := #[105, 109, 112, 111, 114, 116] }, .string { data := #[112, 97, 99, 107, 97, 103, 101] }, .string { data := #[115, 121, 110, 116, 97, 120] }, .string { data := #[115, 116, 114, 101, 97, 109] }, .string { data := #[114, 101, 116, 117, 114, 110, 115] }, .string { data := #[116, 111] }, .string { data := #[109, 97, 120] }, .string { data := #[112, 117, 98, 108, 105, 99] }] 9)).cell? ⟨w.heap.size, k, none⟩ = some (.string (strOfNums z))) := fun k z hz => lit_cell w _ nkeys rfl k z hz
  have HBl : Hid (Below w.heap.size w (w.alloc (.cells #[.string { data := #[109, 101, 115, 115, 97, 103, 101] }, .string { data := #[101, 110, 117, 109] }, .string { data := #[101, 120, 116, 101, 110, 100] }, .string { data := #[101, 120, 116, 101, 110, 115, 105, 111, 110, 115] }, .string { data := #[111, 112, 116, 105, 111, 110] }, .string { data := #[111, 110, 101, 111, 102] }, .string { data := #[109, 97, 112] }, .string { data := #[114, 101, 115, 101, 114, 118, 101, 100] }, .string { data := #[111, 112, 116, 105, 111, 110, 97, 108] }, .string { data := #[114, 101, 113, 117, 105, 114, 101, 100] }, .string { data := #[114, 101, 112, 101, 97, 116, 101, 100] }, .string { data := #[114, 112, 99] }, .string { data := #[115, 101, 114, 118, 105, 99, 101] }, .string { data := #[105, 109, 112, 111, 114, 116] }, .string { data := #[112, 97, 99, 107, 97, 103, 101] }, .string { data := #[115, 121, 110, 116, 97, 120] }, .string { data := #[115, 116, 114, 101, 97, 109] }, .string { data := #[114, 101, 116, 117, 114, 110, 115] }, .string { data := #[116, 111] }, .string { data := #[109, 97, 120] }, .string { data := #[112, 117, 98, 108, 105, 99] }] 9))) := (Below.refl _ _).alloc (Nat.le_refl _) _
  have q := fun W => rword_any s W hs
  go_enter Tryz.func67, Tryz.ntmps67
  have QW : Hid _ := q
  clear q
  go_wp2
  go_loopw [7] (fun v wr => ∃ k : Nat, v = .int .i64 (k : Int) ∧ k ≤ 21 ∧ Hid (∀ j, j < k → nkeys[j]? ≠ some s) ∧ w.alloc (.cells #[.string { data := #[109, 101, 115, 115, 97, 103, 101] }, .string { data := #[101, 110, 117, 109] }, .string { data := #[101, 120, 116, 101, 110, 100] }, .string { data := #[101, 120, 116, 101, 110, 115, 105, 111, 110, 115] }, .string { data := #[111, 112, 116, 105, 111, 110] }, .string { data := #[111, 110, 101, 111, 102] }, .string { data := #[109, 97, 112] }, .string { data := #[114, 101, 115, 101, 114, 118, 101, 100] }, .string { data := #[111, 112, 116, 105, 111, 110, 97, 108] }, .string { data := #[114, 101, 113, 117, 105, 114, 101, 100] }, .string { data := #[114, 101, 112, 101, 97, 116, 101, 100] }, .string { data := #[114, 112, 99] }, .string { data := #[115, 101, 114, 118, 105, 99, 101] }, .string { data := #[105, 109, 112, 111, 114, 116] }, .string { data := #[112, 97, 99, 107, 97, 103, 101] }, .string { data := #[115, 121, 110, 116, 97, 120] }, .string { data := #[115, 116, 114, 101, 97, 109] }, .string { data := #[114, 101, 116, 117, 114, 110, 115] }, .string { data := #[116, 111] }, .string { data := #[109, 97, 120] }, .string { data := #[112, 117, 98, 108, 105, 99] }] 9) = wr) (fun v _ => 21 - (intOf v).toNat)
  case atStart => exact ⟨0, rfl, by omega, fun j hj => absurd hj (by omega), rfl⟩
  case round =>
    obtain ⟨k, rfl, hk, HJ, rfl⟩ := hrel
    by_cases hkl : k < 21
    · obtain ⟨z, hz⟩ : ∃ z, nkeys[k]? = some z := ⟨nkeys[k]'hkl, List.getElem?_eq_getElem hkl⟩
      have hcell := HC.out k z hz
      have hzb := nkeys_bd z (List.mem_of_getElem? hz)
      have heq := str_eq hzb hs.out
      by_cases hzs : z = s
      · have e' : (z == s) = true := by simpa using hzs
        rw [e'] at heq
        have E : Hid (nkey s = true) := by show _ = _; unfold nkey; rw [decide_eq_true (by rw [← hzs]; exact List.mem_of_getElem? hz)]; rfl
        generalize strOfNums z = Z at hcell heq
        generalize strOfNums s = X at heq QW ⊢
        clear HJ hz hzb hzs e'
        go_wp2
        go_ret
        exact ⟨by rw [E.out]; rfl, HBl.out⟩
      · have e' : (z == s) = false := by simpa using hzs
        rw [e'] at heq
        have HJ2 : Hid (∀ j, j < k + 1 → nkeys[j]? ≠ some s) := fun j hj => by
          by_cases q : j = k
          · rw [q, hz]; simpa using hzs
          · exact HJ.out j (by omega)
        generalize strOfNums z = Z at hcell heq
        generalize strOfNums s = X at heq QW ⊢
        clear HJ hz hzb hzs e'
        go_wp2
        go_roundw
        case rel => first | exact ⟨k + 1, by go_num, by omega, HJ2, by first | rfl | trivial⟩ | ((repeat apply Exists.intro); exact ⟨⟨k + 1, by go_num, by omega, HJ2, by first | rfl | trivial⟩, rfl⟩)
        case measure => simp [intOf]; omega
    · obtain rfl : k = 21 := by omega
      have hnm : ¬ s ∈ nkeys := fun hm => by
        obtain ⟨j, hj⟩ := List.getElem?_of_mem hm
        exact HJ.out j (List.getElem?_eq_some_iff.1 hj).1 hj
      have E : Hid (nkey s = decide (nword s ≠ 0)) := by show _ = _; unfold nkey; rw [decide_eq_false hnm]; rfl
      generalize nword s = n at E QW
      clear HJ hnm
      go_wp2_with fail
      refine Calls.mono (QW.out _) ?_
      rintro e w1 ⟨rfl, hb1⟩
      go_wp2
      go_ret
      refine ⟨?_, HBl.out.trans (hb1.mono HBl.out.size)⟩
      rw [E.out]
      by_cases h : n = 0
      · subst h; rfl
      · rw [decide_eq_true h]
        exact ret_bool (by simp; omega)

def NTab (_ : World) : Prop := True

end Go.Proofs.YtafmoceinamcdaaGreat

namespace Go.Proofs.YtafmoceinamcdaaGreat
open Go.Shelf

def Sh.lays103_ren : Go.Shelf.Ren := ⟨fun | 103 => 105 | 210 => 139 | 206 => 103 | n => n, fun | 9 => 9 | 4 => 4 | 24 => 68 | 3 => 3 | n => n, fun | n => n⟩

theorem Sh.lays103 : Go.Proofs.Lays.n103 Tryz.prog Sh.lays103_ren := {
  mixed := by kernel_rfl
  f103 := Tryz.func105.trans (congrArg some (by kernel_rfl))
  f206 := Tryz.func103.trans (congrArg some (by kernel_rfl))
  f210 := Tryz.func139.trans (congrArg some (by kernel_rfl))
  t3 := Tryz.underlying3
  a3 := Tryz.isAgg3
  z3 := Tryz.sizeOf3
  v3 := Tryz.zeroValue3
  t4 := Tryz.underlying4
  a4 := Tryz.isAgg4
  z4 := Tryz.sizeOf4
  v4 := Tryz.zeroValue4
  t9 := Tryz.underlying9
  a9 := Tryz.isAgg9
  z9 := Tryz.sizeOf9
  v9 := Tryz.zeroValue9
  t24 := Tryz.underlying68
  a24 := Tryz.isAgg68
  z24 := Tryz.sizeOf68
  v24 := Tryz.zeroValue68 }

open Go.RowKit in
theorem Sh.strings_CutPrefix (s p : ByteArray) (w : World) :
    Calls Tryz.prog 105 #[.string s, .string p] w fun e w' => e = .returned (.tuple #[.string ⟨(Lib.trimPrefix s.data.toList p.data.toList).toArray⟩, .bool (Lib.hasPrefix s.data.toList p.data.toList)]) ∧ w' = w := Any.strings_CutPrefix Sh.lays103 s p w

def Sh.laysM316_ren : Go.Shelf.Ren := ⟨fun | 316 => 89 | n => n, fun | 9 => 9 | 3 => 3 | 4 => 4 | 37 => 38 | 0 => 0 | 127 => 186 | 5 => 5 | n => n, fun | n => n⟩

theorem Sh.laysM316 : Go.Proofs.LaysM.n316 Tryz.prog Sh.laysM316_ren := {
  mixed := by kernel_rfl
  f316 := Tryz.func89.trans (congrArg some (by kernel_rfl))
  t0 := Tryz.underlying0
  a0 := Tryz.isAgg0
  z0 := Tryz.sizeOf0
  v0 := Tryz.zeroValue0
  t3 := Tryz.underlying3
  a3 := Tryz.isAgg3
  z3 := Tryz.sizeOf3
  v3 := Tryz.zeroValue3
  t4 := Tryz.underlying4
  a4 := Tryz.isAgg4
  z4 := Tryz.sizeOf4
  v4 := Tryz.zeroValue4
  t9 := Tryz.underlying9
  a9 := Tryz.isAgg9
  z9 := Tryz.sizeOf9
  v9 := Tryz.zeroValue9
  t37 := Tryz.underlying38
  a37 := Tryz.isAgg38
  z37 := Tryz.sizeOf38
  v37 := Tryz.zeroValue38
  t127 := Tryz.underlying186
  a127 := Tryz.isAgg186
  z127 := Tryz.sizeOf186
  v127 := Tryz.zeroValue186
  t5 := Tryz.underlying5
  a5 := Tryz.isAgg5
  z5 := Tryz.sizeOf5
  v5 := Tryz.zeroValue5
  i0 := by kernel_rfl
  i3 := by kernel_rfl
  i4 := by kernel_rfl
  i5 := by kernel_rfl
  i9 := by kernel_rfl
  i37 := by kernel_rfl
  i127 := by kernel_rfl }

open Go.RowKit in
theorem Sh.stringslite_Clone (s : ByteArray) (w : World) (hlim : s.size ≤ 281474976710656) :
    Calls Tryz.prog 89 #[.string s] w fun e w' => e = .returned (.string s) ∧ Below w.heap.size w w' := Any.stringslite_Clone Sh.laysM316 s w hlim

def Sh.lays148_ren : Go.Shelf.Ren := ⟨fun | 148 => 64 | 222 => 112 | 223 => 113 | 269 => 140 | n => n, fun | 9 => 9 | 3 => 3 | 4 => 4 | 5 => 5 | 146 => 198 | 51 => 197 | 46 => 184 | n => n, fun | n => n⟩

theorem Sh.lays148 : Go.Proofs.Lays.n148 Tryz.prog Sh.lays148_ren := {
  mixed := by kernel_rfl
  f148 := Tryz.func64.trans (congrArg some (by kernel_rfl))
  f222 := Tryz.func112.trans (congrArg some (by kernel_rfl))
  f223 := Tryz.func113.trans (congrArg some (by kernel_rfl))
  f269 := Tryz.func140.trans (congrArg some (by kernel_rfl))
  t3 := Tryz.underlying3
  a3 := Tryz.isAgg3
  z3 := Tryz.sizeOf3
  v3 := Tryz.zeroValue3
  t4 := Tryz.underlying4
  a4 := Tryz.isAgg4
  z4 := Tryz.sizeOf4
  v4 := Tryz.zeroValue4
  t5 := Tryz.underlying5
  a5 := Tryz.isAgg5
  z5 := Tryz.sizeOf5
  v5 := Tryz.zeroValue5
  t9 := Tryz.underlying9
  a9 := Tryz.isAgg9
  z9 := Tryz.sizeOf9
  v9 := Tryz.zeroValue9
  t46 := Tryz.underlying184
  a46 := Tryz.isAgg184
  z46 := Tryz.sizeOf184
  v46 := Tryz.zeroValue184
  t51 := Tryz.underlying197
  a51 := Tryz.isAgg197
  z51 := Tryz.sizeOf197
  v51 := Tryz.zeroValue197
  t146 := Tryz.underlying198
  a146 := Tryz.isAgg198
  z146 := Tryz.sizeOf198
  v146 := Tryz.zeroValue198 }

open Go.RowKit Go.Lib in
theorem Sh.strings_LastIndex_one (s sub : ByteArray) (h1 : sub.size = 1) (hs : s.size < 4611686018427387904) (w : World) :
    Calls Tryz.prog 64 #[.string s, .string sub] w fun e w' => e = .returned (.int .i64 (Lib.lastIndexByte s ((sub[0]'(by omega)).toNat : Int))) ∧ w' = w := Any.strings_LastIndex_one Sh.lays148 s sub h1 hs w

def Sh.lays99_ren : Go.Shelf.Ren := ⟨fun | 99 => 55 | 206 => 103 | n => n, fun | 9 => 9 | 4 => 4 | 3 => 3 | n => n, fun | n => n⟩

theorem Sh.lays99 : Go.Proofs.Lays.n99 Tryz.prog Sh.lays99_ren := {
  mixed := by kernel_rfl
  f99 := Tryz.func55.trans (congrArg some (by kernel_rfl))
  f206 := Tryz.func103.trans (congrArg some (by kernel_rfl))
  t3 := Tryz.underlying3
  a3 := Tryz.isAgg3
  z3 := Tryz.sizeOf3
  v3 := Tryz.zeroValue3
  t4 := Tryz.underlying4
  a4 := Tryz.isAgg4
  z4 := Tryz.sizeOf4
  v4 := Tryz.zeroValue4
  t9 := Tryz.underlying9
  a9 := Tryz.isAgg9
  z9 := Tryz.sizeOf9
  v9 := Tryz.zeroValue9 }

open Go.RowKit Go.Lib in
theorem Sh.strings_HasPrefix (s p : ByteArray) (w : World) :
    Calls Tryz.prog 55 #[.string s, .string p] w fun e w' => e = .returned (.bool (Lib.hasPrefix s.data.toList p.data.toList)) ∧ w' = w := Any.strings_HasPrefix Sh.lays99 s p w

def Sh.lays107_ren : Go.Shelf.Ren := ⟨fun | 107 => 53 | 108 => 101 | n => n, fun | 28 => 59 | 3 => 3 | 4 => 4 | 0 => 0 | n => n, fun | n => n⟩

theorem Sh.lays107 : Go.Proofs.Lays.n107 Tryz.prog Sh.lays107_ren := {
  mixed := by kernel_rfl
  f107 := Tryz.func53.trans (congrArg some (by kernel_rfl))
  f108 := Tryz.func101.trans (congrArg some (by kernel_rfl))
  t0 := Tryz.underlying0
  a0 := Tryz.isAgg0
  z0 := Tryz.sizeOf0
  v0 := Tryz.zeroValue0
  t3 := Tryz.underlying3
  a3 := Tryz.isAgg3
  z3 := Tryz.sizeOf3
  v3 := Tryz.zeroValue3
  t4 := Tryz.underlying4
  a4 := Tryz.isAgg4
  z4 := Tryz.sizeOf4
  v4 := Tryz.zeroValue4
  t28 := Tryz.underlying59
  a28 := Tryz.isAgg59
  z28 := Tryz.sizeOf59
  v28 := Tryz.zeroValue59 }

open Go.Lib in
theorem Sh.slices_Contains_int (b off n c : Nat) (zs : List Int) (x : Int) (w : World) (hz : n ≤ zs.length) (hbig : n ≤ 9223372036854775807) (hc : ∀ j, j < zs.length → w.cell? ⟨b, off + j, none⟩ = some (.int .i64 (zs.getD j 0))) :
    Calls Tryz.prog 53 #[.slice (some ⟨b, off, none⟩) n c, .int .i64 x] w fun e w' => e = .returned (.bool ((zs.take n).contains x)) ∧ w' = w := Any.slices_Contains_int Sh.lays107 b off n c zs x w hz hbig hc

open Go.Lib in
theorem Sh.slices_Contains_int_empty (a : Option Addr) (c : Nat) (x : Int) (w : World) :
    Calls Tryz.prog 53 #[.slice a 0 c, .int .i64 x] w fun e w' => e = .returned (.bool false) ∧ w' = w := Any.slices_Contains_int_empty Sh.lays107 a c x w

def Sh.lays110_ren : Go.Shelf.Ren := ⟨fun | 110 => 54 | 109 => 102 | n => n, fun | 31 => 30 | 9 => 9 | 4 => 4 | 3 => 3 | 0 => 0 | n => n, fun | n => n⟩

theorem Sh.lays110 : Go.Proofs.Lays.n110 Tryz.prog Sh.lays110_ren := {
  mixed := by kernel_rfl
  f109 := Tryz.func102.trans (congrArg some (by kernel_rfl))
  f110 := Tryz.func54.trans (congrArg some (by kernel_rfl))
  t0 := Tryz.underlying0
  a0 := Tryz.isAgg0
  z0 := Tryz.sizeOf0
  v0 := Tryz.zeroValue0
  t3 := Tryz.underlying3
  a3 := Tryz.isAgg3
  z3 := Tryz.sizeOf3
  v3 := Tryz.zeroValue3
  t4 := Tryz.underlying4
  a4 := Tryz.isAgg4
  z4 := Tryz.sizeOf4
  v4 := Tryz.zeroValue4
  t9 := Tryz.underlying9
  a9 := Tryz.isAgg9
  z9 := Tryz.sizeOf9
  v9 := Tryz.zeroValue9
  t31 := Tryz.underlying30
  a31 := Tryz.isAgg30
  z31 := Tryz.sizeOf30
  v31 := Tryz.zeroValue30 }

open Go.Lib in
theorem Sh.slices_Contains_string (b off n c : Nat) (zs : List ByteArray) (x : ByteArray) (w : World) (hz : n ≤ zs.length) (hbig : n ≤ 9223372036854775807) (hc : ∀ j, j < zs.length → w.cell? ⟨b, off + j, none⟩ = some (.string (zs.getD j ByteArray.empty))) :
    Calls Tryz.prog 54 #[.slice (some ⟨b, off, none⟩) n c, .string x] w fun e w' => e = .returned (.bool (Lib.containsS (zs.take n) x)) ∧ w' = w := Any.slices_Contains_string Sh.lays110 b off n c zs x w hz hbig hc

open Go.Lib in
theorem Sh.slices_Contains_string_empty (a : Option Addr) (c : Nat) (x : ByteArray) (w : World) :
    Calls Tryz.prog 54 #[.slice a 0 c, .string x] w fun e w' => e = .returned (.bool false) ∧ w' = w := Any.slices_Contains_string_empty Sh.lays110 a c x w

end Go.Proofs.YtafmoceinamcdaaGreat

namespace Go.Proofs.YtafmoceinamcdaaGreat
open Go.RowKit
set_option linter.unusedVariables false
set_option linter.unusedSimpArgs false

theorem nul_of (l : List Int) : (⟨(l.map fun n => UInt8.ofNat n.toNat).toArray⟩ : ByteArray) = strOfNums l := by
  apply ByteArray.ext
  apply Array.ext'
  rw [strOfNums_data]

set_option maxHeartbeats 400000 in
theorem pnclone_any (S : ByteArray) (w : World) (hlen : S.size ≤ 1000000) :
    Calls Tryz.prog 45 #[.string S] w fun e w' => e = .returned (.string S) ∧ Below w.heap.size w w' := by
  have Q : Hid _ := Sh.stringslite_Clone S w (by omega)
  go_enter Tryz.func45, Tryz.ntmps45
  go_wp2_with fail
  refine Calls.mono Q.out ?_
  rintro e w1 ⟨rfl, hb⟩
  go_wp2
  go_ret
  exact ⟨rfl, hb⟩

set_option maxHeartbeats 1000000 in
theorem pjoin_any (a b : List Int) (w : World) (hT : Hid (NTab w)) (ha : Hid (byts a)) (hb : Hid (byts b)) (hl : a.length ≤ 10000) (hl2 : b.length ≤ 10000) :
    Calls Tryz.prog 57 #[.string (strOfNums a), .string (strOfNums b)] w fun e w' => e = .returned (.string (strOfNums (njoin a b))) ∧ Below w.heap.size w w' := by
  unfold njoin
  by_cases h : a = []
  · rw [if_pos h]
    have hne : ((strOfNums a).toList == []) = true := by rw [h, str_list]; rfl
    have Q : Hid _ := fun W => pnclone_any (strOfNums b) W (by rw [strOfNums_size]; omega)
    generalize strOfNums a = A at hne
    generalize strOfNums b = B at Q
    go_enter Tryz.func57, Tryz.ntmps57
    go_wp2_with fail
    refine Calls.mono (Q.out _) ?_
    rintro e w1 ⟨rfl, hb1⟩
    go_wp2
    go_ret
    exact ⟨rfl, hb1⟩
  · rw [if_neg h]
    have hne : ((strOfNums a).toList == []) = false := by
      cases a with
      | nil => exact absurd rfl h
      | cons c r => exact str_ne c r
    have h1 : ∀ W, (Op.stringOp .add (strOfNums a) { data := #[46] }).run Tryz.prog W = .ok (.string (strOfNums (a ++ [46]))) W := fun W => run_add W a [46] (by simp; omega)
    have h2 : ∀ W, (Op.stringOp .add (strOfNums (a ++ [46])) (strOfNums b)).run Tryz.prog W = .ok (.string (strOfNums (a ++ [46] ++ b))) W := fun W => run_add W (a ++ [46]) b (by simp; omega)
    clear h
    generalize strOfNums (a ++ [46] ++ b) = R at h2
    generalize strOfNums (a ++ [46]) = AP at h1 h2
    generalize strOfNums a = A at hne h1
    generalize strOfNums b = B at h2
    go_enter Tryz.func57, Tryz.ntmps57
    go_wp2
    go_ret
    exact ⟨rfl, Below.refl _ _⟩

theorem str_bang (s : List Int) (hz : ∀ i, 0 ≤ s.getD i 0 ∧ s.getD i 0 ≤ 255) (j : Nat) (hj : j < s.length) : (((strOfNums s).data[j]!).toNat : Int) = s.getD j 0 := by
  have hj' : j < (strOfNums s).size := by rw [strOfNums_size]; exact hj
  have := str_at s hz j hj'
  rw [← this]
  have e := get_at (strOfNums s) j hj'
  rw [Nat.add_zero] at e
  rw [← e]
  rfl

theorem last_dot (s : List Int) (hz : ∀ i, 0 ≤ s.getD i 0 ∧ s.getD i 0 ≤ 255) : ∀ k, k ≤ s.length → Lib.lastIdx (strOfNums s) 46 k = (nlast s k : Int) - 1
  | 0, _ => rfl
  | k + 1, h => by
    rw [Lib.lastIdx, str_bang s hz k (by omega), nlast]
    by_cases e : s.getD k 0 = 46
    · rw [if_pos e, if_pos e]; omega
    · rw [if_neg e, if_neg e, last_dot s hz k (by omega)]

set_option maxHeartbeats 1000000 in
theorem pncut_any (s : List Int) (w : World) (hz : Hid (∀ i, 0 ≤ s.getD i 0 ∧ s.getD i 0 ≤ 255)) (hlen : (s.length : Int) ≤ 100000) :
    Calls Tryz.prog 104 #[.string (strOfNums s)] w fun e w' => e = .returned (.tuple #[.string (strOfNums (nparent s).1), .string (strOfNums (nparent s).2)]) ∧ Below w.heap.size w w' := by
  have hsz := strOfNums_size s
  have q := fun W => Sh.strings_LastIndex_one (strOfNums s) { data := #[46] } rfl (by omega) W
  have he : Lib.lastIndexByte (strOfNums s) (((({ data := #[46] } : ByteArray)[0]'(by decide)).toNat : Nat) : Int) = (nlast s s.length : Int) - 1 := by
    show Lib.lastIdx (strOfNums s) 46 (strOfNums s).size = _
    rw [hsz]
    exact last_dot s hz.out s.length (Nat.le_refl _)
  have q' : ∀ W, Calls Tryz.prog 64 #[.string (strOfNums s), .string { data := #[46] }] W fun e w' => e = .returned (.int .i64 ((nlast s s.length : Int) - 1)) ∧ w' = W := fun W => by rw [← he]; exact q W
  clear q he
  have hle := nlast_le s s.length
  by_cases h0 : nlast s s.length = 0
  · have E : Hid (nparent s = ([], s)) := by show _ = _; unfold nparent; rw [if_pos h0]
    rw [h0] at q'
    have Q : Hid (∀ W, Calls Tryz.prog 64 #[.string (strOfNums s), .string { data := #[46] }] W fun e w' => e = .returned (.int .i64 (-1)) ∧ w' = W) := q'
    have h1 := run_head s 0 (by omega) (by omega)
    have h2 := run_tail s 0 (by omega) 0 rfl
    rw [E.out]
    simp only [List.take_zero, List.drop_zero, Int.ofNat_zero] at h1 h2 ⊢
    have HE : Hid ((strOfNums s).extract 0 0 = strOfNums []) := by show _ = _; rw [str_cut]; simp
    obtain ⟨A, hA⟩ : ∃ A, A = strOfNums [] := ⟨_, rfl⟩
    rw [← hA] at h1 HE ⊢
    clear q' E hle h0 hA h1
    generalize strOfNums s = S at *
    go_enter Tryz.func104, Tryz.ntmps104
    go_wp2_with fail
    refine Calls.mono (Q.out _) ?_
    rintro e w1 ⟨rfl, rfl⟩
    go_wp2
    go_region
    go_wp2
    go_ret2
    refine ⟨?_, (Below.refl _ _).drew⟩
    show Ending.returned (Value.tuple #[.string (S.extract 0 0), .string S]) = _
    rw [HE.out]
  · obtain ⟨m, hm⟩ : ∃ m, nlast s s.length = m + 1 := ⟨nlast s s.length - 1, by omega⟩
    have E : Hid (nparent s = (s.take m, s.drop (m + 1))) := by show _ = _; unfold nparent; rw [if_neg h0, hm, Nat.add_sub_cancel]
    rw [hm, show (((m + 1 : Nat) : Int) - 1) = (m : Int) by omega] at q'
    have Q : Hid _ := q'
    have h1 := run_head s m (by omega) (by omega)
    have h2 := run_tail s (m + 1) (by omega) ((m : Int) + 1) (by omega)
    have hm1 : m + 1 ≤ s.length := by omega
    have hmx : ¬ (m : Int) < 0 := by omega
    have hmx2 : (0 : Int) ≤ (m : Int) := by omega
    rw [E.out]
    obtain ⟨A, hA⟩ : ∃ A, A = strOfNums (s.take m) := ⟨_, rfl⟩
    obtain ⟨B, hB⟩ : ∃ B, B = strOfNums (s.drop (m + 1)) := ⟨_, rfl⟩
    simp only []
    rw [← hA] at h1 ⊢
    rw [← hB] at h2 ⊢
    clear q' E hle h0 hA hB hm
    generalize strOfNums s = S at *
    go_enter Tryz.func104, Tryz.ntmps104
    go_wp2_with fail
    refine Calls.mono (Q.out _) ?_
    rintro e w1 ⟨rfl, rfl⟩
    go_wp2
    go_region
    go_wp2
    go_ret2
    exact ⟨rfl, (Below.refl _ _).drew⟩

set_option maxHeartbeats 1000000 in
theorem pparent_any (s : List Int) (w : World) (hT : Hid (NTab w)) (hz : Hid (∀ i, 0 ≤ s.getD i 0 ∧ s.getD i 0 ≤ 255)) (hlen : (s.length : Int) ≤ 100000) :
    Calls Tryz.prog 56 #[.string (strOfNums s)] w fun e w' => e = .returned (.tuple #[.string (strOfNums (nparent s).1), .string (strOfNums (nparent s).2)]) ∧ Below w.heap.size w w' := by
  have Q : Hid _ := pncut_any s w hz hlen
  have hl : (nparent s).1.length ≤ s.length ∧ (nparent s).2.length ≤ s.length := by unfold nparent; split <;> simp <;> omega
  have Q1 : Hid _ := fun W => pnclone_any (strOfNums (nparent s).1) W (by rw [strOfNums_size]; omega)
  have Q2 : Hid _ := fun W => pnclone_any (strOfNums (nparent s).2) W (by rw [strOfNums_size]; omega)
  clear hl
  generalize strOfNums (nparent s).1 = A at *
  generalize strOfNums (nparent s).2 = B at *
  go_enter Tryz.func56, Tryz.ntmps56
  go_wp2_with fail
  refine Calls.mono Q.out ?_
  rintro e w1 ⟨rfl, hb1⟩
  go_wp2_with fail
  refine Calls.mono (Q1.out _) ?_
  rintro e w2 ⟨rfl, hb2⟩
  go_wp2_with fail
  refine Calls.mono (Q2.out _) ?_
  rintro e w3 ⟨rfl, hb3⟩
  go_wp2
  go_ret2
  exact ⟨rfl, (hb1.trans (hb2.mono hb1.size)).trans (hb3.mono (Nat.le_trans hb1.size hb2.size))⟩

theorem pre_dot (s : List Int) (hs : byts s) : Lib.hasPrefix (strOfNums s).data.toList [46] = decide (s.getD 0 0 = 46) := by
  rw [strOfNums_data]
  unfold Lib.hasPrefix
  cases s with
  | nil => rfl
  | cons c r =>
    have hc := hs c (by simp)
    rw [Bool.eq_iff_iff, decide_eq_true_eq]
    simp only [List.map_cons, List.isPrefixOf, Bool.and_true, beq_iff_eq, List.getD_cons_zero]
    constructor
    · intro e
      exact u8_inj hc (by omega) (by rw [← e]; rfl)
    · rintro rfl; rfl

theorem pcutpre_any (s : List Int) (w : World) (hs : Hid (byts s)) :
    Calls Tryz.prog 105 #[.string (strOfNums s), .string { data := #[46] }] w fun e w' => e = .returned (.tuple #[.string (strOfNums (if s.getD 0 0 = 46 then s.drop 1 else s)), .bool (decide (s.getD 0 0 = 46))]) ∧ w' = w := by
  have q := Sh.strings_CutPrefix (strOfNums s) { data := #[46] } w
  have e1 : Lib.hasPrefix (strOfNums s).data.toList ({ data := #[46] } : ByteArray).data.toList = decide (s.getD 0 0 = 46) := pre_dot s hs.out
  unfold Lib.trimPrefix at q
  rw [e1] at q
  have e2 : (⟨(if decide (s.getD 0 0 = 46) = true then (strOfNums s).data.toList.drop ({ data := #[46] } : ByteArray).data.toList.length else (strOfNums s).data.toList).toArray⟩ : ByteArray) = strOfNums (if s.getD 0 0 = 46 then s.drop 1 else s) := by
    rw [strOfNums_data]
    by_cases h : s.getD 0 0 = 46
    · rw [if_pos (decide_eq_true h), if_pos h, ← nul_of, List.map_drop]; rfl
    · rw [if_neg (by simpa using h), if_neg h, ← nul_of]
  rw [e2] at q
  exact q

set_option maxHeartbeats 2000000 in
theorem pplaces_any (scope name : List Int) (w : World) (hT : Hid (NTab w)) (hsb : Hid (byts scope)) (hnb : Hid (byts name)) (hs : scope.length ≤ 10000) (hn : name.length ≤ 10000) :
    Calls Tryz.prog 58 #[.string (strOfNums scope), .string (strOfNums name)] w fun e w' => ∃ v, e = .returned v ∧ So w' w.heap.size v (nplaces scope name) ∧ Below w.heap.size w w' := by
  have q := fun W => pcutpre_any name W hnb
  by_cases hpt : name.getD 0 0 = 46
  · rw [if_pos hpt, decide_eq_true hpt] at q
    have E : Hid (nplaces scope name = [name.drop 1]) := by show _ = _; unfold nplaces; rw [if_pos hpt]
    have HB1 : Hid (byts (name.drop 1)) := fun c hc => hnb.out c (List.mem_of_mem_drop hc)
    have Q2 : Hid _ := fun W => pnclone_any (strOfNums (name.drop 1)) W (by rw [strOfNums_size, List.length_drop]; omega)
    have Q : Hid _ := q
    obtain ⟨T, hTT⟩ : ∃ T, T = strOfNums (name.drop 1) := ⟨_, rfl⟩
    rw [← hTT] at Q Q2
    have HTT : Hid (T = strOfNums (name.drop 1)) := hTT
    clear q hTT hpt
    generalize strOfNums scope = A
    generalize strOfNums name = N at Q
    go_enter Tryz.func58, Tryz.ntmps58
    go_wp2_with fail
    refine Calls.mono (Q.out _) ?_
    rintro e w1 ⟨rfl, rfl⟩
    go_wp2_with fail
    refine Calls.mono (Q2.out _) ?_
    rintro e w2 ⟨rfl, hb2⟩
    go_wp2
    go_ret
    refine ⟨_, rfl, ?_, hb2.alloc hb2.size _⟩
    rw [E.out]
    refine ⟨?_, fun z hz => by simp only [List.mem_cons, List.not_mem_nil, or_false] at hz; subst hz; exact HB1.out⟩
    have := World.ownsRow_lit (base := w1.heap.size) (e := 9) (size := 1) w2 #[.string T] 1 hb2.size (by decide) rfl
    simpa [scell, HTT.out] using this
  · rw [if_neg hpt, decide_eq_false hpt] at q
    have Q0 : Hid _ := q
    clear q
    have E : Hid (nplaces scope name = nplc name scope.length scope) := by show _ = _; unfold nplaces; rw [if_neg hpt]
    obtain ⟨R, hR⟩ : ∃ R, R = nplaces scope name := ⟨_, rfl⟩
    rw [← hR]
    have HR : Hid (R = [] ++ nplc name scope.length scope) := by show _ = _; rw [hR, E.out]; rfl
    clear hR E hpt
    go_enter Tryz.func58, Tryz.ntmps58
    go_wp2_with fail
    refine Calls.mono (Q0.out _) ?_
    rintro e w1 ⟨rfl, rfl⟩
    go_wp2
    go_loopw [0, 7] (fun sv v wr => ∃ (sc : List Int) (o : List (List Int)), sv = .string (strOfNums sc) ∧ o.length + sc.length ≤ 10000 ∧ Hid (byts sc) ∧ Hid (R = o ++ nplc name sc.length sc) ∧ Hid (So wr w1.heap.size v o) ∧ Hid (Below w1.heap.size w1 wr)) (fun sv _ _ => txtLen sv)
    case atStart => exact ⟨scope, [], rfl, by simp; omega, hsb, HR, So.nil _ _, Below.refl _ _⟩
    case round =>
      obtain ⟨sc, o, rfl, hol, HSb, HJ, HO, HB⟩ := hrel
      have hbs := HB.out.size
      have hn1 : o.length + 1 ≤ 1000000 := by omega
      have q1 := fun W => pjoin_any sc name W trivial HSb hnb (by omega) hn
      have HJb : Hid (byts (njoin sc name)) := njoin_bd sc name HSb.out hnb.out
      by_cases hsc : sc = []
      · have hs0 : ((strOfNums sc).toList == []) = true := by rw [hsc, str_list]; rfl
        have HE : Hid (R = o ++ [njoin sc name]) := by show _ = _; rw [HJ.out, hsc]; rfl
        generalize njoin sc name = J at HE q1 HJb
        have Q1 : Hid _ := q1
        generalize strOfNums sc = A at hs0 Q1 q1
        generalize strOfNums name = N at Q1 q1 Q0
        clear HJ HR hsc q1
        go_wp2_with fail
        refine Calls.mono (Q1.out _) ?_
        rintro e w2 ⟨rfl, hb2⟩
        have HB2 : Hid (Below w1.heap.size w1 w2) := HB.out.trans (hb2.mono hbs)
        have HOA : Hid (So (w2.alloc (.cells #[.string (strOfNums J)] 9)) w1.heap.size _ o) := (HO.out.below hb2).below ((Below.refl _ _).alloc (Nat.le_refl _) _)
        have HBA : Hid (Below w1.heap.size w1 (w2.alloc (.cells #[.string (strOfNums J)] 9))) := HB2.out.alloc HB2.out.size _
        have HCL : Hid ((w2.alloc (.cells #[.string (strOfNums J)] 9)).cell? ⟨w2.heap.size, 0, none⟩ = some (scell J)) := str_cell w2 _
        clear hb2
        go_wp2_with (at_builtin; refine wpList_append_s rfl _ _ rfl w1.heap.size _ o J w2.heap.size 1 rfl rfl HOA.out HJb.out HCL.out hn1 HBA.out.size ?_; intro v2 w3 hO2 hgrow2)
        go_ret
        exact ⟨_, rfl, by rw [HE.out]; exact hO2, HOA.out.grown HBA.out HBA.out.size hgrow2⟩
      · have hs0 : ((strOfNums sc).toList == []) = false := by
          cases sc with
          | nil => exact absurd rfl hsc
          | cons c r => exact str_ne c r
        have hlt := nparent_lt sc hsc
        have HE : Hid (R = (o ++ [njoin sc name]) ++ nplc name (nparent sc).1.length (nparent sc).1) := by show _ = _; rw [HJ.out, nplc_more name sc hsc]; simp
        have q2 := fun W => pncut_any sc W (getD_bd HSb.out) (by omega)
        have HPb : Hid (byts (nparent sc).1) := (nparent_bd sc HSb.out).1
        have HML : Hid (txtLen (.string (strOfNums (nparent sc).1)) < txtLen (.string (strOfNums sc))) := by show (strOfNums (nparent sc).1).size < (strOfNums sc).size; rw [strOfNums_size, strOfNums_size]; exact hlt
        generalize njoin sc name = J at HE q1 HJb
        generalize (nparent sc).2 = P2 at q2
        generalize (nparent sc).1 = P1 at HE q2 HPb HML hlt
        have Q1 : Hid _ := q1
        have Q2 : Hid _ := q2
        generalize strOfNums sc = A at hs0 Q1 Q2 q1 q2 HML
        generalize strOfNums name = N at Q1 q1 Q0
        clear HJ HR hsc q1 q2
        go_wp2_with fail
        refine Calls.mono (Q1.out _) ?_
        rintro e w2 ⟨rfl, hb2⟩
        have HB2 : Hid (Below w1.heap.size w1 w2) := HB.out.trans (hb2.mono hbs)
        have HOA : Hid (So (w2.alloc (.cells #[.string (strOfNums J)] 9)) w1.heap.size _ o) := (HO.out.below hb2).below ((Below.refl _ _).alloc (Nat.le_refl _) _)
        have HBA : Hid (Below w1.heap.size w1 (w2.alloc (.cells #[.string (strOfNums J)] 9))) := HB2.out.alloc HB2.out.size _
        have HCL : Hid ((w2.alloc (.cells #[.string (strOfNums J)] 9)).cell? ⟨w2.heap.size, 0, none⟩ = some (scell J)) := str_cell w2 _
        clear hb2
        go_wp2_with (at_builtin; refine wpList_append_s rfl _ _ rfl w1.heap.size _ o J w2.heap.size 1 rfl rfl HOA.out HJb.out HCL.out hn1 HBA.out.size ?_; intro v2 w3 hO2 hgrow2; have HB3 : Hid (Below w1.heap.size w1 w3) := HOA.out.grown HBA.out HBA.out.size hgrow2; clear hgrow2)
        refine Calls.mono (Q2.out _) ?_
        rintro e w4 ⟨rfl, hb4⟩
        have HO4 : Hid (So w4 w1.heap.size v2 (o ++ [J])) := hO2.below hb4
        have HB4 : Hid (Below w1.heap.size w1 w4) := HB3.out.trans (hb4.mono HB3.out.size)
        clear hO2 hb4
        go_wp2
        go_roundw
        case rel => first | exact ⟨P1, o ++ [J], rfl, by simp; omega, HPb, HE, HO4, HB4⟩ | ((repeat apply Exists.intro); exact ⟨⟨P1, o ++ [J], rfl, by simp; omega, HPb, HE, HO4, HB4⟩, rfl⟩)
        case measure => exact HML.out

end Go.Proofs.YtafmoceinamcdaaGreat

namespace Go.Proofs.YtafmoceinamcdaaGreat
set_option linter.unusedVariables false
set_option linter.unusedSimpArgs false

def slt (x y : ByteArray) : Bool := Op.bytesLess x.toList y.toList

theorem toList_inj {x y : ByteArray} (h : x.toList = y.toList) : x = y := by
  rw [ByteArray.toList_eq, ByteArray.toList_eq] at h
  cases x
  cases y
  simpa using h

end Go.Proofs.YtafmoceinamcdaaGreat

namespace Go.Proofs.YtafmoceinamcdaaGreat
open Go.RowKit
set_option linter.unusedVariables false
set_option linter.unusedSimpArgs false

structure Sb (w : World) (a : Option Addr) (len cap : Nat) (zs : List ByteArray) : Prop where
  hlen : zs.length = len
  h63 : (len : Int) ≤ 9223372036854775807
  hcap : len ≤ cap
  hnil : a = none → cap = 0
  hmem : 0 < len → ∃ b off, a = some ⟨b, off, none⟩ ∧ b < w.heap.size ∧ ∀ (i : Nat) (z : ByteArray), zs[i]? = some z → w.cell? ⟨b, off + i, none⟩ = some (.string z)

theorem Sb.below {w w' : World} {a : Option Addr} {len cap : Nat} {zs : List ByteArray} (h : Sb w a len cap zs) (hb : Below w.heap.size w w') : Sb w' a len cap zs := by
  refine ⟨h.hlen, h.h63, h.hcap, h.hnil, fun hp => ?_⟩
  obtain ⟨b, off, h1, hlt, hc⟩ := h.hmem hp
  exact ⟨b, off, h1, Nat.lt_of_lt_of_le hlt hb.size, fun i z hi => (hb.cell hlt).trans (hc i z hi)⟩

theorem text_eq (x y : ByteArray) : (x.toList == y.toList) = decide (x = y) := by
  by_cases h : x = y
  · subst h; simp
  · have : x.toList ≠ y.toList := fun e => h (toList_inj e)
    simp [h, this]

end Go.Proofs.YtafmoceinamcdaaGreat
