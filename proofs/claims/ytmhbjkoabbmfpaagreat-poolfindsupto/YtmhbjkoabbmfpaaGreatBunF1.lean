/- Put together by a program out of these texts of mine: Bas, LMath, NMath, QTak, LRef, LRef2, NRef, NStr, NRef3, NRef4, NSh, SoSh, NSi, VLe. -/
import Derived.Test.YtmhbjkoabbmfpaaGreatBunL1
import Derived.Test.YtmhbjkoabbmfpaaGreatBunL2
import Derived.Test.YtmhbjkoabbmfpaaGreatBunL3
import Derived.Test.YtmhbjkoabbmfpaaGreatBunL4
import Derived.Test.YtmhbjkoabbmfpaaGreatBunL5
import Derived.Test.YtmhbjkoabbmfpaaGreatBunL6
import Derived.Test.YtmhbjkoabbmfpaaGreatBunL7
import Derived.Test.YtmhbjkoabbmfpaaGreatBunL8
import Derived.Test.YtmhbjkoabbmfpaaGreatBunL9
import Derived.Test.YtmhbjkoabbmfpaaGreatBunL10
import Derived.Test.YtmhbjkoabbmfpaaGreatBunL11
import Derived.Test.YtmhbjkoabbmfpaaGreatBunL12
import Derived.Test.YtmhbjkoabbmfpaaGreatBunL13
import Derived.Test.YtmhbjkoabbmfpaaGreatBunL14
import Derived.Test.YtmhbjkoabbmfpaaGreatBunL15
import Derived.Test.YtmhbjkoabbmfpaaGreatBunL16
import Derived.Test.YtmhbjkoabbmfpaaGreatBunL17
import Derived.Test.YtmhbjkoabbmfpaaGreatBunL18
import Derived.Test.YtmhbjkoabbmfpaaGreatBunL19
import Derived.Test.YtmhbjkoabbmfpaaGreatBunL20
import Derived.Test.YtmhbjkoabbmfpaaGreatBunL21
import Derived.Test.YtmhbjkoabbmfpaaGreatBunL22
import Derived.Test.YtmhbjkoabbmfpaaGreatBunL23
import Derived.Test.YtmhbjkoabbmfpaaGreatBunL24
import Derived.Test.YtmhbjkoabbmfpaaGreatBunL25
import Derived.Test.YtmhbjkoabbmfpaaGreatBunL26
import Derived.Test.YtmhbjkoabbmfpaaGreatBunL27
import Derived.Test.YtmhbjkoabbmfpaaGreatBunL28
import Derived.Test.YtmhbjkoabbmfpaaGreatBunL29
import Derived.Test.YtmhbjkoabbmfpaaGreatBunL30
import Derived.Test.YtmhbjkoabbmfpaaGreatBunL31
import Derived.Test.YtmhbjkoabbmfpaaGreatBunL32
import Derived.Test.YtmhbjkoabbmfpaaGreatBunL33
import Derived.Test.YtmhbjkoabbmfpaaGreatBunL34
import Derived.Test.YtmhbjkoabbmfpaaGreatBunL35
import Derived.Test.YtmhbjkoabbmfpaaGreatBunL36
import Derived.Test.YtmhbjkoabbmfpaaGreatBunL37
import Derived.Test.YtmhbjkoabbmfpaaGreatBunL38
import Derived.Test.YtmhbjkoabbmfpaaGreatRows
import Derived.WalkKit
import Derived.WalkMore
import Derived.ScopeJumps
import Derived.OpenShut
import Derived.ProofKit
import Derived.Laws.BytesArg
import Derived.Deep.QuietTactic
import Derived.BigQuiet
import Derived.WalkSmall
import Derived.SliceStrings
import Derived.Shelf.Small.Wraps
import Derived.Shelf.LaysM
import Derived.Shelf.Strconv.Clone
import Derived.Shelf.Strings.LastIndex
import Derived.Shelf.Strings.Prefix
import Derived.Shelf.Slices.Turned
import Derived.Test.YtmhbjkoabbmfpaaGreatProg
import Derived.Shelf.SlSortCmp.Whole1
import Derived.Shelf.Strings.Search1
import Derived.Lib.OthersKept
import Derived.Deep.RegionWith
import Derived.Deep.DeepCutAuto
import Derived.Maps.AppendAt
import Derived.Maps.Own
import Derived.Deep.Slices
import Derived.WalkLawsBesides
import Derived.OrdersHeld
import Derived.Laws.MakeOwn
import Derived.Laws.EntriesVeiled
import Derived.Great.BuildSlice
import Derived.Defers
import Derived.Recover
import Derived.Maps.RangeRun
import Derived.Shelf.RegionOpenPlain
import Derived.Shelf.SlSortCmp.Xorshift
import Derived.Deep.Cut
import Derived.Deep.LoopGhost
import Derived.Laws.Bits64b
import Derived.Shelf.SlIter.Sorted
import Derived.Shelf.SortM.Plain
import Derived.Shelf.SortM.SortNone
import Derived.Deep.RegionLaw

namespace Go.Proofs.YtmhbjkoabbmfpaaGreat
open Go.RowKit

theorem ret_bool {a b : Bool} (h : a = b) : Ending.returned (.bool a) = .returned (.bool b) := by rw [h]

end Go.Proofs.YtmhbjkoabbmfpaaGreat

namespace Go.Proofs.YtmhbjkoabbmfpaaGreat
set_option linter.unusedSimpArgs false

def lletter (c : Int) : Bool := decide ((97 ≤ c ∧ c ≤ 122) ∨ (65 ≤ c ∧ c ≤ 90) ∨ (48 ≤ c ∧ c ≤ 57) ∨ c = 95)

def lnumb (c : Int) : Bool := decide (48 ≤ c ∧ c ≤ 57)

def lpc (s : List Int) (i k : Nat) : List Int := (s.take k).drop i

end Go.Proofs.YtmhbjkoabbmfpaaGreat

namespace Go.Proofs.YtmhbjkoabbmfpaaGreat
set_option linter.unusedSimpArgs false
set_option linter.unusedVariables false

def nident (s : List Int) : Bool := s.all lletter && decide (1 ≤ s.length ∧ s.length ≤ 200) && !lnumb (s.getD 0 0)

def nsp : List Int → List Int → List (List Int)
  | cur, [] => [cur]
  | cur, c :: r => if c = 46 then cur :: nsp [] r else nsp (cur ++ [c]) r

def nparts (s : List Int) : List (List Int) := nsp [] s

def nfull (s : List Int) : Bool := decide (s.length ≤ 1000) && (nparts s).all nident

end Go.Proofs.YtmhbjkoabbmfpaaGreat

namespace Go.Proofs.YtmhbjkoabbmfpaaGreat
open Go.RowKit
set_option linter.unusedVariables false
set_option linter.unusedSimpArgs false

theorem drop_at {l : List Int} {k : Nat} (h : k < l.length) : l.drop k = l.getD k 0 :: l.drop (k + 1) := by
  rw [List.drop_eq_getElem_cons h]
  simp [List.getD, List.getElem?_eq_getElem h]

set_option maxHeartbeats 1000000 in
theorem rletter_any (c : Int) (w : World) (h0 : 0 ≤ c) (h1 : c ≤ 255) :
    Calls Tryz.prog 108 #[.int .u8 c] w fun e w' => e = .returned (.bool (lletter c)) ∧ w = w' := by
  by_cases k95 : c = 95
  · have E : Hid (lletter c = true) := decide_eq_true (by omega)
    subst k95
    go_enter Tryz.func108, Tryz.ntmps108
    go_wp2
    go_ret
    exact ⟨by rw [E.out]; first | rfl | exact ret_bool (by simp; omega), rfl⟩
  have e95 : (c == 95) = false := by simpa using k95
  rcases (show (97 ≤ c ∧ c ≤ 122) ∨ (65 ≤ c ∧ c ≤ 90) ∨ (48 ≤ c ∧ c ≤ 57) ∨ c < 48 ∨ (57 < c ∧ c < 65) ∨ (90 < c ∧ c < 97) ∨ 122 < c by omega) with h | h | h | h | h | h | h
  · have E : Hid (lletter c = true) := decide_eq_true (by omega)
    obtain ⟨p1, p2⟩ := h
    go_enter Tryz.func108, Tryz.ntmps108
    go_wp2
    go_ret
    exact ⟨by rw [E.out]; first | rfl | exact ret_bool (by simp; omega), rfl⟩
  · have E : Hid (lletter c = true) := decide_eq_true (by omega)
    obtain ⟨p1, p2⟩ := h
    go_enter Tryz.func108, Tryz.ntmps108
    go_wp2
    go_ret
    exact ⟨by rw [E.out]; first | rfl | exact ret_bool (by simp; omega), rfl⟩
  · have E : Hid (lletter c = true) := decide_eq_true (by omega)
    obtain ⟨p1, p2⟩ := h
    go_enter Tryz.func108, Tryz.ntmps108
    go_wp2
    go_ret
    exact ⟨by rw [E.out]; first | rfl | exact ret_bool (by simp; omega), rfl⟩
  · have E : Hid (lletter c = false) := decide_eq_false (by omega)
    go_enter Tryz.func108, Tryz.ntmps108
    go_wp2
    go_ret
    exact ⟨by rw [E.out]; first | rfl | exact ret_bool (by simp; omega), rfl⟩
  · have E : Hid (lletter c = false) := decide_eq_false (by omega)
    obtain ⟨p1, p2⟩ := h
    go_enter Tryz.func108, Tryz.ntmps108
    go_wp2
    go_ret
    exact ⟨by rw [E.out]; first | rfl | exact ret_bool (by simp; omega), rfl⟩
  · have E : Hid (lletter c = false) := decide_eq_false (by omega)
    obtain ⟨p1, p2⟩ := h
    go_enter Tryz.func108, Tryz.ntmps108
    go_wp2
    go_ret
    exact ⟨by rw [E.out]; first | rfl | exact ret_bool (by simp; omega), rfl⟩
  · have E : Hid (lletter c = false) := decide_eq_false (by omega)
    go_enter Tryz.func108, Tryz.ntmps108
    go_wp2
    go_ret
    exact ⟨by rw [E.out]; first | rfl | exact ret_bool (by simp; omega), rfl⟩

set_option maxHeartbeats 400000 in
theorem rnumber_any (c : Int) (w : World) (h0 : 0 ≤ c) (h1 : c ≤ 255) :
    Calls Tryz.prog 109 #[.int .u8 c] w fun e w' => e = .returned (.bool (lnumb c)) ∧ w = w' := by
  rcases (show (48 ≤ c ∧ c ≤ 57) ∨ c < 48 ∨ 57 < c by omega) with h | h | h
  · have E : Hid (lnumb c = true) := decide_eq_true (by omega)
    obtain ⟨p1, p2⟩ := h
    go_enter Tryz.func109, Tryz.ntmps109
    go_wp2
    go_ret
    exact ⟨by rw [E.out]; first | rfl | exact ret_bool (by simp; omega), rfl⟩
  · have E : Hid (lnumb c = false) := decide_eq_false (by omega)
    go_enter Tryz.func109, Tryz.ntmps109
    go_wp2
    go_ret
    exact ⟨by rw [E.out]; first | rfl | exact ret_bool (by simp; omega), rfl⟩
  · have E : Hid (lnumb c = false) := decide_eq_false (by omega)
    go_enter Tryz.func109, Tryz.ntmps109
    go_wp2
    go_ret
    exact ⟨by rw [E.out]; first | rfl | exact ret_bool (by simp; omega), rfl⟩

theorem run_cut (S : ByteArray) (i j : Nat) (ii jj : Int) (hi : ii = (i : Int)) (hj : jj = (j : Int)) (h1 : i ≤ j) (h2 : j ≤ S.size) :
    ∀ W, (Instr.slice 9 (.string S) (some (.int .i64 ii)) (some (.int .i64 jj)) none).run Tryz.prog W = .ok (.string (S.extract i j)) W := fun W => by
  subst hi hj
  rw [run_slice_string W 9 S .i64 .i64 (i : Int) (j : Int) Tryz.underlying9 (by omega) (by omega) (by omega)]
  simp

theorem nident_big (s : List Int) (h : 200 < s.length ∨ s.length = 0) : nident s = false := by
  unfold nident
  rw [decide_eq_false (by omega)]
  simp

theorem nident_bad (s : List Int) (k : Nat) (hk : k < s.length) (h : lletter (s.getD k 0) = false) : nident s = false := by
  unfold nident
  have : s.all lletter = false := by
    rw [List.all_eq_false]
    refine ⟨s[k], List.getElem_mem hk, ?_⟩
    rw [show s.getD k 0 = s[k] by simp [List.getD, hk]] at h
    rw [h]; decide
  rw [this]; rfl

theorem nident_good (s : List Int) (h : ∀ k, k < s.length → lletter (s.getD k 0) = true) (h1 : 1 ≤ s.length) (h2 : s.length ≤ 200) : nident s = !lnumb (s.getD 0 0) := by
  unfold nident
  have : s.all lletter = true := by
    rw [List.all_eq_true]
    intro c hc
    obtain ⟨k, hk, rfl⟩ := List.getElem_of_mem hc
    have := h k hk
    rwa [show s.getD k 0 = s[k] by simp [List.getD, hk]] at this
  rw [this, decide_eq_true ⟨h1, h2⟩]; rfl

set_option maxHeartbeats 1000000 in
theorem rident_any (s : List Int) (w : World) (hz : Hid (∀ i, 0 ≤ s.getD i 0 ∧ s.getD i 0 ≤ 255)) (hlen : (s.length : Int) ≤ 9223372036854775807) :
    Calls Tryz.prog 62 #[.string (strOfNums s)] w fun e w' => e = .returned (.bool (nident s)) ∧ w = w' := by
  have hsz := strOfNums_size s
  have HA : Hid (∀ k, (h : k < s.length) → (((strOfNums s)[k]'(by rw [hsz]; exact h)).toNat : Int) = s.getD k 0) := fun k h => str_at s hz.out k _
  generalize strOfNums s = S at hsz HA
  go_enter Tryz.func62, Tryz.ntmps62
  go_wp2
  go_loopw [3] (fun v wr => ∃ k : Nat, v = .int .i64 (k : Int) ∧ k ≤ s.length ∧ Hid (∀ j, j < k → lletter (s.getD j 0) = true) ∧ w = wr) (fun v _ => s.length - (intOf v).toNat)
  case atStart => exact ⟨0, rfl, by omega, fun j hj => absurd hj (by omega), rfl⟩
  case round =>
    obtain ⟨k, rfl, hk, HJ, rfl⟩ := hrel
    by_cases hkl : k < s.length
    · have hat := HA.out k hkl
      have hcb := hz.out k
      obtain ⟨c, hc⟩ : ∃ c, c = s.getD k 0 := ⟨_, rfl⟩
      have HC : Hid (c = s.getD k 0) := hc
      rw [← hc] at hat hcb
      obtain ⟨c0, c255⟩ := hcb
      have q := fun W => rletter_any c W c0 c255
      clear hc
      by_cases hl : lletter c = true
      · rw [hl] at q
        have Q : Hid _ := q
        have HJ2 : Hid (∀ j, j < k + 1 → lletter (s.getD j 0) = true) := fun j hj => by
          by_cases e : j = k
          · rw [e, ← HC.out]; exact hl
          · exact HJ.out j (by omega)
        clear q hl HJ
        go_wp2_with fail
        refine Calls.mono (Q.out _) ?_
        rintro e w1 ⟨rfl, rfl⟩
        go_wp2
        go_roundw
        case rel => first | exact ⟨k + 1, by go_num, by omega, HJ2, by first | rfl | trivial⟩ | ((repeat apply Exists.intro); exact ⟨⟨k + 1, by go_num, by omega, HJ2, by first | rfl | trivial⟩, rfl⟩)
        case measure => simp [intOf]; omega
      · have hl' : lletter c = false := by simpa using hl
        rw [hl'] at q
        have Q : Hid _ := q
        have E : Hid (nident s = false) := nident_bad s k hkl (by rw [← HC.out]; exact hl')
        clear q hl hl' HJ
        go_wp2_with fail
        refine Calls.mono (Q.out _) ?_
        rintro e w1 ⟨rfl, rfl⟩
        go_wp2
        go_ret
        exact ⟨by rw [E.out]; rfl, rfl⟩
    · obtain rfl : k = s.length := by omega
      by_cases h0 : s.length = 0
      · have E : Hid (nident s = false) := nident_big s (.inr h0)
        have h1 : ¬ (1 : Int) ≤ (s.length : Int) := by omega
        clear HJ h0
        go_wp2
        go_ret
        exact ⟨by rw [E.out]; rfl, rfl⟩
      · have h1 : (1 : Int) ≤ (s.length : Int) := by omega
        by_cases h2 : s.length ≤ 200
        · have h2' : (s.length : Int) ≤ 200 := by omega
          have hat := HA.out 0 (by omega)
          have hcb := hz.out 0
          have E : Hid (nident s = !lnumb (s.getD 0 0)) := nident_good s HJ.out (by omega) h2
          generalize s.getD 0 0 = c at hat hcb E
          obtain ⟨c0, c255⟩ := hcb
          have Q : Hid _ := fun W => rnumber_any c W c0 c255
          clear HJ
          go_wp2_with fail
          refine Calls.mono (Q.out _) ?_
          rintro e w1 ⟨rfl, rfl⟩
          go_wp2
          go_ret
          exact ⟨by rw [E.out]; rfl, rfl⟩
        · have h2' : ¬ (s.length : Int) ≤ 200 := by omega
          have E : Hid (nident s = false) := nident_big s (.inl (by omega))
          clear HJ
          go_wp2
          go_ret
          exact ⟨by rw [E.out]; rfl, rfl⟩

theorem lpc_more (s : List Int) (f i : Nat) (h : f ≤ i) (hi : i < s.length) : lpc s f (i + 1) = lpc s f i ++ [s.getD i 0] := by
  unfold lpc
  rw [List.take_add_one, List.getElem?_eq_getElem hi, List.drop_append_of_le_length (by simp; omega)]
  simp [List.getD, hi]

theorem lpc_none (s : List Int) (i : Nat) : lpc s i i = [] := by unfold lpc; simp

theorem lpc_bd (s : List Int) (i k : Nat) (h : byts s) : byts (lpc s i k) := fun c hc => h c (List.mem_of_mem_take (List.mem_of_mem_drop hc))

theorem run_piece (s : List Int) (i k : Nat) (h1 : i ≤ k) (h2 : k ≤ s.length) : ∀ W, (Instr.slice 9 (.string (strOfNums s)) (some (.int .i64 (i : Int))) (some (.int .i64 (k : Int))) none).run Tryz.prog W = .ok (.string (strOfNums (lpc s i k))) W := fun W => by
  rw [run_cut (strOfNums s) i k _ _ rfl rfl h1 (by rw [strOfNums_size]; exact h2) W, str_cut]
  unfold lpc
  rw [List.drop_take]

theorem nsp_len : ∀ (s cur : List Int), (nsp cur s).length ≤ s.length + 1
  | [], cur => by simp [nsp]
  | c :: r, cur => by
    rw [nsp]
    split
    · have := nsp_len r []; simp only [List.length_cons]; omega
    · have := nsp_len r (cur ++ [c]); simp only [List.length_cons]; omega

theorem nsp_each : ∀ (s cur z : List Int), z ∈ nsp cur s → z.length ≤ cur.length + s.length
  | [], cur, z, h => by
    simp only [nsp, List.mem_cons, List.not_mem_nil, or_false] at h
    subst h; simp
  | c :: r, cur, z, h => by
    rw [nsp] at h
    by_cases k : c = 46
    · rw [if_pos k] at h
      rcases List.mem_cons.1 h with h | h
      · subst h; omega
      · have := nsp_each r [] z h; simp only [List.length_nil, List.length_cons] at this ⊢; omega
    · rw [if_neg k] at h
      have := nsp_each r (cur ++ [c]) z h
      simp only [List.length_append, List.length_cons, List.length_nil] at this ⊢
      omega

set_option maxHeartbeats 1000000 in
theorem rparts_any (s : List Int) (w : World) (hz : Hid (∀ i, 0 ≤ s.getD i 0 ∧ s.getD i 0 ≤ 255)) (hlen : (s.length : Int) ≤ 100000) :
    Calls Tryz.prog 61 #[.string (strOfNums s)] w fun e w' => ∃ v, e = .returned v ∧ So w' w.heap.size v (nparts s) ∧ Below w.heap.size w w' := by
  obtain ⟨X, hX⟩ : ∃ X, X = strOfNums s := ⟨_, rfl⟩
  have hsz : X.size = s.length := by rw [hX]; exact strOfNums_size s
  have HA : Hid (∀ k, (h : k < s.length) → ((X[k]'(hsz ▸ h)).toNat : Int) = s.getD k 0) := fun k h => by subst hX; exact str_at s hz.out k _
  have HP : Hid (∀ i k, i ≤ k → k ≤ s.length → ∀ W, (Instr.slice 9 (.string X) (some (.int .i64 (i : Int))) (some (.int .i64 (k : Int))) none).run Tryz.prog W = .ok (.string (strOfNums (lpc s i k))) W) := fun i k h1 h2 => by subst hX; exact run_piece s i k h1 h2
  have HBy : Hid (byts s) := mem_bd hz.out
  rw [← hX]
  clear hX
  obtain ⟨R, hR⟩ : ∃ R, R = nparts s := ⟨_, rfl⟩
  rw [← hR]
  have HR : Hid (R = [] ++ nsp (lpc s 0 0) (s.drop 0)) := by show _ = _; rw [lpc_none, hR]; rfl
  clear hR
  go_enter Tryz.func61, Tryz.ntmps61
  go_wp2
  go_loopw [3, 4, 5] (fun v fv kv wr => ∃ (k fr : Nat) (o : List (List Int)), fv = .int .i64 (fr : Int) ∧ kv = .int .i64 (k : Int) ∧ o.length ≤ k ∧ k ≤ s.length + 1 ∧ Hid ((k ≤ s.length ∧ fr ≤ k ∧ R = o ++ nsp (lpc s fr k) (s.drop k)) ∨ (k = s.length + 1 ∧ R = o)) ∧ Hid (So wr w.heap.size v o) ∧ Hid (Below w.heap.size w wr)) (fun _ _ kv _ => s.length + 1 - (intOf kv).toNat)
  case atStart => exact ⟨0, 0, [], rfl, rfl, by simp, by omega, .inl ⟨by omega, by omega, HR⟩, So.nil _ _, Below.refl _ _⟩
  case round =>
    obtain ⟨k, fr, o, rfl, rfl, hol, hk, HJ, HO, HB⟩ := hrel
    by_cases hkl : k ≤ s.length
    · obtain ⟨_, hfk, HQ⟩ := HJ.out.resolve_right (fun h => by omega)
      have h1 := HP.out fr k hfk hkl
      have hpb := lpc_bd s fr k HBy.out
      obtain ⟨P, hP⟩ : ∃ P, P = lpc s fr k := ⟨_, rfl⟩
      rw [← hP] at h1 hpb HQ
      have HPb : Hid (byts P) := hpb
      have HPe : Hid (P = lpc s fr k) := hP
      have hn1 : o.length + 1 ≤ 1000000 := by omega
      have hbs := HB.out.size
      have HOA : Hid (So (wr.alloc (.cells #[.string (strOfNums P)] 9)) w.heap.size _ o) := HO.out.below ((Below.refl _ _).alloc (Nat.le_refl _) _)
      have HBA : Hid (Below w.heap.size w (wr.alloc (.cells #[.string (strOfNums P)] 9))) := HB.out.alloc hbs _
      have HCL : Hid ((wr.alloc (.cells #[.string (strOfNums P)] 9)).cell? ⟨wr.heap.size, 0, none⟩ = some (scell P)) := str_cell wr _
      clear hP hpb
      by_cases hkz : k = s.length
      · have HR2 : Hid (R = o ++ [P]) := by
          show _ = _
          rw [HQ, hkz, List.drop_length]
          rfl
        have hke : ((k : Int) == (s.length : Int)) = true := by rw [hkz]; simp
        have HKZ : Hid (k = s.length) := hkz
        clear HQ HJ HR hkz
        go_wp2_with (at_builtin; refine wpList_append_s rfl _ _ rfl w.heap.size _ o P wr.heap.size 1 rfl rfl HOA.out HPb.out HCL.out hn1 HBA.out.size ?_; intro v2 w2 hO2 hgrow2)
        have HB2 : Hid (Below w.heap.size w w2) := HOA.out.grown HBA.out HBA.out.size hgrow2
        go_roundw
        case rel => first | exact ⟨k + 1, k + 1, o ++ [P], by go_num, by go_num, by simp; omega, by omega, .inr ⟨by have := HKZ.out; omega, HR2⟩, hO2, HB2⟩ | ((repeat apply Exists.intro); exact ⟨⟨k + 1, k + 1, o ++ [P], by go_num, by go_num, by simp; omega, by omega, .inr ⟨by have := HKZ.out; omega, HR2⟩, hO2, HB2⟩, rfl⟩)
        case measure => simp [intOf]; omega
      · have hke : ((k : Int) == (s.length : Int)) = false := by simp; omega
        have hat := HA.out k (by omega)
        have HQ' := HQ
        rw [drop_at (show k < s.length by omega), nsp] at HQ'
        have hmo := lpc_more s fr k hfk (by omega)
        rw [← HPe.out] at hmo
        by_cases h46 : s.getD k 0 = 46
        · rw [if_pos h46] at HQ'
          rw [h46] at hat
          have HR2 : Hid (R = (o ++ [P]) ++ nsp (lpc s (k + 1) (k + 1)) (s.drop (k + 1))) := by show _ = _; rw [HQ', lpc_none]; simp
          clear HQ HQ' HJ HR hmo h46
          go_wp2_with (at_builtin; refine wpList_append_s rfl _ _ rfl w.heap.size _ o P wr.heap.size 1 rfl rfl HOA.out HPb.out HCL.out hn1 HBA.out.size ?_; intro v2 w2 hO2 hgrow2)
          have HB2 : Hid (Below w.heap.size w w2) := HOA.out.grown HBA.out HBA.out.size hgrow2
          go_roundw
          case rel => first | exact ⟨k + 1, k + 1, o ++ [P], by go_num, by go_num, by simp; omega, by omega, .inl ⟨by omega, by omega, HR2⟩, hO2, HB2⟩ | ((repeat apply Exists.intro); exact ⟨⟨k + 1, k + 1, o ++ [P], by go_num, by go_num, by simp; omega, by omega, .inl ⟨by omega, by omega, HR2⟩, hO2, HB2⟩, rfl⟩)
          case measure => simp [intOf]; omega
        · rw [if_neg h46, ← hmo] at HQ'
          have HR2 : Hid _ := HQ'
          generalize s.getD k 0 = c at hat h46
          have e46 : (c == 46) = false := by simpa using h46
          clear HQ HQ' HJ HR hmo
          go_wp2
          go_roundw
          case rel => first | exact ⟨k + 1, fr, o, rfl, by go_num, by omega, by omega, .inl ⟨by omega, by omega, HR2⟩, HO, HB⟩ | ((repeat apply Exists.intro); exact ⟨⟨k + 1, fr, o, rfl, by go_num, by omega, by omega, .inl ⟨by omega, by omega, HR2⟩, HO, HB⟩, rfl⟩)
          case measure => simp [intOf]; omega
    · obtain rfl : k = s.length + 1 := by omega
      have E : Hid (R = o) := by
        rcases HJ.out with h | h
        · omega
        · exact h.2
      have hkl' : ¬ ((s.length + 1 : Nat) : Int) ≤ (s.length : Int) := by omega
      clear HJ
      go_wp2
      go_ret
      exact ⟨_, rfl, by rw [E.out]; exact HO.out, HB.out⟩

set_option maxHeartbeats 1000000 in
theorem rfull_any (s : List Int) (w : World) (hz : Hid (∀ i, 0 ≤ s.getD i 0 ∧ s.getD i 0 ≤ 255)) (hlen : (s.length : Int) ≤ 100000) :
    Calls Tryz.prog 29 #[.string (strOfNums s)] w fun e w' => e = .returned (.bool (nfull s)) ∧ Below w.heap.size w w' := by
  have hsz := strOfNums_size s
  by_cases hbig : 1000 < s.length
  · have hbig' : (1000 : Int) < (s.length : Int) := by omega
    have E : Hid (nfull s = false) := by show _ = _; unfold nfull; rw [decide_eq_false (by omega)]; rfl
    generalize strOfNums s = X at hsz
    go_enter Tryz.func29, Tryz.ntmps29
    go_wp2
    go_ret
    exact ⟨by rw [E.out]; rfl, Below.refl _ _⟩
  · have hbig' : ¬ (1000 : Int) < (s.length : Int) := by omega
    have E0 : Hid (nfull s = (nparts s).all nident) := by show _ = _; unfold nfull; rw [decide_eq_true (by omega)]; rfl
    have Q : Hid _ := rparts_any s w hz hlen
    have hnl : (nparts s).length ≤ s.length + 1 := nsp_len s []
    have HLs : Hid (∀ z ∈ nparts s, (z.length : Int) ≤ 100000) := fun z hzm => by
      have := nsp_each s [] z hzm
      simp at this
      omega
    generalize nparts s = zs at Q E0 hnl HLs
    generalize strOfNums s = X at hsz Q
    go_enter Tryz.func29, Tryz.ntmps29
    go_wp2_with fail
    refine Calls.mono Q.out ?_
    rintro e w1 ⟨v, rfl, hO, hb1⟩
    obtain ⟨a, c, rfl⟩ := hO.slice
    obtain ⟨_, _, h3, h4, h5, h6⟩ := Ss.of_own hO
    have H5 : Hid (∀ z ∈ zs, byts z) := h5
    have H6 : Hid _ := h6
    clear h5 h6 hO
    go_wp2
    go_loopw [11] (fun v wr => ∃ k : Nat, v = .int .i64 (k : Int) ∧ k ≤ zs.length ∧ Hid (∀ j z, j < k → zs[j]? = some z → nident z = true) ∧ w1 = wr) (fun v _ => zs.length - (intOf v).toNat)
    case atStart => exact ⟨0, rfl, by omega, fun j z hj => absurd hj (by omega), rfl⟩
    case round =>
      obtain ⟨k, rfl, hk, HJ, rfl⟩ := hrel
      by_cases hkl : k < zs.length
      · obtain ⟨b, off, rfl, hlt, hc⟩ := H6.out (by omega)
        obtain ⟨z, hz⟩ : ∃ z, zs[k]? = some z := ⟨zs[k]'hkl, List.getElem?_eq_getElem hkl⟩
        have hcell := hc k z hz
        unfold scell at hcell
        have hzm := List.mem_of_getElem? hz
        have q := fun W => rident_any z W (getD_bd (H5.out z hzm)) (by have := HLs.out z hzm; omega)
        by_cases hid : nident z = true
        · rw [hid] at q
          have Q2 : Hid _ := q
          have HJ2 : Hid (∀ j z, j < k + 1 → zs[j]? = some z → nident z = true) := fun j y hj hy => by
            by_cases e : j = k
            · rw [e, hz] at hy; rw [← Option.some.inj hy]; exact hid
            · exact HJ.out j y (by omega) hy
          generalize strOfNums z = Z at hcell Q2
          clear q HJ hz hid hc hzm
          go_wp2_with fail
          refine Calls.mono (Q2.out _) ?_
          rintro e w2 ⟨rfl, rfl⟩
          go_wp2
          go_roundw
          case rel => first | exact ⟨k + 1, by go_num, by omega, HJ2, by first | rfl | trivial⟩ | ((repeat apply Exists.intro); exact ⟨⟨k + 1, by go_num, by omega, HJ2, by first | rfl | trivial⟩, rfl⟩)
          case measure => simp [intOf]; omega
        · have hid' : nident z = false := by simpa using hid
          rw [hid'] at q
          have Q2 : Hid _ := q
          have E : Hid (nfull s = false) := by
            show _ = _
            rw [E0.out, List.all_eq_false]
            exact ⟨z, hzm, by rw [hid']; decide⟩
          generalize strOfNums z = Z at hcell Q2
          clear q HJ hz hid hid' hc hzm E0
          go_wp2_with fail
          refine Calls.mono (Q2.out _) ?_
          rintro e w2 ⟨rfl, rfl⟩
          go_wp2
          go_ret
          exact ⟨by rw [E.out]; rfl, hb1⟩
      · obtain rfl : k = zs.length := by omega
        have E : Hid (nfull s = true) := by
          show _ = _
          rw [E0.out, List.all_eq_true]
          intro z hzm
          obtain ⟨j, hj⟩ := List.getElem?_of_mem hzm
          exact HJ.out j z (List.getElem?_eq_some_iff.1 hj).1 hj
        clear HJ E0
        go_wp2
        go_ret
        exact ⟨by rw [E.out]; rfl, hb1⟩

def nwords : List (List Int) := [[], [100, 111, 117, 98, 108, 101], [102, 108, 111, 97, 116], [105, 110, 116, 54, 52], [117, 105, 110, 116, 54, 52], [105, 110, 116, 51, 50], [102, 105, 120, 101, 100, 54, 52], [102, 105, 120, 101, 100, 51, 50], [98, 111, 111, 108], [115, 116, 114, 105, 110, 103], [], [], [98, 121, 116, 101, 115], [117, 105, 110, 116, 51, 50], [], [115, 102, 105, 120, 101, 100, 51, 50], [115, 102, 105, 120, 101, 100, 54, 52], [115, 105, 110, 116, 51, 50], [115, 105, 110, 116, 54, 52]]

def nkeys : List (List Int) := [[109, 101, 115, 115, 97, 103, 101], [101, 110, 117, 109], [101, 120, 116, 101, 110, 100], [101, 120, 116, 101, 110, 115, 105, 111, 110, 115], [111, 112, 116, 105, 111, 110], [111, 110, 101, 111, 102], [109, 97, 112], [114, 101, 115, 101, 114, 118, 101, 100], [111, 112, 116, 105, 111, 110, 97, 108], [114, 101, 113, 117, 105, 114, 101, 100], [114, 101, 112, 101, 97, 116, 101, 100], [114, 112, 99], [115, 101, 114, 118, 105, 99, 101], [105, 109, 112, 111, 114, 116], [112, 97, 99, 107, 97, 103, 101], [115, 121, 110, 116, 97, 120], [115, 116, 114, 101, 97, 109], [114, 101, 116, 117, 114, 110, 115], [116, 111], [109, 97, 120], [112, 117, 98, 108, 105, 99]]

def nwf (s : List Int) : List (List Int) → Nat → Nat
  | [], _ => 0
  | z :: r, k => if z ≠ [] ∧ z = s then k else nwf s r (k + 1)

def nword (s : List Int) : Nat := nwf s nwords 0

def nkey (s : List Int) : Bool := decide (s ∈ nkeys) || decide (nword s ≠ 0)

end Go.Proofs.YtmhbjkoabbmfpaaGreat

namespace Go.Proofs.YtmhbjkoabbmfpaaGreat
open Go.Shelf

end Go.Proofs.YtmhbjkoabbmfpaaGreat

namespace Go.Proofs.YtmhbjkoabbmfpaaGreat
open Go.Shelf

end Go.Proofs.YtmhbjkoabbmfpaaGreat

namespace Go.Proofs.YtmhbjkoabbmfpaaGreat
open Go.Shelf

def Sh.lays217_ren : Go.Shelf.Ren := ⟨fun | 217 => 170 | 266 => 190 | n => n, fun | 9 => 9 | 5 => 5 | 3 => 3 | n => n, fun | n => n⟩

theorem Sh.lays217 : Go.Proofs.Lays.n217 Tryz.prog Sh.lays217_ren := {
  mixed := by kernel_rfl
  f217 := Tryz.func170.trans (congrArg some (by kernel_rfl))
  f266 := Tryz.func190.trans (congrArg some (by kernel_rfl))
  t3 := Tryz.underlying3
  a3 := Tryz.isAgg3
  z3 := Tryz.sizeOf3
  v3 := Tryz.zeroValue3
  t5 := Tryz.underlying5
  a5 := Tryz.isAgg5
  z5 := Tryz.sizeOf5
  v5 := Tryz.zeroValue5
  t9 := Tryz.underlying9
  a9 := Tryz.isAgg9
  z9 := Tryz.sizeOf9
  v9 := Tryz.zeroValue9 }

open Go.RowKit Go.Lib in
theorem Sh.stringslite_IndexByte (s : ByteArray) (c : Int) (w : World) :
    Calls Tryz.prog 170 #[.string s, .int .u8 c] w fun e w' => e = .returned (.int .i64 (Lib.indexByte s.data.toList c.toNat.toUInt8)) ∧ w' = w := Any.stringslite_IndexByte Sh.lays217 s c w

end Go.Proofs.YtmhbjkoabbmfpaaGreat

namespace Go.Proofs.YtmhbjkoabbmfpaaGreat
open Go.RowKit
set_option linter.unusedVariables false
set_option linter.unusedSimpArgs false

theorem l46 : (⟨#[46]⟩ : ByteArray).toList = [46] := by
  rw [show (⟨#[46]⟩ : ByteArray) = strOfNums [46] from by kernel_rfl, str_list]
  rfl

theorem indexByte_lt9 (c : UInt8) : ∀ l : List UInt8, Lib.indexByte l c < (l.length : Int)
  | [] => by unfold Lib.indexByte; simp
  | b :: l => by
    have ih := indexByte_lt9 c l
    unfold Lib.indexByte
    split
    · simp only [List.length_cons]; omega
    · split
      · simp only [List.length_cons]; omega
      · simp only [List.length_cons]; omega

set_option maxHeartbeats 1000000 in
theorem pindex1 (s : ByteArray) (w : World) :
    Calls Tryz.prog 141 #[.string s, .string ⟨#[46]⟩] w fun e w' => ∃ i : Int, e = .returned (.int .i64 i) ∧ -1 ≤ i ∧ i < (s.size : Int) ∧ w = w' := by
  have Q : Hid _ := Sh.stringslite_IndexByte s 46 w
  have hlt : Lib.indexByte s.data.toList ((46 : Int).toNat.toUInt8) < (s.size : Int) := indexByte_lt9 _ _
  have hge := Lib.indexByte_ge s.data.toList ((46 : Int).toNat.toUInt8)
  have HI : Hid _ := And.intro hge hlt
  clear hlt hge
  have hix : ∀ w, (Instr.index 9 (.string ⟨#[46]⟩) (.int .i64 0)).run Tryz.prog w = .ok (.int .u8 46) w := fun w => by kernel_rfl
  by_cases he : (⟨#[46]⟩ : ByteArray) = s
  · have heq : (([46] : List UInt8) == s.toList) = true := by
      have : ((⟨#[46]⟩ : ByteArray).toList == s.toList) = true := by rw [tl_eq]; exact decide_eq_true he
      rw [l46] at this
      exact this
    have hsz : Hid ((0 : Int) < (s.size : Int)) := by rw [← he]; show (0 : Int) < _; decide
    clear he
    go_enter Tryz.func141, Tryz.ntmps141
    go_wp2
    go_ret
    exact ⟨0, rfl, by omega, hsz.out, rfl⟩
  · have heq : (([46] : List UInt8) == s.toList) = false := by
      have : ((⟨#[46]⟩ : ByteArray).toList == s.toList) = false := by rw [tl_eq]; exact decide_eq_false he
      rw [l46] at this
      exact this
    clear he
    generalize Lib.indexByte s.data.toList ((46 : Int).toNat.toUInt8) = I at *
    go_enter Tryz.func141, Tryz.ntmps141
    go_wp2_with fail
    refine Calls.mono Q.out ?_
    rintro e w1 ⟨rfl, rfl⟩
    go_wp2
    go_ret
    exact ⟨I, rfl, HI.out.1, HI.out.2, rfl⟩

theorem string_nums9 (s : ByteArray) : ∃ z : List Int, s = strOfNums z ∧ byts z ∧ z.length = s.size := ⟨numsOf s, (numsOf_str s).symm, numsOf_byts s, numsOf_len s⟩

set_option maxHeartbeats 1000000 in
theorem pcut1 (s : ByteArray) (w : World) (hs : s.size ≤ 1000000) :
    Calls Tryz.prog 114 #[.string s, .string ⟨#[46]⟩] w fun e w' => ∃ A B b, e = .returned (.tuple #[.string A, .string B, .bool b]) ∧ A.size ≤ s.size ∧ Below w.heap.size w w' := by
  have Q : Hid _ := pindex1 s w
  have HS : Hid (s.size ≤ 1000000) := hs
  obtain ⟨z, hz, _, hzl⟩ := string_nums9 s
  have HL : Hid (z.length = s.size) := hzl
  have HZ : Hid _ := hz
  clear hs hzl hz
  go_enter Tryz.func114, Tryz.ntmps114
  go_wp2_with fail
  refine Calls.mono Q.out ?_
  rintro e w1 ⟨i, rfl, h1, h2, rfl⟩
  clear Q
  have hs := HS.out
  have hl := HL.out
  by_cases hi : 0 ≤ i
  · obtain ⟨k, rfl⟩ : ∃ k : Nat, i = (k : Int) := ⟨i.toNat, by omega⟩
    have e1 := run_head z k (by omega) (by omega)
    have e2 := run_tail z (k + 1) (by omega) ((k : Int) + 1) (by omega)
    have HA : Hid ((strOfNums (z.take k)).size ≤ s.size) := by show _ ≤ _; rw [strOfNums_size, List.length_take]; omega
    rw [← HZ.out] at e1 e2
    generalize strOfNums (z.take k) = A at *
    generalize strOfNums (z.drop (k + 1)) = B at *
    have hmo : Tryz.prog.follows .mixedOrders = true := by kernel_rfl
    go_upto_region 3 with fail
    go_big_region_o
    have HBD : Hid (Below w.heap.size w w.drew) := (Below.refl _ _).drew
    generalize w.drew = w9 at *
    go_wp2
    go_ret3
    exact ⟨A, B, true, rfl, HA.out, HBD.out⟩
  · go_wp2
    go_ret3
    exact ⟨s, _, false, rfl, Nat.le_refl _, Below.refl _ _⟩

set_option maxHeartbeats 1000000 in
theorem pcut2 (s : ByteArray) (w : World) (hs : s.size ≤ 1000000) :
    Calls Tryz.prog 65 #[.string s, .string ⟨#[46]⟩] w fun e w' => ∃ A B b, e = .returned (.tuple #[.string A, .string B, .bool b]) ∧ A.size ≤ s.size ∧ Below w.heap.size w w' := by
  have Q : Hid _ := pcut1 s w hs
  clear hs
  go_enter Tryz.func65, Tryz.ntmps65
  go_wp2_with fail
  refine Calls.mono Q.out ?_
  rintro e w1 ⟨A, B, b, rfl, h1, hb⟩
  have H1 : Hid _ := h1
  have HB : Hid _ := hb
  clear Q h1 hb
  go_wp2
  go_ret3
  exact ⟨A, B, b, rfl, H1.out, HB.out⟩

end Go.Proofs.YtmhbjkoabbmfpaaGreat
