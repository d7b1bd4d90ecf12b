/- Put together by a program out of these texts of mine: NPc, NPd, PTxt0, PTxt1. -/
import Derived.Test.YtgkablmglkagfaaGreatDoorBunC5
import Derived.Test.YtgkablmglkagfaaGreatDoorBunC15

/- The program's own Full. -/
namespace Go.Proofs.YtgkablmglkagfaaGreatDoor
open Go.RowKit
set_option linter.unusedVariables false
set_option linter.unusedSimpArgs false

theorem nsp_skip (s : List Int) (f : Nat) : ∀ (d p : Nat), f ≤ p → p + d ≤ s.length → (∀ j, p ≤ j → j < p + d → s.getD j 0 ≠ 46) → nsp (lpc s f p) (s.drop p) = nsp (lpc s f (p + d)) (s.drop (p + d))
  | 0, p, _, _, _ => rfl
  | d + 1, p, h1, h2, h3 => by
    rw [drop_at (show p < s.length by omega), nsp, if_neg (h3 p (by omega) (by omega)), ← lpc_more s f p h1 (by omega), nsp_skip s f d (p + 1) (by omega) (by omega) (fun j a b => h3 j (by omega) (by omega))]
    rw [show p + 1 + d = p + (d + 1) by omega]

theorem lpc_tail (s : List Int) (i : Nat) : lpc s i s.length = s.drop i := by unfold lpc; rw [List.take_length]

set_option maxHeartbeats 2000000 in
theorem pfull_any (s : List Int) (w : World) (hT : Hid (NTab w)) (hz : Hid (∀ i, 0 ≤ s.getD i 0 ∧ s.getD i 0 ≤ 255)) (hlen : (s.length : Int) ≤ 100000) :
    Calls Tryz.prog 23 #[.string (strOfNums s)] w fun e w' => e = .returned (.bool (nfull s)) ∧ Below w.heap.size w w' := by
  by_cases hb : 1000 < s.length
  · have hsz := strOfNums_size s
    have hb' : (1000 : Int) < (s.length : Int) := by omega
    have E : Hid (nfull s = false) := by show _ = _; unfold nfull; rw [decide_eq_false (by omega)]; rfl
    generalize strOfNums s = S at hsz
    go_enter Tryz.func23, Tryz.ntmps23
    go_wp2
    go_ret
    exact ⟨by rw [E.out]; rfl, Below.refl _ _⟩
  · have hb' : ¬ (1000 : Int) < (s.length : Int) := by omega
    obtain ⟨R, hR⟩ : ∃ R, R = nfull s := ⟨_, rfl⟩
    have HR : Hid (R = (nsp (lpc s 0 0) (s.drop 0)).all nident) := by show _ = _; rw [hR]; unfold nfull nparts; rw [decide_eq_true (by omega), lpc_none, List.drop_zero]; rfl
    obtain ⟨X, hX⟩ : ∃ X, X = strOfNums s := ⟨_, rfl⟩
    have hsz : X.size = s.length := by rw [hX]; exact strOfNums_size s
    have HP : Hid (∀ i k, i ≤ k → k ≤ s.length → ∀ W, (Instr.slice 9 (.string X) (some (.int .i64 (i : Int))) (some (.int .i64 (k : Int))) none).run Tryz.prog W = .ok (.string (strOfNums (lpc s i k))) W) := fun i k h1 h2 => by subst hX; exact run_piece s i k h1 h2
    have HTl : Hid (∀ i, i ≤ s.length → ∀ W, (Instr.slice 9 (.string X) (some (.int .i64 (i : Int))) none none).run Tryz.prog W = .ok (.string (strOfNums (s.drop i))) W) := fun i h1 => by subst hX; exact run_tail s i h1 _ rfl
    have HD : Hid _ := dec_at s hz.out
    rw [← hX] at HD
    rw [← hR, ← hX]
    have HBy : Hid (byts s) := mem_bd hz.out
    clear hX hR
    go_enter Tryz.func23, Tryz.ntmps23
    go_wp2
    go_loopw [3] (fun v wr => ∃ p f : Nat, v = .int .i64 (f : Int) ∧ wr.heap[w.heap.size]? = some (.stringIter X p) ∧ f ≤ p ∧ p ≤ s.length ∧ Hid (R = (nsp (lpc s f p) (s.drop p)).all nident) ∧ Hid (Below w.heap.size w wr)) (fun _ wr => s.length - wr.iterPos w.heap.size)
    case atStart => exact ⟨0, 0, rfl, by have := World.iter_heap w X 0; simpa using this, by omega, by omega, HR, (Below.refl _ _).alloc (Nat.le_refl _) _⟩
    case round =>
      obtain ⟨p, f, rfl, hit, hfp, hp, HJ, HB⟩ := hrel
      have hsz1 : w.heap.size < wr.heap.size := (Array.getElem?_eq_some_iff.1 hit).1
      by_cases hpl : p < s.length
      · have hnx : ∀ ty, (Instr.next (.pointer (some ⟨w.heap.size, 0, none⟩)) true ty).run Tryz.prog wr = _ := fun ty => Lib.run_next_any_at wr w.heap.size X p ty hit (by omega)
        have HC := HD.out p hpl
        have HI2 := fun q => Lib.iterAt_heap wr w.heap.size X p q hit
        have HB2 := fun q => Lib.below_iterAt HB.out (Nat.le_refl _) X q
        have hc0 := (hz.out p).1
        have hc1 := (hz.out p).2
        by_cases h46 : s.getD p 0 = 46
        · have hc : ((Utf8.decode X p).1 : Int) = 46 ∧ (Utf8.decode X p).2 = 1 := by
            rcases HC with ⟨_, h2, h3⟩ | ⟨h1, _⟩
            · exact ⟨by omega, h3⟩
            · omega
          rw [hc.1, hc.2] at hnx
          have hI := HI2 (p + 1)
          have HB3 : Hid _ := HB2 (p + 1)
          have hcut := HP.out f p hfp hp
          have HJ' := HJ.out
          rw [drop_at hpl, nsp, if_pos h46, List.all_cons] at HJ'
          have hll : (lpc s f p).length ≤ s.length := by unfold lpc; simp; omega
          have q := fun W => pident_any (lpc s f p) W trivial (getD_bd (lpc_bd s f p HBy.out)) (by omega)
          obtain ⟨L, hL⟩ : ∃ L, L = strOfNums (lpc s f p) := ⟨_, rfl⟩
          rw [← hL] at hcut q
          clear hL
          have hio : (wr.iterAt w.heap.size X (p + 1)).iterPos w.heap.size = p + 1 := by simp [World.iterPos, hI]
          obtain ⟨wi, hwi⟩ : ∃ wi, wi = wr.iterAt w.heap.size X (p + 1) := ⟨_, rfl⟩
          rw [← hwi] at hnx hI HB3
          have hsz2 : w.heap.size < wi.heap.size := (Array.getElem?_eq_some_iff.1 hI).1
          clear hc HC HI2 HB2 hwi h46 HJ hio
          cases hid : nident (lpc s f p) with
          | true =>
            rw [hid, Bool.true_and] at HJ'
            rw [hid] at q
            have Q : Hid _ := q
            have HJ2 : Hid (R = (nsp (lpc s (p + 1) (p + 1)) (s.drop (p + 1))).all nident) := by show _ = _; rw [HJ', lpc_none]
            clear q HJ' hid
            go_wp2_with fail
            refine Calls.mono (Q.out _) ?_
            rintro e w1 ⟨rfl, hB1⟩
            have hI1 : w1.heap[w.heap.size]? = some (.stringIter X (p + 1)) := (hB1.block _ hsz2).trans hI
            have HB4 : Hid (Below w.heap.size w w1) := HB3.out.trans (hB1.mono HB3.out.size)
            go_wp2
            go_roundw
            case rel => first | exact ⟨p + 1, p + 1, by go_num, hI1, by omega, by omega, HJ2, HB4⟩ | ((repeat apply Exists.intro); exact ⟨⟨p + 1, p + 1, by go_num, hI1, by omega, by omega, HJ2, HB4⟩, rfl⟩)
            case measure => simp only [World.iterPos, hI1, hit]; omega
          | false =>
            rw [hid, Bool.false_and] at HJ'
            rw [hid] at q
            have Q : Hid _ := q
            have E : Hid (R = false) := HJ'
            clear q HJ' hid
            go_wp2_with fail
            refine Calls.mono (Q.out _) ?_
            rintro e w1 ⟨rfl, hB1⟩
            have HB4 : Hid (Below w.heap.size w w1) := HB3.out.trans (hB1.mono HB3.out.size)
            go_wp2
            go_ret
            exact ⟨by rw [E.out]; rfl, HB4.out⟩
        · have hc : ∃ (c : Int) (d : Nat), ((Utf8.decode X p).1 : Int) = c ∧ (Utf8.decode X p).2 = d ∧ c ≠ 46 ∧ 0 ≤ c ∧ c ≤ 2147483647 ∧ 1 ≤ d ∧ p + d ≤ s.length ∧ ∀ j, p ≤ j → j < p + d → s.getD j 0 ≠ 46 := by
            rcases HC with ⟨h1, h2, h3⟩ | ⟨h1, h2, h3, h4, h5, h6⟩
            · exact ⟨_, _, rfl, rfl, by omega, by omega, by omega, by omega, by omega, fun j a b => by rw [show j = p by omega]; exact h46⟩
            · exact ⟨_, _, rfl, rfl, by omega, by omega, by omega, h4, h5, fun j a b => by have := h6 j a b; omega⟩
          obtain ⟨c, d, h1, h2, h3, h4, h5, h6, h7, h8⟩ := hc
          rw [h1, h2] at hnx
          have hI := HI2 (p + d)
          have HB3 : Hid _ := HB2 (p + d)
          have HJ2 : Hid (R = (nsp (lpc s f (p + d)) (s.drop (p + d))).all nident) := by show _ = _; rw [HJ.out, nsp_skip s f d p hfp h7 h8]
          obtain ⟨wi, hwi⟩ : ∃ wi, wi = wr.iterAt w.heap.size X (p + d) := ⟨_, rfl⟩
          rw [← hwi] at hnx hI HB3
          have e46 : (c != 46) = true := by simpa using h3
          clear HC HI2 HB2 hwi h46 HJ h8 h1 h2 hc0 hc1 h3
          go_wp2
          go_roundw
          case rel => first | exact ⟨p + d, f, by go_num, hI, by omega, by omega, HJ2, HB3⟩ | ((repeat apply Exists.intro); exact ⟨⟨p + d, f, by go_num, hI, by omega, by omega, HJ2, HB3⟩, rfl⟩)
          case measure => simp only [World.iterPos, hI, hit]; omega
      · obtain rfl : p = s.length := by omega
        have hnx : ∀ ty, (Instr.next (.pointer (some ⟨w.heap.size, 0, none⟩)) true ty).run Tryz.prog wr = _ := fun ty => Lib.run_next_end_at wr w.heap.size X s.length ty hit (by omega)
        have hcut := HTl.out f hfp
        have HJ' := HJ.out
        rw [List.drop_length, nsp, List.all_cons, List.all_nil, Bool.and_true, lpc_tail] at HJ'
        have q := fun W => pident_any (s.drop f) W trivial (getD_bd (fun c hc => HBy.out c (List.mem_of_mem_drop hc))) (by simp; omega)
        rw [← HJ'] at q
        have Q : Hid _ := q
        obtain ⟨L, hL⟩ : ∃ L, L = strOfNums (s.drop f) := ⟨_, rfl⟩
        rw [← hL] at hcut Q
        clear hL q HJ' HJ
        go_wp2_with fail
        refine Calls.mono (Q.out _) ?_
        rintro e w1 ⟨rfl, hB1⟩
        have HB4 : Hid (Below w.heap.size w w1) := HB.out.trans (hB1.mono HB.out.size)
        go_wp2
        go_ret
        exact ⟨rfl, HB4.out⟩

end Go.Proofs.YtgkablmglkagfaaGreatDoor

/- The program's own plain, Keyword. -/
namespace Go.Proofs.YtgkablmglkagfaaGreatDoor
open Go.RowKit
set_option linter.unusedVariables false
set_option linter.unusedSimpArgs false

/-- The plain types' words, as the program lists them. -/
def npl : List (List Int) := [[100, 111, 117, 98, 108, 101], [102, 108, 111, 97, 116], [105, 110, 116, 51, 50], [105, 110, 116, 54, 52], [117, 105, 110, 116, 51, 50], [117, 105, 110, 116, 54, 52], [115, 105, 110, 116, 51, 50], [115, 105, 110, 116, 54, 52], [102, 105, 120, 101, 100, 51, 50], [102, 105, 120, 101, 100, 54, 52], [115, 102, 105, 120, 101, 100, 51, 50], [115, 102, 105, 120, 101, 100, 54, 52], [98, 111, 111, 108], [115, 116, 114, 105, 110, 103], [98, 121, 116, 101, 115]]

theorem nwf_none (s : List Int) : ∀ (l : List (List Int)) (k : Nat), s ∉ l → nwf s l k = 0
  | [], k, _ => rfl
  | z :: r, k, h => by
    rw [nwf, if_neg (fun e => h (by rw [← e.2]; simp)), nwf_none s r (k + 1) (fun e => h (List.mem_cons_of_mem _ e))]

theorem npl_word (s : List Int) : decide (nword s ≠ 0) = decide (s ∈ npl) := by
  by_cases h : s ∈ npl
  · rw [decide_eq_true h, decide_eq_true_eq]
    have all : ∀ z ∈ npl, nword z ≠ 0 := by decide
    exact all s h
  · rw [decide_eq_false h, decide_eq_false_iff_not]
    intro hn
    apply hn
    unfold nword
    by_cases h0 : s = []
    · subst h0; decide
    · refine nwf_none s nwords 0 (fun hm => ?_)
      have all : ∀ z ∈ nwords, z = [] ∨ z ∈ npl := by decide
      rcases all s hm with e | e
      · exact h0 e
      · exact h e

theorem weq (s t : List Int) (hs : byts s) (ht : byts t) (L : List UInt8) (hL : (strOfNums t).toList = L) (h : s ≠ t) : ((strOfNums s).toList == L) = false := by
  rw [← hL, str_eq hs ht]
  simpa using h

theorem str_lit (t : List Int) (L : List UInt8) (h : (t.map fun n => UInt8.ofNat n.toNat) = L) : (strOfNums t).toList = L := by rw [str_list, h]

set_option maxHeartbeats 4000000 in
theorem pplain_any (s : List Int) (w : World) (hs : Hid (byts s)) :
    Calls Tryz.prog 78 #[.string (strOfNums s)] w fun e w' => e = .returned (.bool (decide (s ∈ npl))) ∧ w = w' := by
  by_cases k0 : s = [100, 111, 117, 98, 108, 101]
  · have e0 : ((strOfNums s).toList == [100, 111, 117, 98, 108, 101]) = true := by rw [k0, str_lit _ [100, 111, 117, 98, 108, 101] rfl]; rfl
    have E : Hid (decide (s ∈ npl) = true) := decide_eq_true (by rw [k0]; decide)
    clear k0
    generalize strOfNums s = S at *
    go_enter Tryz.func78, Tryz.ntmps78
    go_wp2
    go_ret
    exact ⟨by rw [E.out]; rfl, rfl⟩
  have e0 : ((strOfNums s).toList == [100, 111, 117, 98, 108, 101]) = false := weq s _ hs.out (by unfold byts; decide) _ (str_lit _ [100, 111, 117, 98, 108, 101] rfl) k0
  by_cases k1 : s = [102, 108, 111, 97, 116]
  · have e1 : ((strOfNums s).toList == [102, 108, 111, 97, 116]) = true := by rw [k1, str_lit _ [102, 108, 111, 97, 116] rfl]; rfl
    have E : Hid (decide (s ∈ npl) = true) := decide_eq_true (by rw [k1]; decide)
    clear k1
    generalize strOfNums s = S at *
    go_enter Tryz.func78, Tryz.ntmps78
    go_wp2
    go_ret
    exact ⟨by rw [E.out]; rfl, rfl⟩
  have e1 : ((strOfNums s).toList == [102, 108, 111, 97, 116]) = false := weq s _ hs.out (by unfold byts; decide) _ (str_lit _ [102, 108, 111, 97, 116] rfl) k1
  by_cases k2 : s = [105, 110, 116, 51, 50]
  · have e2 : ((strOfNums s).toList == [105, 110, 116, 51, 50]) = true := by rw [k2, str_lit _ [105, 110, 116, 51, 50] rfl]; rfl
    have E : Hid (decide (s ∈ npl) = true) := decide_eq_true (by rw [k2]; decide)
    clear k2
    generalize strOfNums s = S at *
    go_enter Tryz.func78, Tryz.ntmps78
    go_wp2
    go_ret
    exact ⟨by rw [E.out]; rfl, rfl⟩
  have e2 : ((strOfNums s).toList == [105, 110, 116, 51, 50]) = false := weq s _ hs.out (by unfold byts; decide) _ (str_lit _ [105, 110, 116, 51, 50] rfl) k2
  by_cases k3 : s = [105, 110, 116, 54, 52]
  · have e3 : ((strOfNums s).toList == [105, 110, 116, 54, 52]) = true := by rw [k3, str_lit _ [105, 110, 116, 54, 52] rfl]; rfl
    have E : Hid (decide (s ∈ npl) = true) := decide_eq_true (by rw [k3]; decide)
    clear k3
    generalize strOfNums s = S at *
    go_enter Tryz.func78, Tryz.ntmps78
    go_wp2
    go_ret
    exact ⟨by rw [E.out]; rfl, rfl⟩
  have e3 : ((strOfNums s).toList == [105, 110, 116, 54, 52]) = false := weq s _ hs.out (by unfold byts; decide) _ (str_lit _ [105, 110, 116, 54, 52] rfl) k3
  by_cases k4 : s = [117, 105, 110, 116, 51, 50]
  · have e4 : ((strOfNums s).toList == [117, 105, 110, 116, 51, 50]) = true := by rw [k4, str_lit _ [117, 105, 110, 116, 51, 50] rfl]; rfl
    have E : Hid (decide (s ∈ npl) = true) := decide_eq_true (by rw [k4]; decide)
    clear k4
    generalize strOfNums s = S at *
    go_enter Tryz.func78, Tryz.ntmps78
    go_wp2
    go_ret
    exact ⟨by rw [E.out]; rfl, rfl⟩
  have e4 : ((strOfNums s).toList == [117, 105, 110, 116, 51, 50]) = false := weq s _ hs.out (by unfold byts; decide) _ (str_lit _ [117, 105, 110, 116, 51, 50] rfl) k4
  by_cases k5 : s = [117, 105, 110, 116, 54, 52]
  · have e5 : ((strOfNums s).toList == [117, 105, 110, 116, 54, 52]) = true := by rw [k5, str_lit _ [117, 105, 110, 116, 54, 52] rfl]; rfl
    have E : Hid (decide (s ∈ npl) = true) := decide_eq_true (by rw [k5]; decide)
    clear k5
    generalize strOfNums s = S at *
    go_enter Tryz.func78, Tryz.ntmps78
    go_wp2
    go_ret
    exact ⟨by rw [E.out]; rfl, rfl⟩
  have e5 : ((strOfNums s).toList == [117, 105, 110, 116, 54, 52]) = false := weq s _ hs.out (by unfold byts; decide) _ (str_lit _ [117, 105, 110, 116, 54, 52] rfl) k5
  by_cases k6 : s = [115, 105, 110, 116, 51, 50]
  · have e6 : ((strOfNums s).toList == [115, 105, 110, 116, 51, 50]) = true := by rw [k6, str_lit _ [115, 105, 110, 116, 51, 50] rfl]; rfl
    have E : Hid (decide (s ∈ npl) = true) := decide_eq_true (by rw [k6]; decide)
    clear k6
    generalize strOfNums s = S at *
    go_enter Tryz.func78, Tryz.ntmps78
    go_wp2
    go_ret
    exact ⟨by rw [E.out]; rfl, rfl⟩
  have e6 : ((strOfNums s).toList == [115, 105, 110, 116, 51, 50]) = false := weq s _ hs.out (by unfold byts; decide) _ (str_lit _ [115, 105, 110, 116, 51, 50] rfl) k6
  by_cases k7 : s = [115, 105, 110, 116, 54, 52]
  · have e7 : ((strOfNums s).toList == [115, 105, 110, 116, 54, 52]) = true := by rw [k7, str_lit _ [115, 105, 110, 116, 54, 52] rfl]; rfl
    have E : Hid (decide (s ∈ npl) = true) := decide_eq_true (by rw [k7]; decide)
    clear k7
    generalize strOfNums s = S at *
    go_enter Tryz.func78, Tryz.ntmps78
    go_wp2
    go_ret
    exact ⟨by rw [E.out]; rfl, rfl⟩
  have e7 : ((strOfNums s).toList == [115, 105, 110, 116, 54, 52]) = false := weq s _ hs.out (by unfold byts; decide) _ (str_lit _ [115, 105, 110, 116, 54, 52] rfl) k7
  by_cases k8 : s = [102, 105, 120, 101, 100, 51, 50]
  · have e8 : ((strOfNums s).toList == [102, 105, 120, 101, 100, 51, 50]) = true := by rw [k8, str_lit _ [102, 105, 120, 101, 100, 51, 50] rfl]; rfl
    have E : Hid (decide (s ∈ npl) = true) := decide_eq_true (by rw [k8]; decide)
    clear k8
    generalize strOfNums s = S at *
    go_enter Tryz.func78, Tryz.ntmps78
    go_wp2
    go_ret
    exact ⟨by rw [E.out]; rfl, rfl⟩
  have e8 : ((strOfNums s).toList == [102, 105, 120, 101, 100, 51, 50]) = false := weq s _ hs.out (by unfold byts; decide) _ (str_lit _ [102, 105, 120, 101, 100, 51, 50] rfl) k8
  by_cases k9 : s = [102, 105, 120, 101, 100, 54, 52]
  · have e9 : ((strOfNums s).toList == [102, 105, 120, 101, 100, 54, 52]) = true := by rw [k9, str_lit _ [102, 105, 120, 101, 100, 54, 52] rfl]; rfl
    have E : Hid (decide (s ∈ npl) = true) := decide_eq_true (by rw [k9]; decide)
    clear k9
    generalize strOfNums s = S at *
    go_enter Tryz.func78, Tryz.ntmps78
    go_wp2
    go_ret
    exact ⟨by rw [E.out]; rfl, rfl⟩
  have e9 : ((strOfNums s).toList == [102, 105, 120, 101, 100, 54, 52]) = false := weq s _ hs.out (by unfold byts; decide) _ (str_lit _ [102, 105, 120, 101, 100, 54, 52] rfl) k9
  by_cases k10 : s = [115, 102, 105, 120, 101, 100, 51, 50]
  · have e10 : ((strOfNums s).toList == [115, 102, 105, 120, 101, 100, 51, 50]) = true := by rw [k10, str_lit _ [115, 102, 105, 120, 101, 100, 51, 50] rfl]; rfl
    have E : Hid (decide (s ∈ npl) = true) := decide_eq_true (by rw [k10]; decide)
    clear k10
    generalize strOfNums s = S at *
    go_enter Tryz.func78, Tryz.ntmps78
    go_wp2
    go_ret
    exact ⟨by rw [E.out]; rfl, rfl⟩
  have e10 : ((strOfNums s).toList == [115, 102, 105, 120, 101, 100, 51, 50]) = false := weq s _ hs.out (by unfold byts; decide) _ (str_lit _ [115, 102, 105, 120, 101, 100, 51, 50] rfl) k10
  by_cases k11 : s = [115, 102, 105, 120, 101, 100, 54, 52]
  · have e11 : ((strOfNums s).toList == [115, 102, 105, 120, 101, 100, 54, 52]) = true := by rw [k11, str_lit _ [115, 102, 105, 120, 101, 100, 54, 52] rfl]; rfl
    have E : Hid (decide (s ∈ npl) = true) := decide_eq_true (by rw [k11]; decide)
    clear k11
    generalize strOfNums s = S at *
    go_enter Tryz.func78, Tryz.ntmps78
    go_wp2
    go_ret
    exact ⟨by rw [E.out]; rfl, rfl⟩
  have e11 : ((strOfNums s).toList == [115, 102, 105, 120, 101, 100, 54, 52]) = false := weq s _ hs.out (by unfold byts; decide) _ (str_lit _ [115, 102, 105, 120, 101, 100, 54, 52] rfl) k11
  by_cases k12 : s = [98, 111, 111, 108]
  · have e12 : ((strOfNums s).toList == [98, 111, 111, 108]) = true := by rw [k12, str_lit _ [98, 111, 111, 108] rfl]; rfl
    have E : Hid (decide (s ∈ npl) = true) := decide_eq_true (by rw [k12]; decide)
    clear k12
    generalize strOfNums s = S at *
    go_enter Tryz.func78, Tryz.ntmps78
    go_wp2
    go_ret
    exact ⟨by rw [E.out]; rfl, rfl⟩
  have e12 : ((strOfNums s).toList == [98, 111, 111, 108]) = false := weq s _ hs.out (by unfold byts; decide) _ (str_lit _ [98, 111, 111, 108] rfl) k12
  by_cases k13 : s = [115, 116, 114, 105, 110, 103]
  · have e13 : ((strOfNums s).toList == [115, 116, 114, 105, 110, 103]) = true := by rw [k13, str_lit _ [115, 116, 114, 105, 110, 103] rfl]; rfl
    have E : Hid (decide (s ∈ npl) = true) := decide_eq_true (by rw [k13]; decide)
    clear k13
    generalize strOfNums s = S at *
    go_enter Tryz.func78, Tryz.ntmps78
    go_wp2
    go_ret
    exact ⟨by rw [E.out]; rfl, rfl⟩
  have e13 : ((strOfNums s).toList == [115, 116, 114, 105, 110, 103]) = false := weq s _ hs.out (by unfold byts; decide) _ (str_lit _ [115, 116, 114, 105, 110, 103] rfl) k13
  by_cases k14 : s = [98, 121, 116, 101, 115]
  · have e14 : ((strOfNums s).toList == [98, 121, 116, 101, 115]) = true := by rw [k14, str_lit _ [98, 121, 116, 101, 115] rfl]; rfl
    have E : Hid (decide (s ∈ npl) = true) := decide_eq_true (by rw [k14]; decide)
    clear k14
    generalize strOfNums s = S at *
    go_enter Tryz.func78, Tryz.ntmps78
    go_wp2
    go_ret
    exact ⟨by rw [E.out]; rfl, rfl⟩
  have e14 : ((strOfNums s).toList == [98, 121, 116, 101, 115]) = false := weq s _ hs.out (by unfold byts; decide) _ (str_lit _ [98, 121, 116, 101, 115] rfl) k14
  have E : Hid (decide (s ∈ npl) = false) := decide_eq_false (fun h => by
    simp only [npl, List.mem_cons, List.not_mem_nil, or_false, k0, k1, k2, k3, k4, k5, k6, k7, k8, k9, k10, k11, k12, k13, k14] at h)
  clear k0 k1 k2 k3 k4 k5 k6 k7 k8 k9 k10 k11 k12 k13 k14
  generalize strOfNums s = S at *
  go_enter Tryz.func78, Tryz.ntmps78
  go_wp2
  go_ret
  exact ⟨by rw [E.out]; rfl, rfl⟩

set_option maxHeartbeats 4000000 in
theorem pkey_any (s : List Int) (w : World) (hT : Hid (NTab w)) (hz : Hid (∀ i, 0 ≤ s.getD i 0 ∧ s.getD i 0 ≤ 255)) (hlen : (s.length : Int) ≤ 100000) :
    Calls Tryz.prog 61 #[.string (strOfNums s)] w fun e w' => e = .returned (.bool (nkey s)) ∧ Below w.heap.size w w' := by
  have hs : Hid (byts s) := mem_bd hz.out
  have q := fun W => pplain_any s W hs
  have Q : Hid _ := q
  clear q
  by_cases k0 : s = [109, 101, 115, 115, 97, 103, 101]
  · have e0 : ((strOfNums s).toList == [109, 101, 115, 115, 97, 103, 101]) = true := by rw [k0, str_lit _ [109, 101, 115, 115, 97, 103, 101] rfl]; rfl
    have E : Hid (nkey s = true) := by show _ = _; unfold nkey; rw [decide_eq_true (by rw [k0]; decide)]; rfl
    clear k0
    clear Q
    generalize strOfNums s = S at *
    go_enter Tryz.func61, Tryz.ntmps61
    go_wp2
    go_ret
    exact ⟨by rw [E.out]; rfl, Below.refl _ _⟩
  have e0 : ((strOfNums s).toList == [109, 101, 115, 115, 97, 103, 101]) = false := weq s _ hs.out (by unfold byts; decide) _ (str_lit _ [109, 101, 115, 115, 97, 103, 101] rfl) k0
  by_cases k1 : s = [101, 110, 117, 109]
  · have e1 : ((strOfNums s).toList == [101, 110, 117, 109]) = true := by rw [k1, str_lit _ [101, 110, 117, 109] rfl]; rfl
    have E : Hid (nkey s = true) := by show _ = _; unfold nkey; rw [decide_eq_true (by rw [k1]; decide)]; rfl
    clear k1
    clear Q
    generalize strOfNums s = S at *
    go_enter Tryz.func61, Tryz.ntmps61
    go_wp2
    go_ret
    exact ⟨by rw [E.out]; rfl, Below.refl _ _⟩
  have e1 : ((strOfNums s).toList == [101, 110, 117, 109]) = false := weq s _ hs.out (by unfold byts; decide) _ (str_lit _ [101, 110, 117, 109] rfl) k1
  by_cases k2 : s = [101, 120, 116, 101, 110, 100]
  · have e2 : ((strOfNums s).toList == [101, 120, 116, 101, 110, 100]) = true := by rw [k2, str_lit _ [101, 120, 116, 101, 110, 100] rfl]; rfl
    have E : Hid (nkey s = true) := by show _ = _; unfold nkey; rw [decide_eq_true (by rw [k2]; decide)]; rfl
    clear k2
    clear Q
    generalize strOfNums s = S at *
    go_enter Tryz.func61, Tryz.ntmps61
    go_wp2
    go_ret
    exact ⟨by rw [E.out]; rfl, Below.refl _ _⟩
  have e2 : ((strOfNums s).toList == [101, 120, 116, 101, 110, 100]) = false := weq s _ hs.out (by unfold byts; decide) _ (str_lit _ [101, 120, 116, 101, 110, 100] rfl) k2
  by_cases k3 : s = [101, 120, 116, 101, 110, 115, 105, 111, 110, 115]
  · have e3 : ((strOfNums s).toList == [101, 120, 116, 101, 110, 115, 105, 111, 110, 115]) = true := by rw [k3, str_lit _ [101, 120, 116, 101, 110, 115, 105, 111, 110, 115] rfl]; rfl
    have E : Hid (nkey s = true) := by show _ = _; unfold nkey; rw [decide_eq_true (by rw [k3]; decide)]; rfl
    clear k3
    clear Q
    generalize strOfNums s = S at *
    go_enter Tryz.func61, Tryz.ntmps61
    go_wp2
    go_ret
    exact ⟨by rw [E.out]; rfl, Below.refl _ _⟩
  have e3 : ((strOfNums s).toList == [101, 120, 116, 101, 110, 115, 105, 111, 110, 115]) = false := weq s _ hs.out (by unfold byts; decide) _ (str_lit _ [101, 120, 116, 101, 110, 115, 105, 111, 110, 115] rfl) k3
  by_cases k4 : s = [111, 112, 116, 105, 111, 110]
  · have e4 : ((strOfNums s).toList == [111, 112, 116, 105, 111, 110]) = true := by rw [k4, str_lit _ [111, 112, 116, 105, 111, 110] rfl]; rfl
    have E : Hid (nkey s = true) := by show _ = _; unfold nkey; rw [decide_eq_true (by rw [k4]; decide)]; rfl
    clear k4
    clear Q
    generalize strOfNums s = S at *
    go_enter Tryz.func61, Tryz.ntmps61
    go_wp2
    go_ret
    exact ⟨by rw [E.out]; rfl, Below.refl _ _⟩
  have e4 : ((strOfNums s).toList == [111, 112, 116, 105, 111, 110]) = false := weq s _ hs.out (by unfold byts; decide) _ (str_lit _ [111, 112, 116, 105, 111, 110] rfl) k4
  by_cases k5 : s = [111, 110, 101, 111, 102]
  · have e5 : ((strOfNums s).toList == [111, 110, 101, 111, 102]) = true := by rw [k5, str_lit _ [111, 110, 101, 111, 102] rfl]; rfl
    have E : Hid (nkey s = true) := by show _ = _; unfold nkey; rw [decide_eq_true (by rw [k5]; decide)]; rfl
    clear k5
    clear Q
    generalize strOfNums s = S at *
    go_enter Tryz.func61, Tryz.ntmps61
    go_wp2
    go_ret
    exact ⟨by rw [E.out]; rfl, Below.refl _ _⟩
  have e5 : ((strOfNums s).toList == [111, 110, 101, 111, 102]) = false := weq s _ hs.out (by unfold byts; decide) _ (str_lit _ [111, 110, 101, 111, 102] rfl) k5
  by_cases k6 : s = [109, 97, 112]
  · have e6 : ((strOfNums s).toList == [109, 97, 112]) = true := by rw [k6, str_lit _ [109, 97, 112] rfl]; rfl
    have E : Hid (nkey s = true) := by show _ = _; unfold nkey; rw [decide_eq_true (by rw [k6]; decide)]; rfl
    clear k6
    clear Q
    generalize strOfNums s = S at *
    go_enter Tryz.func61, Tryz.ntmps61
    go_wp2
    go_ret
    exact ⟨by rw [E.out]; rfl, Below.refl _ _⟩
  have e6 : ((strOfNums s).toList == [109, 97, 112]) = false := weq s _ hs.out (by unfold byts; decide) _ (str_lit _ [109, 97, 112] rfl) k6
  by_cases k7 : s = [114, 101, 115, 101, 114, 118, 101, 100]
  · have e7 : ((strOfNums s).toList == [114, 101, 115, 101, 114, 118, 101, 100]) = true := by rw [k7, str_lit _ [114, 101, 115, 101, 114, 118, 101, 100] rfl]; rfl
    have E : Hid (nkey s = true) := by show _ = _; unfold nkey; rw [decide_eq_true (by rw [k7]; decide)]; rfl
    clear k7
    clear Q
    generalize strOfNums s = S at *
    go_enter Tryz.func61, Tryz.ntmps61
    go_wp2
    go_ret
    exact ⟨by rw [E.out]; rfl, Below.refl _ _⟩
  have e7 : ((strOfNums s).toList == [114, 101, 115, 101, 114, 118, 101, 100]) = false := weq s _ hs.out (by unfold byts; decide) _ (str_lit _ [114, 101, 115, 101, 114, 118, 101, 100] rfl) k7
  by_cases k8 : s = [111, 112, 116, 105, 111, 110, 97, 108]
  · have e8 : ((strOfNums s).toList == [111, 112, 116, 105, 111, 110, 97, 108]) = true := by rw [k8, str_lit _ [111, 112, 116, 105, 111, 110, 97, 108] rfl]; rfl
    have E : Hid (nkey s = true) := by show _ = _; unfold nkey; rw [decide_eq_true (by rw [k8]; decide)]; rfl
    clear k8
    clear Q
    generalize strOfNums s = S at *
    go_enter Tryz.func61, Tryz.ntmps61
    go_wp2
    go_ret
    exact ⟨by rw [E.out]; rfl, Below.refl _ _⟩
  have e8 : ((strOfNums s).toList == [111, 112, 116, 105, 111, 110, 97, 108]) = false := weq s _ hs.out (by unfold byts; decide) _ (str_lit _ [111, 112, 116, 105, 111, 110, 97, 108] rfl) k8
  by_cases k9 : s = [114, 101, 113, 117, 105, 114, 101, 100]
  · have e9 : ((strOfNums s).toList == [114, 101, 113, 117, 105, 114, 101, 100]) = true := by rw [k9, str_lit _ [114, 101, 113, 117, 105, 114, 101, 100] rfl]; rfl
    have E : Hid (nkey s = true) := by show _ = _; unfold nkey; rw [decide_eq_true (by rw [k9]; decide)]; rfl
    clear k9
    clear Q
    generalize strOfNums s = S at *
    go_enter Tryz.func61, Tryz.ntmps61
    go_wp2
    go_ret
    exact ⟨by rw [E.out]; rfl, Below.refl _ _⟩
  have e9 : ((strOfNums s).toList == [114, 101, 113, 117, 105, 114, 101, 100]) = false := weq s _ hs.out (by unfold byts; decide) _ (str_lit _ [114, 101, 113, 117, 105, 114, 101, 100] rfl) k9
  by_cases k10 : s = [114, 101, 112, 101, 97, 116, 101, 100]
  · have e10 : ((strOfNums s).toList == [114, 101, 112, 101, 97, 116, 101, 100]) = true := by rw [k10, str_lit _ [114, 101, 112, 101, 97, 116, 101, 100] rfl]; rfl
    have E : Hid (nkey s = true) := by show _ = _; unfold nkey; rw [decide_eq_true (by rw [k10]; decide)]; rfl
    clear k10
    clear Q
    generalize strOfNums s = S at *
    go_enter Tryz.func61, Tryz.ntmps61
    go_wp2
    go_ret
    exact ⟨by rw [E.out]; rfl, Below.refl _ _⟩
  have e10 : ((strOfNums s).toList == [114, 101, 112, 101, 97, 116, 101, 100]) = false := weq s _ hs.out (by unfold byts; decide) _ (str_lit _ [114, 101, 112, 101, 97, 116, 101, 100] rfl) k10
  by_cases k11 : s = [114, 112, 99]
  · have e11 : ((strOfNums s).toList == [114, 112, 99]) = true := by rw [k11, str_lit _ [114, 112, 99] rfl]; rfl
    have E : Hid (nkey s = true) := by show _ = _; unfold nkey; rw [decide_eq_true (by rw [k11]; decide)]; rfl
    clear k11
    clear Q
    generalize strOfNums s = S at *
    go_enter Tryz.func61, Tryz.ntmps61
    go_wp2
    go_ret
    exact ⟨by rw [E.out]; rfl, Below.refl _ _⟩
  have e11 : ((strOfNums s).toList == [114, 112, 99]) = false := weq s _ hs.out (by unfold byts; decide) _ (str_lit _ [114, 112, 99] rfl) k11
  by_cases k12 : s = [115, 101, 114, 118, 105, 99, 101]
  · have e12 : ((strOfNums s).toList == [115, 101, 114, 118, 105, 99, 101]) = true := by rw [k12, str_lit _ [115, 101, 114, 118, 105, 99, 101] rfl]; rfl
    have E : Hid (nkey s = true) := by show _ = _; unfold nkey; rw [decide_eq_true (by rw [k12]; decide)]; rfl
    clear k12
    clear Q
    generalize strOfNums s = S at *
    go_enter Tryz.func61, Tryz.ntmps61
    go_wp2
    go_ret
    exact ⟨by rw [E.out]; rfl, Below.refl _ _⟩
  have e12 : ((strOfNums s).toList == [115, 101, 114, 118, 105, 99, 101]) = false := weq s _ hs.out (by unfold byts; decide) _ (str_lit _ [115, 101, 114, 118, 105, 99, 101] rfl) k12
  by_cases k13 : s = [105, 109, 112, 111, 114, 116]
  · have e13 : ((strOfNums s).toList == [105, 109, 112, 111, 114, 116]) = true := by rw [k13, str_lit _ [105, 109, 112, 111, 114, 116] rfl]; rfl
    have E : Hid (nkey s = true) := by show _ = _; unfold nkey; rw [decide_eq_true (by rw [k13]; decide)]; rfl
    clear k13
    clear Q
    generalize strOfNums s = S at *
    go_enter Tryz.func61, Tryz.ntmps61
    go_wp2
    go_ret
    exact ⟨by rw [E.out]; rfl, Below.refl _ _⟩
  have e13 : ((strOfNums s).toList == [105, 109, 112, 111, 114, 116]) = false := weq s _ hs.out (by unfold byts; decide) _ (str_lit _ [105, 109, 112, 111, 114, 116] rfl) k13
  by_cases k14 : s = [112, 97, 99, 107, 97, 103, 101]
  · have e14 : ((strOfNums s).toList == [112, 97, 99, 107, 97, 103, 101]) = true := by rw [k14, str_lit _ [112, 97, 99, 107, 97, 103, 101] rfl]; rfl
    have E : Hid (nkey s = true) := by show _ = _; unfold nkey; rw [decide_eq_true (by rw [k14]; decide)]; rfl
    clear k14
    clear Q
    generalize strOfNums s = S at *
    go_enter Tryz.func61, Tryz.ntmps61
    go_wp2
    go_ret
    exact ⟨by rw [E.out]; rfl, Below.refl _ _⟩
  have e14 : ((strOfNums s).toList == [112, 97, 99, 107, 97, 103, 101]) = false := weq s _ hs.out (by unfold byts; decide) _ (str_lit _ [112, 97, 99, 107, 97, 103, 101] rfl) k14
  by_cases k15 : s = [115, 121, 110, 116, 97, 120]
  · have e15 : ((strOfNums s).toList == [115, 121, 110, 116, 97, 120]) = true := by rw [k15, str_lit _ [115, 121, 110, 116, 97, 120] rfl]; rfl
    have E : Hid (nkey s = true) := by show _ = _; unfold nkey; rw [decide_eq_true (by rw [k15]; decide)]; rfl
    clear k15
    clear Q
    generalize strOfNums s = S at *
    go_enter Tryz.func61, Tryz.ntmps61
    go_wp2
    go_ret
    exact ⟨by rw [E.out]; rfl, Below.refl _ _⟩
  have e15 : ((strOfNums s).toList == [115, 121, 110, 116, 97, 120]) = false := weq s _ hs.out (by unfold byts; decide) _ (str_lit _ [115, 121, 110, 116, 97, 120] rfl) k15
  by_cases k16 : s = [115, 116, 114, 101, 97, 109]
  · have e16 : ((strOfNums s).toList == [115, 116, 114, 101, 97, 109]) = true := by rw [k16, str_lit _ [115, 116, 114, 101, 97, 109] rfl]; rfl
    have E : Hid (nkey s = true) := by show _ = _; unfold nkey; rw [decide_eq_true (by rw [k16]; decide)]; rfl
    clear k16
    clear Q
    generalize strOfNums s = S at *
    go_enter Tryz.func61, Tryz.ntmps61
    go_wp2
    go_ret
    exact ⟨by rw [E.out]; rfl, Below.refl _ _⟩
  have e16 : ((strOfNums s).toList == [115, 116, 114, 101, 97, 109]) = false := weq s _ hs.out (by unfold byts; decide) _ (str_lit _ [115, 116, 114, 101, 97, 109] rfl) k16
  by_cases k17 : s = [114, 101, 116, 117, 114, 110, 115]
  · have e17 : ((strOfNums s).toList == [114, 101, 116, 117, 114, 110, 115]) = true := by rw [k17, str_lit _ [114, 101, 116, 117, 114, 110, 115] rfl]; rfl
    have E : Hid (nkey s = true) := by show _ = _; unfold nkey; rw [decide_eq_true (by rw [k17]; decide)]; rfl
    clear k17
    clear Q
    generalize strOfNums s = S at *
    go_enter Tryz.func61, Tryz.ntmps61
    go_wp2
    go_ret
    exact ⟨by rw [E.out]; rfl, Below.refl _ _⟩
  have e17 : ((strOfNums s).toList == [114, 101, 116, 117, 114, 110, 115]) = false := weq s _ hs.out (by unfold byts; decide) _ (str_lit _ [114, 101, 116, 117, 114, 110, 115] rfl) k17
  by_cases k18 : s = [116, 111]
  · have e18 : ((strOfNums s).toList == [116, 111]) = true := by rw [k18, str_lit _ [116, 111] rfl]; rfl
    have E : Hid (nkey s = true) := by show _ = _; unfold nkey; rw [decide_eq_true (by rw [k18]; decide)]; rfl
    clear k18
    clear Q
    generalize strOfNums s = S at *
    go_enter Tryz.func61, Tryz.ntmps61
    go_wp2
    go_ret
    exact ⟨by rw [E.out]; rfl, Below.refl _ _⟩
  have e18 : ((strOfNums s).toList == [116, 111]) = false := weq s _ hs.out (by unfold byts; decide) _ (str_lit _ [116, 111] rfl) k18
  by_cases k19 : s = [109, 97, 120]
  · have e19 : ((strOfNums s).toList == [109, 97, 120]) = true := by rw [k19, str_lit _ [109, 97, 120] rfl]; rfl
    have E : Hid (nkey s = true) := by show _ = _; unfold nkey; rw [decide_eq_true (by rw [k19]; decide)]; rfl
    clear k19
    clear Q
    generalize strOfNums s = S at *
    go_enter Tryz.func61, Tryz.ntmps61
    go_wp2
    go_ret
    exact ⟨by rw [E.out]; rfl, Below.refl _ _⟩
  have e19 : ((strOfNums s).toList == [109, 97, 120]) = false := weq s _ hs.out (by unfold byts; decide) _ (str_lit _ [109, 97, 120] rfl) k19
  by_cases k20 : s = [112, 117, 98, 108, 105, 99]
  · have e20 : ((strOfNums s).toList == [112, 117, 98, 108, 105, 99]) = true := by rw [k20, str_lit _ [112, 117, 98, 108, 105, 99] rfl]; rfl
    have E : Hid (nkey s = true) := by show _ = _; unfold nkey; rw [decide_eq_true (by rw [k20]; decide)]; rfl
    clear k20
    clear Q
    generalize strOfNums s = S at *
    go_enter Tryz.func61, Tryz.ntmps61
    go_wp2
    go_ret
    exact ⟨by rw [E.out]; rfl, Below.refl _ _⟩
  have e20 : ((strOfNums s).toList == [112, 117, 98, 108, 105, 99]) = false := weq s _ hs.out (by unfold byts; decide) _ (str_lit _ [112, 117, 98, 108, 105, 99] rfl) k20
  have E : Hid (nkey s = decide (s ∈ npl)) := by
    show _ = _
    unfold nkey
    rw [decide_eq_false (p := s ∈ nkeys) (fun h => by simp only [nkeys, List.mem_cons, List.not_mem_nil, or_false, k0, k1, k2, k3, k4, k5, k6, k7, k8, k9, k10, k11, k12, k13, k14, k15, k16, k17, k18, k19, k20] at h), Bool.false_or, npl_word]
  clear k0 k1 k2 k3 k4 k5 k6 k7 k8 k9 k10 k11 k12 k13 k14 k15 k16 k17 k18 k19 k20
  generalize decide (s ∈ npl) = b at Q E
  generalize strOfNums s = S at *
  go_enter Tryz.func61, Tryz.ntmps61
  go_wp2_with fail
  refine Calls.mono (Q.out _) ?_
  rintro e w1 ⟨rfl, rfl⟩
  go_wp2
  go_ret
  exact ⟨by rw [E.out]; rfl, Below.refl _ _⟩

end Go.Proofs.YtgkablmglkagfaaGreatDoor

/- The contracts of the program's own node.isPlain, Int, isNamed, isDoc. -/
namespace Go.Proofs.YtgkablmglkagfaaGreatDoor
open Go.RowKit
set_option linter.unusedVariables false
set_option linter.unusedSimpArgs false

set_option maxHeartbeats 4000000 in
theorem pisplain_any (s : List Int) (w : World) (hs : Hid (byts s)) :
    Calls Tryz.prog 40 #[.string (strOfNums s)] w fun e w' => e = .returned (.bool (decide (s ∈ npl))) ∧ w = w' := by
  by_cases k0 : s = [100, 111, 117, 98, 108, 101]
  · have e0 : ((strOfNums s).toList == [100, 111, 117, 98, 108, 101]) = true := by rw [k0, str_lit _ [100, 111, 117, 98, 108, 101] rfl]; rfl
    have E : Hid (decide (s ∈ npl) = true) := decide_eq_true (by rw [k0]; decide)
    clear k0
    generalize strOfNums s = S at *
    go_enter Tryz.func40, Tryz.ntmps40
    go_wp2
    go_ret
    exact ⟨by rw [E.out]; rfl, rfl⟩
  have e0 : ((strOfNums s).toList == [100, 111, 117, 98, 108, 101]) = false := weq s _ hs.out (by unfold byts; decide) _ (str_lit _ [100, 111, 117, 98, 108, 101] rfl) k0
  by_cases k1 : s = [102, 108, 111, 97, 116]
  · have e1 : ((strOfNums s).toList == [102, 108, 111, 97, 116]) = true := by rw [k1, str_lit _ [102, 108, 111, 97, 116] rfl]; rfl
    have E : Hid (decide (s ∈ npl) = true) := decide_eq_true (by rw [k1]; decide)
    clear k1
    generalize strOfNums s = S at *
    go_enter Tryz.func40, Tryz.ntmps40
    go_wp2
    go_ret
    exact ⟨by rw [E.out]; rfl, rfl⟩
  have e1 : ((strOfNums s).toList == [102, 108, 111, 97, 116]) = false := weq s _ hs.out (by unfold byts; decide) _ (str_lit _ [102, 108, 111, 97, 116] rfl) k1
  by_cases k2 : s = [105, 110, 116, 51, 50]
  · have e2 : ((strOfNums s).toList == [105, 110, 116, 51, 50]) = true := by rw [k2, str_lit _ [105, 110, 116, 51, 50] rfl]; rfl
    have E : Hid (decide (s ∈ npl) = true) := decide_eq_true (by rw [k2]; decide)
    clear k2
    generalize strOfNums s = S at *
    go_enter Tryz.func40, Tryz.ntmps40
    go_wp2
    go_ret
    exact ⟨by rw [E.out]; rfl, rfl⟩
  have e2 : ((strOfNums s).toList == [105, 110, 116, 51, 50]) = false := weq s _ hs.out (by unfold byts; decide) _ (str_lit _ [105, 110, 116, 51, 50] rfl) k2
  by_cases k3 : s = [105, 110, 116, 54, 52]
  · have e3 : ((strOfNums s).toList == [105, 110, 116, 54, 52]) = true := by rw [k3, str_lit _ [105, 110, 116, 54, 52] rfl]; rfl
    have E : Hid (decide (s ∈ npl) = true) := decide_eq_true (by rw [k3]; decide)
    clear k3
    generalize strOfNums s = S at *
    go_enter Tryz.func40, Tryz.ntmps40
    go_wp2
    go_ret
    exact ⟨by rw [E.out]; rfl, rfl⟩
  have e3 : ((strOfNums s).toList == [105, 110, 116, 54, 52]) = false := weq s _ hs.out (by unfold byts; decide) _ (str_lit _ [105, 110, 116, 54, 52] rfl) k3
  by_cases k4 : s = [117, 105, 110, 116, 51, 50]
  · have e4 : ((strOfNums s).toList == [117, 105, 110, 116, 51, 50]) = true := by rw [k4, str_lit _ [117, 105, 110, 116, 51, 50] rfl]; rfl
    have E : Hid (decide (s ∈ npl) = true) := decide_eq_true (by rw [k4]; decide)
    clear k4
    generalize strOfNums s = S at *
    go_enter Tryz.func40, Tryz.ntmps40
    go_wp2
    go_ret
    exact ⟨by rw [E.out]; rfl, rfl⟩
  have e4 : ((strOfNums s).toList == [117, 105, 110, 116, 51, 50]) = false := weq s _ hs.out (by unfold byts; decide) _ (str_lit _ [117, 105, 110, 116, 51, 50] rfl) k4
  by_cases k5 : s = [117, 105, 110, 116, 54, 52]
  · have e5 : ((strOfNums s).toList == [117, 105, 110, 116, 54, 52]) = true := by rw [k5, str_lit _ [117, 105, 110, 116, 54, 52] rfl]; rfl
    have E : Hid (decide (s ∈ npl) = true) := decide_eq_true (by rw [k5]; decide)
    clear k5
    generalize strOfNums s = S at *
    go_enter Tryz.func40, Tryz.ntmps40
    go_wp2
    go_ret
    exact ⟨by rw [E.out]; rfl, rfl⟩
  have e5 : ((strOfNums s).toList == [117, 105, 110, 116, 54, 52]) = false := weq s _ hs.out (by unfold byts; decide) _ (str_lit _ [117, 105, 110, 116, 54, 52] rfl) k5
  by_cases k6 : s = [115, 105, 110, 116, 51, 50]
  · have e6 : ((strOfNums s).toList == [115, 105, 110, 116, 51, 50]) = true := by rw [k6, str_lit _ [115, 105, 110, 116, 51, 50] rfl]; rfl
    have E : Hid (decide (s ∈ npl) = true) := decide_eq_true (by rw [k6]; decide)
    clear k6
    generalize strOfNums s = S at *
    go_enter Tryz.func40, Tryz.ntmps40
    go_wp2
    go_ret
    exact ⟨by rw [E.out]; rfl, rfl⟩
  have e6 : ((strOfNums s).toList == [115, 105, 110, 116, 51, 50]) = false := weq s _ hs.out (by unfold byts; decide) _ (str_lit _ [115, 105, 110, 116, 51, 50] rfl) k6
  by_cases k7 : s = [115, 105, 110, 116, 54, 52]
  · have e7 : ((strOfNums s).toList == [115, 105, 110, 116, 54, 52]) = true := by rw [k7, str_lit _ [115, 105, 110, 116, 54, 52] rfl]; rfl
    have E : Hid (decide (s ∈ npl) = true) := decide_eq_true (by rw [k7]; decide)
    clear k7
    generalize strOfNums s = S at *
    go_enter Tryz.func40, Tryz.ntmps40
    go_wp2
    go_ret
    exact ⟨by rw [E.out]; rfl, rfl⟩
  have e7 : ((strOfNums s).toList == [115, 105, 110, 116, 54, 52]) = false := weq s _ hs.out (by unfold byts; decide) _ (str_lit _ [115, 105, 110, 116, 54, 52] rfl) k7
  by_cases k8 : s = [102, 105, 120, 101, 100, 51, 50]
  · have e8 : ((strOfNums s).toList == [102, 105, 120, 101, 100, 51, 50]) = true := by rw [k8, str_lit _ [102, 105, 120, 101, 100, 51, 50] rfl]; rfl
    have E : Hid (decide (s ∈ npl) = true) := decide_eq_true (by rw [k8]; decide)
    clear k8
    generalize strOfNums s = S at *
    go_enter Tryz.func40, Tryz.ntmps40
    go_wp2
    go_ret
    exact ⟨by rw [E.out]; rfl, rfl⟩
  have e8 : ((strOfNums s).toList == [102, 105, 120, 101, 100, 51, 50]) = false := weq s _ hs.out (by unfold byts; decide) _ (str_lit _ [102, 105, 120, 101, 100, 51, 50] rfl) k8
  by_cases k9 : s = [102, 105, 120, 101, 100, 54, 52]
  · have e9 : ((strOfNums s).toList == [102, 105, 120, 101, 100, 54, 52]) = true := by rw [k9, str_lit _ [102, 105, 120, 101, 100, 54, 52] rfl]; rfl
    have E : Hid (decide (s ∈ npl) = true) := decide_eq_true (by rw [k9]; decide)
    clear k9
    generalize strOfNums s = S at *
    go_enter Tryz.func40, Tryz.ntmps40
    go_wp2
    go_ret
    exact ⟨by rw [E.out]; rfl, rfl⟩
  have e9 : ((strOfNums s).toList == [102, 105, 120, 101, 100, 54, 52]) = false := weq s _ hs.out (by unfold byts; decide) _ (str_lit _ [102, 105, 120, 101, 100, 54, 52] rfl) k9
  by_cases k10 : s = [115, 102, 105, 120, 101, 100, 51, 50]
  · have e10 : ((strOfNums s).toList == [115, 102, 105, 120, 101, 100, 51, 50]) = true := by rw [k10, str_lit _ [115, 102, 105, 120, 101, 100, 51, 50] rfl]; rfl
    have E : Hid (decide (s ∈ npl) = true) := decide_eq_true (by rw [k10]; decide)
    clear k10
    generalize strOfNums s = S at *
    go_enter Tryz.func40, Tryz.ntmps40
    go_wp2
    go_ret
    exact ⟨by rw [E.out]; rfl, rfl⟩
  have e10 : ((strOfNums s).toList == [115, 102, 105, 120, 101, 100, 51, 50]) = false := weq s _ hs.out (by unfold byts; decide) _ (str_lit _ [115, 102, 105, 120, 101, 100, 51, 50] rfl) k10
  by_cases k11 : s = [115, 102, 105, 120, 101, 100, 54, 52]
  · have e11 : ((strOfNums s).toList == [115, 102, 105, 120, 101, 100, 54, 52]) = true := by rw [k11, str_lit _ [115, 102, 105, 120, 101, 100, 54, 52] rfl]; rfl
    have E : Hid (decide (s ∈ npl) = true) := decide_eq_true (by rw [k11]; decide)
    clear k11
    generalize strOfNums s = S at *
    go_enter Tryz.func40, Tryz.ntmps40
    go_wp2
    go_ret
    exact ⟨by rw [E.out]; rfl, rfl⟩
  have e11 : ((strOfNums s).toList == [115, 102, 105, 120, 101, 100, 54, 52]) = false := weq s _ hs.out (by unfold byts; decide) _ (str_lit _ [115, 102, 105, 120, 101, 100, 54, 52] rfl) k11
  by_cases k12 : s = [98, 111, 111, 108]
  · have e12 : ((strOfNums s).toList == [98, 111, 111, 108]) = true := by rw [k12, str_lit _ [98, 111, 111, 108] rfl]; rfl
    have E : Hid (decide (s ∈ npl) = true) := decide_eq_true (by rw [k12]; decide)
    clear k12
    generalize strOfNums s = S at *
    go_enter Tryz.func40, Tryz.ntmps40
    go_wp2
    go_ret
    exact ⟨by rw [E.out]; rfl, rfl⟩
  have e12 : ((strOfNums s).toList == [98, 111, 111, 108]) = false := weq s _ hs.out (by unfold byts; decide) _ (str_lit _ [98, 111, 111, 108] rfl) k12
  by_cases k13 : s = [115, 116, 114, 105, 110, 103]
  · have e13 : ((strOfNums s).toList == [115, 116, 114, 105, 110, 103]) = true := by rw [k13, str_lit _ [115, 116, 114, 105, 110, 103] rfl]; rfl
    have E : Hid (decide (s ∈ npl) = true) := decide_eq_true (by rw [k13]; decide)
    clear k13
    generalize strOfNums s = S at *
    go_enter Tryz.func40, Tryz.ntmps40
    go_wp2
    go_ret
    exact ⟨by rw [E.out]; rfl, rfl⟩
  have e13 : ((strOfNums s).toList == [115, 116, 114, 105, 110, 103]) = false := weq s _ hs.out (by unfold byts; decide) _ (str_lit _ [115, 116, 114, 105, 110, 103] rfl) k13
  by_cases k14 : s = [98, 121, 116, 101, 115]
  · have e14 : ((strOfNums s).toList == [98, 121, 116, 101, 115]) = true := by rw [k14, str_lit _ [98, 121, 116, 101, 115] rfl]; rfl
    have E : Hid (decide (s ∈ npl) = true) := decide_eq_true (by rw [k14]; decide)
    clear k14
    generalize strOfNums s = S at *
    go_enter Tryz.func40, Tryz.ntmps40
    go_wp2
    go_ret
    exact ⟨by rw [E.out]; rfl, rfl⟩
  have e14 : ((strOfNums s).toList == [98, 121, 116, 101, 115]) = false := weq s _ hs.out (by unfold byts; decide) _ (str_lit _ [98, 121, 116, 101, 115] rfl) k14
  have E : Hid (decide (s ∈ npl) = false) := decide_eq_false (fun h => by
    simp only [npl, List.mem_cons, List.not_mem_nil, or_false, k0, k1, k2, k3, k4, k5, k6, k7, k8, k9, k10, k11, k12, k13, k14] at h)
  clear k0 k1 k2 k3 k4 k5 k6 k7 k8 k9 k10 k11 k12 k13 k14
  generalize strOfNums s = S at *
  go_enter Tryz.func40, Tryz.ntmps40
  go_wp2
  go_ret
  exact ⟨by rw [E.out]; rfl, rfl⟩

theorem bd_mem {l : List Int} (h : byts l) (i : Nat) : 0 ≤ l.getD i 0 ∧ l.getD i 0 ≤ 255 := by
  rcases Nat.lt_or_ge i l.length with hi | hi
  · rw [List.getD_eq_getElem?_getD, List.getElem?_eq_getElem hi]
    exact h _ (List.getElem_mem hi)
  · rw [List.getD_eq_getElem?_getD, List.getElem?_eq_none hi]; decide

/-- A sign ahead, as Go's own CutPrefix and TrimPrefix ask it. -/
theorem pby_pre (s : List Int) (hs : byts s) (n : Nat) (h0 : 0 < n) (hn : n ≤ 255) : Lib.hasPrefix (strOfNums s).data.toList [UInt8.ofNat n] = decide (s.getD 0 0 = (n : Int)) := by
  rw [strOfNums_data]
  unfold Lib.hasPrefix
  cases s with
  | nil =>
    symm
    apply decide_eq_false
    simp
    omega
  | cons c r =>
    have hc := hs c (by simp)
    rw [Bool.eq_iff_iff, decide_eq_true_eq]
    simp only [List.map_cons, List.isPrefixOf, Bool.and_true, beq_iff_eq, List.getD_cons_zero]
    constructor
    · intro e
      exact u8_inj hc (by omega) (by rw [← e]; simp)
    · rintro rfl; simp

theorem pby_of (l : List Int) : (⟨(l.map fun n => UInt8.ofNat n.toNat).toArray⟩ : ByteArray) = strOfNums l := by
  unfold strOfNums
  rfl

theorem pby_trim (s : List Int) (hs : byts s) (n : Nat) (h0 : 0 < n) (hn : n ≤ 255) : (⟨(Lib.trimPrefix (strOfNums s).data.toList [UInt8.ofNat n]).toArray⟩ : ByteArray) = strOfNums (if s.getD 0 0 = (n : Int) then s.drop 1 else s) := by
  unfold Lib.trimPrefix
  rw [pby_pre s hs n h0 hn, strOfNums_data]
  by_cases h : s.getD 0 0 = (n : Int)
  · rw [if_pos (decide_eq_true h), if_pos h, ← pby_of, List.map_drop]; rfl
  · rw [if_neg (by simpa using h), if_neg h, ← pby_of]

theorem pcutp_any (s : List Int) (n : Nat) (h0 : 0 < n) (hn : n ≤ 255) (w : World) (hs : Hid (byts s)) :
    Calls Tryz.prog 59 #[.string (strOfNums s), .string { data := #[UInt8.ofNat n] }] w fun e w' => e = .returned (.tuple #[.string (strOfNums (if s.getD 0 0 = (n : Int) then s.drop 1 else s)), .bool (decide (s.getD 0 0 = (n : Int)))]) ∧ w' = w := by
  have q := Sh.strings_CutPrefix (strOfNums s) { data := #[UInt8.ofNat n] } w
  rw [show ({ data := #[UInt8.ofNat n] } : ByteArray).data.toList = [UInt8.ofNat n] from rfl, pby_pre s hs.out n h0 hn, pby_trim s hs.out n h0 hn] at q
  exact q

theorem ptrimp_any (s : List Int) (n : Nat) (h0 : 0 < n) (hn : n ≤ 255) (w : World) (hs : Hid (byts s)) :
    Calls Tryz.prog 24 #[.string (strOfNums s), .string { data := #[UInt8.ofNat n] }] w fun e w' => e = .returned (.string (strOfNums (if s.getD 0 0 = (n : Int) then s.drop 1 else s))) ∧ w' = w := by
  have q := Sh.strings_TrimPrefix (strOfNums s) { data := #[UInt8.ofNat n] } w
  rw [show ({ data := #[UInt8.ofNat n] } : ByteArray).data.toList = [UInt8.ofNat n] from rfl, pby_trim s hs.out n h0 hn] at q
  exact q

def ppt (c : Int) : Bool := decide (c ≠ 46)

theorem ix46 : ∀ s : List Int, (∀ c ∈ s, 0 ≤ c ∧ c ≤ 255) → (Lib.index (s.map fun n => UInt8.ofNat n.toNat) [46] = -1 ∧ s.takeWhile ppt = s) ∨ ∃ k : Nat, Lib.index (s.map fun n => UInt8.ofNat n.toNat) [46] = k ∧ s.takeWhile ppt = s.take k
  | [], _ => .inl ⟨rfl, rfl⟩
  | c :: r, h => by
    have hc := h c (by simp)
    have ih := ix46 r (fun x hx => h x (by simp [hx]))
    have e : Lib.index ((c :: r).map fun n => UInt8.ofNat n.toNat) [46] = if c = 46 then 0 else if Lib.index (r.map fun n => UInt8.ofNat n.toNat) [46] == -1 then -1 else Lib.index (r.map fun n => UInt8.ofNat n.toNat) [46] + 1 := by
      show (if ([46] : List UInt8).isPrefixOf (UInt8.ofNat c.toNat :: (r.map fun n => UInt8.ofNat n.toNat)) = true then (0 : Int) else if Lib.index (r.map fun n => UInt8.ofNat n.toNat) [46] == -1 then -1 else Lib.index (r.map fun n => UInt8.ofNat n.toNat) [46] + 1) = _
      have hp : ([46] : List UInt8).isPrefixOf (UInt8.ofNat c.toNat :: (r.map fun n => UInt8.ofNat n.toNat)) = decide (c = 46) := by
        simp only [List.isPrefixOf, Bool.and_true]
        rw [Bool.eq_iff_iff, beq_iff_eq, decide_eq_true_eq]
        constructor
        · intro g; exact u8_inj hc (by omega) (by rw [← g]; rfl)
        · rintro rfl; rfl
      rw [hp]
      by_cases k : c = 46 <;> simp [k]
    rw [e]
    by_cases k : c = 46
    · subst k
      exact .inr ⟨0, by simp, by simp [ppt]⟩
    · rw [if_neg k]
      have hl : ppt c = true := decide_eq_true k
      rcases ih with ⟨h1, h2⟩ | ⟨j, h1, h2⟩
      · left
        rw [h1, List.takeWhile_cons, if_pos hl, h2]
        simp
      · right
        refine ⟨j + 1, ?_, ?_⟩
        · rw [h1, if_neg (by simp only [beq_iff_eq]; omega)]; rfl
        · rw [List.takeWhile_cons, if_pos hl, h2]; simp

theorem cut46 (s : List Int) (h : ∀ c ∈ s, 0 ≤ c ∧ c ≤ 255) : (⟨(Lib.cut (s.map fun n => UInt8.ofNat n.toNat) [46]).1.toArray⟩ : ByteArray) = strOfNums (s.takeWhile ppt) := by
  rw [← pby_of]
  unfold Lib.cut
  rcases ix46 s h with ⟨h1, h2⟩ | ⟨k, h1, h2⟩
  · rw [h1, if_neg (by omega), h2]
  · rw [h1, if_pos (by omega), h2]
    simp [List.map_take]

theorem nsp_head : ∀ (s cur : List Int), (nsp cur s).getD 0 [] = cur ++ s.takeWhile ppt
  | [], cur => by rw [nsp]; simp
  | c :: r, cur => by
    rw [nsp]
    by_cases h : c = 46
    · rw [if_pos h, List.takeWhile_cons, if_neg (by simp [ppt, h])]; simp
    · rw [if_neg h, nsp_head r, List.takeWhile_cons, if_pos (by simp [ppt, h])]; simp

/-- Whether a text names a type that is not plain, as the program asks it. -/
def pnamed (s : List Int) : Bool := if s.getD 0 0 = 46 then nfull (s.drop 1) else (nfull s && !nkey (s.takeWhile ppt))

set_option maxRecDepth 10000 in
set_option maxHeartbeats 2000000 in
theorem pisnamed_any (s : List Int) (w : World) (hT : Hid (TTab w)) (hs : Hid (byts s)) (hlen : (s.length : Int) ≤ 100000) :
    Calls Tryz.prog 32 #[.string (strOfNums s)] w fun e w' => e = .returned (.bool (pnamed s)) ∧ Below w.heap.size w w' := by
  have q := fun W => pcutp_any s 46 (by omega) (by omega) W hs
  change ∀ W, Calls Tryz.prog 59 #[.string (strOfNums s), .string { data := #[46] }] W fun e w' => e = .returned (.tuple #[.string (strOfNums (if s.getD 0 0 = 46 then s.drop 1 else s)), .bool (decide (s.getD 0 0 = 46))]) ∧ w' = W at q
  by_cases hpt : s.getD 0 0 = 46
  · rw [if_pos hpt, decide_eq_true hpt] at q
    rw [show pnamed s = nfull (s.drop 1) by unfold pnamed; rw [if_pos hpt]]
    have qf := fun W => pfull_any (s.drop 1) W trivial (fun i => by
      have : byts (s.drop 1) := fun c hc => hs.out c (List.mem_of_mem_drop hc)
      exact bd_mem this i) (by rw [List.length_drop]; omega)
    generalize nfull (s.drop 1) = R at qf ⊢
    generalize strOfNums (s.drop 1) = D at q qf
    generalize strOfNums s = S at q ⊢
    have Q : Hid _ := q
    have QF : Hid _ := qf
    clear q qf hpt
    go_enter Tryz.func32, Tryz.ntmps32
    go_wp2_with fail
    refine Calls.mono (Q.out _) ?_
    rintro e w1 ⟨rfl, rfl⟩
    go_wp2_with fail
    refine Calls.mono (QF.out _) ?_
    rintro e w2 ⟨rfl, hb⟩
    go_wp2
    go_ret
    exact ⟨rfl, hb⟩
  · rw [if_neg hpt, decide_eq_false hpt] at q
    rw [show pnamed s = (nfull s && !nkey (s.takeWhile ppt)) by unfold pnamed; rw [if_neg hpt]]
    obtain ⟨_, m, hm⟩ := hT.out
    have qc := Sh.strings_Cut (strOfNums s) { data := #[46] } m w (by rw [strOfNums_size]; omega) hm
    rw [show ({ data := #[46] } : ByteArray).data.toList = [46] from rfl, strOfNums_data, cut46 s hs.out] at qc
    have qf := fun W => pfull_any s W trivial (fun i => bd_mem hs.out i) hlen
    have qk := fun W => pkey_any (s.takeWhile ppt) W trivial (fun i => bd_mem (fun c hc => hs.out c ((List.takeWhile_sublist _).subset hc)) i) (by
      have : (s.takeWhile ppt).length ≤ s.length := (List.takeWhile_sublist _).length_le
      omega)
    generalize nfull s = R at qf ⊢
    generalize nkey (s.takeWhile ppt) = K at qk ⊢
    generalize strOfNums (s.takeWhile ppt) = D at qc qk
    generalize (⟨(Lib.cut (s.map fun n => UInt8.ofNat n.toNat) [46]).2.1.toArray⟩ : ByteArray) = D2 at qc
    generalize (Lib.cut (s.map fun n => UInt8.ofNat n.toNat) [46]).2.2 = B2 at qc
    generalize strOfNums s = S at q qc qf ⊢
    have Q : Hid _ := q
    have QC : Hid _ := qc
    have QF : Hid _ := qf
    have QK : Hid _ := qk
    clear q qf qc qk hpt hm
    cases R with
    | false =>
      go_enter Tryz.func32, Tryz.ntmps32
      go_wp2_with fail
      refine Calls.mono (Q.out _) ?_
      rintro e w1 ⟨rfl, rfl⟩
      go_wp2_with fail
      refine Calls.mono QC.out ?_
      rintro e w2 ⟨rfl, n, rfl⟩
      go_wp2_with fail
      refine Calls.mono (QF.out _) ?_
      rintro e w2 ⟨rfl, hb⟩
      go_wp2
      go_ret
      exact ⟨rfl, (Below.drewN'' _ _).trans (hb.mono (Below.drewN'' _ _).size)⟩
    | true =>
      go_enter Tryz.func32, Tryz.ntmps32
      go_wp2_with fail
      refine Calls.mono (Q.out _) ?_
      rintro e w1 ⟨rfl, rfl⟩
      go_wp2_with fail
      refine Calls.mono QC.out ?_
      rintro e w2 ⟨rfl, n, rfl⟩
      go_wp2_with fail
      refine Calls.mono (QF.out _) ?_
      rintro e w2 ⟨rfl, hb⟩
      go_wp2_with fail
      refine Calls.mono (QK.out _) ?_
      rintro e w3 ⟨rfl, hb3⟩
      have hb13 := (Below.drewN'' w1 n).trans ((hb.trans (hb3.mono hb.size)).mono (Below.drewN'' w1 n).size)
      have HB : Hid (Below w1.heap.size w1 w3) := hb13
      clear hb13 hb hb3
      go_wp2
      go_ret
      exact ⟨by cases K <;> rfl, HB.out⟩

end Go.Proofs.YtgkablmglkagfaaGreatDoor

/- The contract of the program's own node.Int. -/
namespace Go.Proofs.YtgkablmglkagfaaGreatDoor
open Go.RowKit
set_option linter.unusedVariables false
set_option linter.unusedSimpArgs false

set_option maxRecDepth 10000 in
set_option maxHeartbeats 2000000 in
theorem pint_core (S D X : ByteArray) (minus is same : Bool) (n : Int) (w : World) (n0 : 0 ≤ n) (n1 : n ≤ 18446744073709551615) (e1 : (X.toList == D.toList) = same)
    (q1 : ∀ W, Calls Tryz.prog 59 #[.string S, .string { data := #[45] }] W fun e w' => e = .returned (.tuple #[.string D, .bool minus]) ∧ w' = W)
    (q2 : ∀ W, Calls Tryz.prog 65 #[.string D] W fun e w' => e = .returned (.tuple #[.int .u64 n, .bool is]) ∧ Below W.heap.size W w')
    (q3 : ∀ W, Below w.heap.size w W → Calls Tryz.prog 66 #[.int .u64 n] W fun e w' => e = .returned (.string X) ∧ Below W.heap.size W w')
    (A : Int) (B C : Bool) (hR : Hid ((A, B, C) = if is = false ∨ same = false ∨ (minus = true ∧ (n = 0 ∨ 9223372036854775808 < n)) then (0, false, false) else (n, minus, true))) :
    Calls Tryz.prog 42 #[.string S] w fun e w' => e = .returned (.tuple #[.int .u64 A, .bool B, .bool C]) ∧ Below w.heap.size w w' := by
  have Q1 : Hid _ := q1
  have Q2 : Hid _ := q2
  have Q3 : Hid _ := q3
  clear q1 q2 q3
  have hBB : Hid (∀ w1 w2, Below w.heap.size w w1 → Below w1.heap.size w1 w2 → Below w.heap.size w w2) := fun w1 w2 a b => a.trans (b.mono a.size)
  cases is with
  | false =>
    have E := hR.out
    rw [if_pos (.inl rfl)] at E
    cases E
    clear hR Q3
    go_enter Tryz.func42, Tryz.ntmps42
    go_wp2_with fail
    refine Calls.mono (Q1.out _) ?_
    rintro e w1 ⟨rfl, rfl⟩
    go_wp2_with fail
    refine Calls.mono (Q2.out _) ?_
    rintro e w2 ⟨rfl, hb⟩
    go_wp2
    go_ret3
    exact ⟨rfl, hb⟩
  | true =>
    cases same with
    | false =>
      have E := hR.out
      rw [if_pos (.inr (.inl rfl))] at E
      cases E
      clear hR
      go_enter Tryz.func42, Tryz.ntmps42
      go_wp2_with fail
      refine Calls.mono (Q1.out _) ?_
      rintro e w1 ⟨rfl, rfl⟩
      go_wp2_with fail
      refine Calls.mono (Q2.out _) ?_
      rintro e w2 ⟨rfl, hb⟩
      have HB : Hid (Below w1.heap.size w1 w2) := hb
      clear hb
      go_wp2_with fail
      refine Calls.mono (Q3.out _ HB.out) ?_
      rintro e w3 ⟨rfl, hb⟩
      have HB3 : Hid (Below w1.heap.size w1 w3) := hBB.out _ _ HB.out hb
      clear hb
      go_wp2
      go_ret3
      exact ⟨rfl, HB3.out⟩
    | true =>
      cases minus with
      | false =>
        have E := hR.out
        rw [if_neg (by simp)] at E
        cases E
        clear hR
        go_enter Tryz.func42, Tryz.ntmps42
        go_wp2_with fail
        refine Calls.mono (Q1.out _) ?_
        rintro e w1 ⟨rfl, rfl⟩
        go_wp2_with fail
        refine Calls.mono (Q2.out _) ?_
        rintro e w2 ⟨rfl, hb⟩
        have HB : Hid (Below w1.heap.size w1 w2) := hb
        clear hb
        go_wp2_with fail
        refine Calls.mono (Q3.out _ HB.out) ?_
        rintro e w3 ⟨rfl, hb⟩
        have HB3 : Hid (Below w1.heap.size w1 w3) := hBB.out _ _ HB.out hb
        clear hb
        go_wp2
        go_ret3
        exact ⟨rfl, HB3.out⟩
      | true =>
        by_cases h0 : n = 0
        · subst h0
          have E := hR.out
          rw [if_pos (.inr (.inr ⟨rfl, .inl rfl⟩))] at E
          cases E
          clear hR
          go_enter Tryz.func42, Tryz.ntmps42
          go_wp2_with fail
          refine Calls.mono (Q1.out _) ?_
          rintro e w1 ⟨rfl, rfl⟩
          go_wp2_with fail
          refine Calls.mono (Q2.out _) ?_
          rintro e w2 ⟨rfl, hb⟩
          have HB : Hid (Below w1.heap.size w1 w2) := hb
          clear hb
          go_wp2_with fail
          refine Calls.mono (Q3.out _ HB.out) ?_
          rintro e w3 ⟨rfl, hb⟩
          have HB3 : Hid (Below w1.heap.size w1 w3) := hBB.out _ _ HB.out hb
          clear hb
          go_wp2
          go_ret3
          exact ⟨rfl, HB3.out⟩
        · have z0 : (n == 0) = false := by simpa using h0
          by_cases hbig : 9223372036854775808 < n
          · have E := hR.out
            rw [if_pos (.inr (.inr ⟨rfl, .inr hbig⟩))] at E
            cases E
            clear hR
            go_enter Tryz.func42, Tryz.ntmps42
            go_wp2_with fail
            refine Calls.mono (Q1.out _) ?_
            rintro e w1 ⟨rfl, rfl⟩
            go_wp2_with fail
            refine Calls.mono (Q2.out _) ?_
            rintro e w2 ⟨rfl, hb⟩
            have HB : Hid (Below w1.heap.size w1 w2) := hb
            clear hb
            go_wp2_with fail
            refine Calls.mono (Q3.out _ HB.out) ?_
            rintro e w3 ⟨rfl, hb⟩
            have HB3 : Hid (Below w1.heap.size w1 w3) := hBB.out _ _ HB.out hb
            clear hb
            go_wp2
            go_ret3
            exact ⟨rfl, HB3.out⟩
          · have E := hR.out
            rw [if_neg (by simp [h0]; omega)] at E
            cases E
            clear hR
            go_enter Tryz.func42, Tryz.ntmps42
            go_wp2_with fail
            refine Calls.mono (Q1.out _) ?_
            rintro e w1 ⟨rfl, rfl⟩
            go_wp2_with fail
            refine Calls.mono (Q2.out _) ?_
            rintro e w2 ⟨rfl, hb⟩
            have HB : Hid (Below w1.heap.size w1 w2) := hb
            clear hb
            go_wp2_with fail
            refine Calls.mono (Q3.out _ HB.out) ?_
            rintro e w3 ⟨rfl, hb⟩
            have HB3 : Hid (Below w1.heap.size w1 w3) := hBB.out _ _ HB.out hb
            clear hb
            go_wp2
            go_ret3
            exact ⟨rfl, HB3.out⟩

theorem pint_any (s : List Int) (W : World) (hT : Hid (TTab W)) (hz : Hid (∀ i, 0 ≤ s.getD i 0 ∧ s.getD i 0 ≤ 255)) (hlen : (s.length : Int) ≤ 1000000) :
    Calls Tryz.prog 42 #[.string (strOfNums s)] W fun e w' => e = .returned (.tuple #[.int .u64 (tint s).1, .bool (tint s).2.1, .bool (tint s).2.2]) ∧ Below W.heap.size W w' := by
  have hs : byts s := mem_bd hz.out
  have hd : byts (if s.getD 0 0 = 45 then s.drop 1 else s) := by
    split
    · exact fun c hc => hs c (List.mem_of_mem_drop hc)
    · exact hs
  have hdl : ((if s.getD 0 0 = 45 then s.drop 1 else s).length : Int) ≤ 1000000 := by
    split
    · rw [List.length_drop]; omega
    · exact hlen
  have hE : tint s = tintd (decide (s.getD 0 0 = 45)) (if s.getD 0 0 = 45 then s.drop 1 else s) := by
    unfold tint
    by_cases h : s.getD 0 0 = 45
    · rw [if_pos h, if_pos h, decide_eq_true h]
    · rw [if_neg h, if_neg h, decide_eq_false h]
  have q1 := fun W => pcutp_any s 45 (by omega) (by omega) W hs
  change ∀ W, Calls Tryz.prog 59 #[.string (strOfNums s), .string { data := #[45] }] W fun e w' => e = .returned (.tuple #[.string (strOfNums (if s.getD 0 0 = 45 then s.drop 1 else s)), .bool (decide (s.getD 0 0 = 45))]) ∧ w' = W at q1
  generalize (if s.getD 0 0 = 45 then s.drop 1 else s) = d at hd hdl hE q1
  generalize decide (s.getD 0 0 = 45) = minus at hE q1
  have hb : 0 ≤ (qnum d).1 ∧ (qnum d).1 ≤ 18446744073709551615 := qnum_bd d
  rw [hE]
  refine pint_core (strOfNums s) (strOfNums d) (strOfNums (qdg 20 (qnum d).1)) minus (qnum d).2 (qdg 20 (qnum d).1 == d) (qnum d).1 W hb.1 hb.2 (str_eq (fun c hc => by have := (qdg_bd 20 _ hb.1).1 c hc; omega) hd) q1 (fun V => pnum_any d V (fun i => bd_mem hd i) (by omega)) (fun V hV => pdig_any _ V (hT.out.1.below hV (Nat.le_refl _)) hb.1 hb.2) _ _ _ ?_
  show _ = _
  unfold tintd
  by_cases h : (qnum d).2 = false ∨ qdg 20 (qnum d).1 ≠ d ∨ (minus = true ∧ ((qnum d).1 = 0 ∨ 9223372036854775808 < (qnum d).1))
  · rw [if_pos h, if_pos (h.imp id (Or.imp (fun e => by simpa using e) id))]
  · rw [if_neg h, if_neg (fun g => h (g.imp id (Or.imp (fun e => by simpa using e) id)))]

end Go.Proofs.YtgkablmglkagfaaGreatDoor
