/- The contracts of the reference's own Ident, Join, Parent, camel, Json, Entry. -/
import Derived.Test.YtmpdgdjjjgnpiaaNMath
import Derived.Test.YtmpdgdjjjgnpiaaLRef2
import Derived.Test.YtmpdgdjjjgnpiaaQNum
namespace Go.Proofs.Ytmpdgdjjjgnpiaa
open Go.RowKit
set_option linter.unusedVariables false
set_option linter.unusedSimpArgs false

theorem nident_big (s : List Int) (h : 200 < s.length ∨ s.length = 0) : nident s = false := by
  unfold nident
  rw [decide_eq_false (by omega)]
  simp

theorem nident_bad (s : List Int) (k : Nat) (hk : k < s.length) (h : lletter (s.getD k 0) = false) : nident s = false := by
  unfold nident
  have : s.all lletter = false := by
    rw [List.all_eq_false]
    refine ⟨s[k], List.getElem_mem hk, ?_⟩
    rw [show s.getD k 0 = s[k] by simp [List.getD, hk]] at h
    rw [h]; decide
  rw [this]; rfl

theorem nident_good (s : List Int) (h : ∀ k, k < s.length → lletter (s.getD k 0) = true) (h1 : 1 ≤ s.length) (h2 : s.length ≤ 200) : nident s = !lnumb (s.getD 0 0) := by
  unfold nident
  have : s.all lletter = true := by
    rw [List.all_eq_true]
    intro c hc
    obtain ⟨k, hk, rfl⟩ := List.getElem_of_mem hc
    have := h k hk
    rwa [show s.getD k 0 = s[k] by simp [List.getD, hk]] at this
  rw [this, decide_eq_true ⟨h1, h2⟩]; rfl

set_option maxHeartbeats 1000000 in
theorem rident_any (s : List Int) (w : World) (hz : Hid (∀ i, 0 ≤ s.getD i 0 ∧ s.getD i 0 ≤ 255)) (hlen : (s.length : Int) ≤ 9223372036854775807) :
    Calls Try.prog 11 #[.string (strOfNums s)] w fun e w' => e = .returned (.bool (nident s)) ∧ w = w' := by
  have hsz := strOfNums_size s
  have HA : Hid (∀ k, (h : k < s.length) → (((strOfNums s)[k]'(by rw [hsz]; exact h)).toNat : Int) = s.getD k 0) := fun k h => str_at s hz.out k _
  generalize strOfNums s = S at hsz HA
  go_enter Try.func11, Try.ntmps11
  go_wp2
  go_loopw [3] (fun v wr => ∃ k : Nat, v = .int .i64 (k : Int) ∧ k ≤ s.length ∧ Hid (∀ j, j < k → lletter (s.getD j 0) = true) ∧ w = wr) (fun v _ => s.length - (intOf v).toNat)
  case atStart => exact ⟨0, rfl, by omega, fun j hj => absurd hj (by omega), rfl⟩
  case round =>
    obtain ⟨k, rfl, hk, HJ, rfl⟩ := hrel
    by_cases hkl : k < s.length
    · have hat := HA.out k hkl
      have hcb := hz.out k
      obtain ⟨c, hc⟩ : ∃ c, c = s.getD k 0 := ⟨_, rfl⟩
      have HC : Hid (c = s.getD k 0) := hc
      rw [← hc] at hat hcb
      obtain ⟨c0, c255⟩ := hcb
      have q := fun W => rletter_any c W c0 c255
      clear hc
      by_cases hl : lletter c = true
      · rw [hl] at q
        have Q : Hid _ := q
        have HJ2 : Hid (∀ j, j < k + 1 → lletter (s.getD j 0) = true) := fun j hj => by
          by_cases e : j = k
          · rw [e, ← HC.out]; exact hl
          · exact HJ.out j (by omega)
        clear q hl HJ
        go_wp2_with fail
        refine Calls.mono (Q.out _) ?_
        rintro e w1 ⟨rfl, rfl⟩
        go_wp2
        go_roundw
        case rel => first | exact ⟨k + 1, by go_num, by omega, HJ2, by first | rfl | trivial⟩ | ((repeat apply Exists.intro); exact ⟨⟨k + 1, by go_num, by omega, HJ2, by first | rfl | trivial⟩, rfl⟩)
        case measure => simp [intOf]; omega
      · have hl' : lletter c = false := by simpa using hl
        rw [hl'] at q
        have Q : Hid _ := q
        have E : Hid (nident s = false) := nident_bad s k hkl (by rw [← HC.out]; exact hl')
        clear q hl hl' HJ
        go_wp2_with fail
        refine Calls.mono (Q.out _) ?_
        rintro e w1 ⟨rfl, rfl⟩
        go_wp2
        go_ret
        exact ⟨by rw [E.out]; rfl, rfl⟩
    · obtain rfl : k = s.length := by omega
      by_cases h0 : s.length = 0
      · have E : Hid (nident s = false) := nident_big s (.inr h0)
        have h1 : ¬ (1 : Int) ≤ (s.length : Int) := by omega
        clear HJ h0
        go_wp2
        go_ret
        exact ⟨by rw [E.out]; rfl, rfl⟩
      · have h1 : (1 : Int) ≤ (s.length : Int) := by omega
        by_cases h2 : s.length ≤ 200
        · have h2' : (s.length : Int) ≤ 200 := by omega
          have hat := HA.out 0 (by omega)
          have hcb := hz.out 0
          have E : Hid (nident s = !lnumb (s.getD 0 0)) := nident_good s HJ.out (by omega) h2
          generalize s.getD 0 0 = c at hat hcb E
          obtain ⟨c0, c255⟩ := hcb
          have Q : Hid _ := fun W => rnumber_any c W c0 c255
          clear HJ
          go_wp2_with fail
          refine Calls.mono (Q.out _) ?_
          rintro e w1 ⟨rfl, rfl⟩
          go_wp2
          go_ret
          exact ⟨by rw [E.out]; rfl, rfl⟩
        · have h2' : ¬ (s.length : Int) ≤ 200 := by omega
          have E : Hid (nident s = false) := nident_big s (.inl (by omega))
          clear HJ
          go_wp2
          go_ret
          exact ⟨by rw [E.out]; rfl, rfl⟩

set_option maxHeartbeats 1000000 in
theorem rjoin_any (a b : List Int) (w : World) (hl : a.length + b.length ≤ 1000000) :
    Calls Try.prog 17 #[.string (strOfNums a), .string (strOfNums b)] w fun e w' => e = .returned (.string (strOfNums (njoin a b))) ∧ w = w' := by
  unfold njoin
  by_cases h : a = []
  · rw [if_pos h]
    have hne : ((strOfNums a).toList == []) = true := by rw [h, str_list]; rfl
    generalize strOfNums a = A at hne
    generalize strOfNums b = B
    go_enter Try.func17, Try.ntmps17
    go_wp2
    go_ret
    exact ⟨rfl, rfl⟩
  · rw [if_neg h]
    have hne : ((strOfNums a).toList == []) = false := by
      cases a with
      | nil => exact absurd rfl h
      | cons c r => exact str_ne c r
    have h1 : ∀ W, (Op.stringOp .add (strOfNums a) { data := #[46] }).run Try.prog W = .ok (.string (strOfNums (a ++ [46]))) W := fun W => run_add W a [46] (by simp; omega)
    have h2 : ∀ W, (Op.stringOp .add (strOfNums (a ++ [46])) (strOfNums b)).run Try.prog W = .ok (.string (strOfNums (a ++ [46] ++ b))) W := fun W => run_add W (a ++ [46]) b (by simp; omega)
    clear h
    generalize strOfNums (a ++ [46] ++ b) = R at h2
    generalize strOfNums (a ++ [46]) = AP at h1 h2
    generalize strOfNums a = A at hne h1
    generalize strOfNums b = B at h2
    go_enter Try.func17, Try.ntmps17
    go_wp2
    go_ret
    exact ⟨rfl, rfl⟩

set_option maxHeartbeats 1000000 in
theorem rcamel_any (s : List Int) (g : Bool) (w : World) (hz : Hid (∀ i, 0 ≤ s.getD i 0 ∧ s.getD i 0 ≤ 255)) (hlen : (s.length : Int) ≤ 1000000) :
    Calls Try.prog 40 #[.string (strOfNums s), .bool g] w fun e w' => e = .returned (.string (strOfNums (ncam g s))) ∧ Below w.heap.size w w' := by
  have hsz := strOfNums_size s
  have HA : Hid (∀ k, (h : k < s.length) → (((strOfNums s)[k]'(by rw [hsz]; exact h)).toNat : Int) = s.getD k 0) := fun k h => str_at s hz.out k _
  have HMB : Hid (∀ c ∈ s, 0 ≤ c ∧ c ≤ 255) := mem_bd hz.out
  generalize strOfNums s = S at hsz HA
  obtain ⟨R, hR⟩ : ∃ R, R = ncam g s := ⟨_, rfl⟩
  rw [← hR]
  have HR0 : Hid (R = [] ++ ncam g (s.drop 0)) := hR
  have HRB : Hid (∀ c ∈ R, 0 ≤ c ∧ c ≤ 255) := by rw [hR]; exact ncam_bd s g HMB.out
  clear hR
  go_enter Try.func40, Try.ntmps40
  go_wp2
  go_loopw [1, 5, 6] (fun gv v kv wr => ∃ (k : Nat) (g : Bool) (o : List Int), gv = .bool g ∧ kv = .int .i64 (k : Int) ∧ k ≤ s.length ∧ o.length ≤ k ∧ Hid (R = o ++ ncam g (s.drop k)) ∧ wr.ownsRow w.heap.size 5 1 v o.length (o.map (Value.int .u8)) ∧ Below w.heap.size w wr) (fun _ _ kv _ => s.length - (intOf kv).toNat)
  case atStart => exact ⟨0, g, [], rfl, rfl, by omega, by simp, HR0, World.ownsRow_nil _ _ _ _, Below.refl _ _⟩
  case round =>
    obtain ⟨k, g, o, rfl, rfl, hk, hol, HQ, hown, hb⟩ := hrel
    have hbs := hb.size
    by_cases hkl : k < s.length
    · have hat := HA.out k hkl
      obtain ⟨c0, c255⟩ := hz.out k
      have HQ' := HQ.out
      rw [drop_at hkl, ncam] at HQ'
      generalize s.getD k 0 = c at hat c0 c255 HQ'
      by_cases h95 : c = 95
      · subst h95
        rw [if_pos rfl] at HQ'
        have HE : Hid _ := HQ'
        clear HQ HQ' HR0
        go_wp2
        go_roundw
        case rel => first | exact ⟨k + 1, true, o, rfl, by go_num, by omega, by omega, HE, hown, hb⟩ | ((repeat apply Exists.intro); exact ⟨⟨k + 1, true, o, rfl, by go_num, by omega, by omega, HE, hown, hb⟩, rfl⟩)
        case measure => simp [intOf]; omega
      · rw [if_neg h95] at HQ'
        have e95 : (c == 95) = false := by simpa using h95
        obtain ⟨d, hd⟩ : ∃ d, d = if g = true ∧ 97 ≤ c ∧ c ≤ 122 then c - 32 else c := ⟨_, rfl⟩
        rw [← hd] at HQ'
        have HE : Hid (R = (o ++ [d]) ++ ncam false (s.drop (k + 1))) := by show _ = _; rw [HQ']; simp
        have hown' := hown.alloc (.cells #[.int .u8 d] 5)
        have hB1 : Below w.heap.size w (wr.alloc (.cells #[.int .u8 d] 5)) := hb.alloc hbs _
        have hd0 : 0 ≤ d ∧ d ≤ 255 := by rw [hd]; split <;> omega
        have B1 : Hid (Bs (wr.alloc (.cells #[.int .u8 d] 5)) (some ⟨wr.heap.size, 0, none⟩) 1 1 [d]) := Bs.of_owns (zs := [d]) (own_lit wr d) (by simp; exact hd0)
        have hs1 := hB1.size
        have hn1 : o.length + 1 ≤ 140737488355328 := by omega
        clear HQ HQ' HR0 h95
        cases g with
        | false =>
          rw [if_neg (by simp)] at hd
          subst hd
          go_wp2_with (at_builtin; refine wpList_append_bs rfl _ _ rfl w.heap.size _ _ _ _ _ _ [d] rfl rfl hown' B1.out hn1 hs1 ?_; intro v2 w2 hown2 hgrow2)
          have hB2 : Below w.heap.size w w2 := hB1.grown hgrow2 hB1.size (fun j hj => (hown'.lt j hj).1)
          have hown3 : w2.ownsRow w.heap.size 5 1 v2 (o ++ [d]).length ((o ++ [d]).map (Value.int .u8)) := by rw [List.length_append, List.map_append]; exact hown2
          go_roundw
          case rel => first | exact ⟨k + 1, false, o ++ [d], rfl, by go_num, by omega, by simp; omega, HE, hown3, hB2⟩ | ((repeat apply Exists.intro); exact ⟨⟨k + 1, false, o ++ [d], rfl, by go_num, by omega, by simp; omega, HE, hown3, hB2⟩, rfl⟩)
          case measure => simp [intOf]; omega
        | true =>
          rcases (show (97 ≤ c ∧ c ≤ 122) ∨ c < 97 ∨ 122 < c by omega) with h | h | h
          · rw [if_pos ⟨rfl, h⟩] at hd
            subst hd
            obtain ⟨p1, p2⟩ := h
            go_wp2_with (at_builtin; refine wpList_append_bs rfl _ _ rfl w.heap.size _ _ _ _ _ _ [c - 32] rfl rfl hown' B1.out hn1 hs1 ?_; intro v2 w2 hown2 hgrow2)
            have hB2 : Below w.heap.size w w2 := hB1.grown hgrow2 hB1.size (fun j hj => (hown'.lt j hj).1)
            have hown3 : w2.ownsRow w.heap.size 5 1 v2 (o ++ [c - 32]).length ((o ++ [c - 32]).map (Value.int .u8)) := by rw [List.length_append, List.map_append]; exact hown2
            go_roundw
            case rel => first | exact ⟨k + 1, false, o ++ [c - 32], rfl, by go_num, by omega, by simp; omega, HE, hown3, hB2⟩ | ((repeat apply Exists.intro); exact ⟨⟨k + 1, false, o ++ [c - 32], rfl, by go_num, by omega, by simp; omega, HE, hown3, hB2⟩, rfl⟩)
            case measure => simp [intOf]; omega
          · rw [if_neg (by omega)] at hd
            subst hd
            go_wp2_with (at_builtin; refine wpList_append_bs rfl _ _ rfl w.heap.size _ _ _ _ _ _ [d] rfl rfl hown' B1.out hn1 hs1 ?_; intro v2 w2 hown2 hgrow2)
            have hB2 : Below w.heap.size w w2 := hB1.grown hgrow2 hB1.size (fun j hj => (hown'.lt j hj).1)
            have hown3 : w2.ownsRow w.heap.size 5 1 v2 (o ++ [d]).length ((o ++ [d]).map (Value.int .u8)) := by rw [List.length_append, List.map_append]; exact hown2
            go_roundw
            case rel => first | exact ⟨k + 1, false, o ++ [d], rfl, by go_num, by omega, by simp; omega, HE, hown3, hB2⟩ | ((repeat apply Exists.intro); exact ⟨⟨k + 1, false, o ++ [d], rfl, by go_num, by omega, by simp; omega, HE, hown3, hB2⟩, rfl⟩)
            case measure => simp [intOf]; omega
          · rw [if_neg (by omega)] at hd
            subst hd
            go_wp2_with (at_builtin; refine wpList_append_bs rfl _ _ rfl w.heap.size _ _ _ _ _ _ [d] rfl rfl hown' B1.out hn1 hs1 ?_; intro v2 w2 hown2 hgrow2)
            have hB2 : Below w.heap.size w w2 := hB1.grown hgrow2 hB1.size (fun j hj => (hown'.lt j hj).1)
            have hown3 : w2.ownsRow w.heap.size 5 1 v2 (o ++ [d]).length ((o ++ [d]).map (Value.int .u8)) := by rw [List.length_append, List.map_append]; exact hown2
            go_roundw
            case rel => first | exact ⟨k + 1, false, o ++ [d], rfl, by go_num, by omega, by simp; omega, HE, hown3, hB2⟩ | ((repeat apply Exists.intro); exact ⟨⟨k + 1, false, o ++ [d], rfl, by go_num, by omega, by simp; omega, HE, hown3, hB2⟩, rfl⟩)
            case measure => simp [intOf]; omega
    · obtain rfl : k = s.length := by omega
      have E := HQ.out
      rw [List.drop_length, ncam, List.append_nil] at E
      subst E
      obtain ⟨a, cc, rfl⟩ := own_slice hown
      have hcv := (Bs.of_owns hown HRB.out).conv
      clear HQ HR0
      go_wp2
      go_ret
      exact ⟨rfl, hb⟩

set_option maxHeartbeats 400000 in
theorem rjson_any (s : List Int) (w : World) (hz : Hid (∀ i, 0 ≤ s.getD i 0 ∧ s.getD i 0 ≤ 255)) (hlen : (s.length : Int) ≤ 1000000) :
    Calls Try.prog 24 #[.string (strOfNums s)] w fun e w' => e = .returned (.string (strOfNums (ncam false s))) ∧ Below w.heap.size w w' := by
  have Q : Hid _ := rcamel_any s false w hz hlen
  go_enter Try.func24, Try.ntmps24
  go_wp2_with fail
  refine Calls.mono Q.out ?_
  rintro e w1 ⟨rfl, hb⟩
  go_wp2
  go_ret
  exact ⟨rfl, hb⟩

set_option maxHeartbeats 400000 in
theorem rentry_any (s : List Int) (w : World) (hz : Hid (∀ i, 0 ≤ s.getD i 0 ∧ s.getD i 0 ≤ 255)) (hlen : (s.length : Int) ≤ 1000000) :
    Calls Try.prog 26 #[.string (strOfNums s)] w fun e w' => e = .returned (.string (strOfNums (ncam true s ++ nentry))) ∧ Below w.heap.size w w' := by
  have Q : Hid _ := rcamel_any s true w hz hlen
  have hl := ncam_len s true
  have h1 : ∀ W, (Op.stringOp .add (strOfNums (ncam true s)) { data := #[69, 110, 116, 114, 121] }).run Try.prog W = .ok (.string (strOfNums (ncam true s ++ nentry))) W := fun W => run_add W (ncam true s) nentry (by simp [nentry]; omega)
  go_enter Try.func26, Try.ntmps26
  go_wp2_with fail
  refine Calls.mono Q.out ?_
  rintro e w1 ⟨rfl, hb⟩
  go_wp2
  go_ret
  exact ⟨rfl, hb⟩

end Go.Proofs.Ytmpdgdjjjgnpiaa
