/- Put together by a program out of these texts of mine: STk4, LRef3, LJoin, LCore, LKind, LRef4, LTok. -/
import Derived.Lib.MinMax
import Derived.Laws.StructEq
import Derived.Deep.QuietTactic
import Derived.BigQuiet
import Derived.Test.YtlekfcehmlepkaaGreatDoorBunL1
import Derived.Test.YtlekfcehmlepkaaGreatDoorBunL4
import Derived.Test.YtlekfcehmlepkaaGreatDoorBunL29

namespace Go.Proofs.YtlekfcehmlepkaaGreatDoor
open Go.RowKit
set_option linter.unusedVariables false
set_option linter.unusedSimpArgs false

set_option maxRecDepth 100000 in
def RU (g rb nb : Nat) (a : Option Addr) (len cap : Nat) (us : Nat → Value) : Act := { tmps := List.toArray (.slice a len cap :: us 1 :: .pointer (some ⟨rb, 0, none⟩) :: .int .i64 0 :: .int .i64 0 :: .pointer (some ⟨g, 0, none⟩) :: .pointer (some ⟨nb, 0, none⟩) :: us 7 :: us 8 :: us 9 :: us 10 :: us 11 :: us 12 :: us 13 :: us 14 :: us 15 :: us 16 :: us 17 :: us 18 :: us 19 :: us 20 :: us 21 :: us 22 :: us 23 :: us 24 :: us 25 :: us 26 :: us 27 :: us 28 :: us 29 :: us 30 :: us 31 :: us 32 :: us 33 :: us 34 :: us 35 :: us 36 :: us 37 :: us 38 :: us 39 :: us 40 :: us 41 :: us 42 :: us 43 :: us 44 :: us 45 :: us 46 :: us 47 :: us 48 :: us 49 :: us 50 :: us 51 :: us 52 :: us 53 :: us 54 :: us 55 :: us 56 :: us 57 :: us 58 :: us 59 :: us 60 :: us 61 :: us 62 :: us 63 :: us 64 :: us 65 :: us 66 :: us 67 :: us 68 :: us 69 :: us 70 :: us 71 :: us 72 :: us 73 :: us 74 :: us 75 :: us 76 :: us 77 :: us 78 :: us 79 :: us 80 :: us 81 :: us 82 :: us 83 :: us 84 :: us 85 :: us 86 :: us 87 :: us 88 :: us 89 :: us 90 :: us 91 :: us 92 :: us 93 :: us 94 :: us 95 :: us 96 :: us 97 :: us 98 :: us 99 :: us 100 :: us 101 :: us 102 :: []), defers := [] }

set_option maxRecDepth 100000 in
set_option maxHeartbeats 4000000 in
theorem tkp_no0 {u w : World} {g : Nat} {a : Option Addr} {len cap : Nat} {ts : List Tq} {W : World} {rb nb : Nat} {np : Int} {s0 : Gs} (HSim : Hid (Sim ts)) (hs0 : s0 = (⟨0, 0, 0, 0, 1⟩ : Gs)) (us : Nat → Value) (S0 : Hid (Sx w g a len cap ts w.heap.size (.slice none 0 0) [] W (s0) [(nb, #[.int .i64 1, .string { data := #[] }, .int .i64 0, .int .i64 0, .int .i64 0, .int .i64 np, .string { data := #[] }, .slice none 0 0])] (.slice none 0 0) [] [])) (HRb : Hid (w.heap[rb]? = some (.cells #[.int .i64 0, .string { data := #[] }, .int .i64 0, .int .i64 0, .int .i64 0, .int .i64 0, .string { data := #[] }, .slice none 0 0] 28 (0, 0)))) (hrb : rb < w.heap.size) (hrg : rb ≠ g) (hbe : u.heap.size ≤ rb ∧ u.heap.size ≤ g ∧ Below u.heap.size u w) (hLb : len ≤ 1000000) (Hnp : Hid (i64b np)) (hd : gisw ts [115, 121, 110, 116, 97, 120] s0 = false) {M : Pn × Int × Int} (HMM : Hid (M = if (gfilel ts (2 * ts.length + 2) (s0) 0 []).2.e ≠ 0 then (pnil, (gfilel ts (2 * ts.length + 2) (s0) 0 []).2.pa, (gfilel ts (2 * ts.length + 2) (s0) 0 []).2.e) else if 20000 < (gfilel ts (2 * ts.length + 2) (s0) 0 []).2.n then (pnil, 0, 2) else (.mk 1 ([]) 0 0 0 np [] (gfilel ts (2 * ts.length + 2) (s0) 0 []).1, 0, 0))) :
    tkX.wp Tryz.prog (bodyPost Tryz.prog Tryz.f23 (TokRet u M)) (RU g rb nb a len cap us) W := by
  have hL : ts.length = len := S0.out.gm.tok.1
  have HE : Hid (Ends ts) := by show (ts.getD (ts.length - 1) Tq.none).kind = 0; rw [hL]; exact S0.out.gm.last
  have hq0 : nb < W.heap.size := S0.out.ltAt 0 nb rfl
  have hg := Nat.lt_of_lt_of_le S0.out.gb S0.out.bw
  have hqg : nb ≠ g := by have := S0.out.geAt 0 nb rfl; omega
  have Hop0 : Hid (s0.op = 0) := by show _ = _; rw [hs0]
  have HLb : Hid (len ≤ 1000000) := hLb
  have HBe : Hid _ := hbe
  clear hs0 hLb hbe
  have Q0 : Hid _ := rgword_any (show Hid (Gm W g a len cap ts (s0)) from S0.out.gm) [115, 121, 110, 116, 97, 120] (show byts _ by unfold byts; decide)
  rw [hd, gword_off _ _ _ hd] at Q0
  unfold RU
  conv => arg 2; whnf
  go_wp2_with fail
  refine Calls.mono Q0.out ?_
  rintro e w1 ⟨rfl, hgw1, Hw1⟩
  have S1 : Hid (Sx w g a len cap ts w.heap.size (.slice none 0 0) [] w1 (s0) [(nb, #[.int .i64 1, .string { data := #[] }, .int .i64 0, .int .i64 0, .int .i64 0, .int .i64 np, .string { data := #[] }, .slice none 0 0])] (.slice none 0 0) [] []) := S0.out.call hgw1 Hw1
  clear hgw1 Hw1 Q0
  go_wp2
  rename_i K hK
  refine wp_asT (g := g) (rb := rb) (nb := nb) (a := a) (len := len) (cap := cap) (pk := 0) _ rfl rfl ?_
  intro us2
  exact tk_rest0 (u := u) (w := w) (X := { data := #[] }) (tx := []) HSim S1.out HRb.out hrb hrg HBe.out HE.out HLb.out Hnp.out rfl ⟨fun c hc => by simp at hc, by simp⟩ Hop0.out us2 HMM.out _ (fun a9 W9 h9 => by simp only [Exit.inBlock, if_true, Exit.then]; exact hK _ _ h9)

theorem lown_len (s : List Int) (frm to : Nat) (t : List Int) (h : lown s frm to = some t) : t.length + frm ≤ to := by
  unfold lown at h
  simp only at h
  have := lrun_ge lblank s to (to - frm) frm
  by_cases k : lrun lblank s to (to - frm) frm + 2 ≤ to ∧ s.getD (lrun lblank s to (to - frm) frm) 0 = 47 ∧ s.getD (lrun lblank s to (to - frm) frm + 1) 0 = 47
  · rw [if_pos k] at h
    simp only [Option.some.injEq] at h
    rw [← h]
    simp only [List.length_drop, List.length_take]
    omega
  · rw [if_neg k] at h; simp at h

set_option maxHeartbeats 2000000 in
theorem rdoc_any {w : World} {a : Option Addr} {len cap : Nat} {ms : List Nat} (s : List Int) (k : Nat) (hI : Hid (Is w a len cap ms)) (hz : Hid (∀ i, 0 ≤ s.getD i 0 ∧ s.getD i 0 ≤ 255)) (hlen : (s.length : Int) ≤ 100000) (hk : k ≤ s.length) (hl6 : len ≤ 1000000) (HM : Hid (∀ i, ms.getD i 0 ≤ 1000000)) :
    Calls Tryz.prog 30 #[.string (strOfNums s), .int .i64 (k : Int), .slice a len cap] w fun e w' => e = .returned (.string (strOfNums (ldoc s k ms))) ∧ w = w' := by
  have hsz := strOfNums_size s
  have HA : Hid (∀ k, (h : k < s.length) → (((strOfNums s)[k]'(by rw [hsz]; exact h)).toNat : Int) = s.getD k 0) := fun k h => str_at s hz.out k _
  have HLN : Hid (∀ j W, j ≤ s.length → Calls Tryz.prog 54 #[.string (strOfNums s), .int .i64 (j : Int)] W fun e w' => e = .returned (.int .i64 ((lnAt s j : Nat) : Int)) ∧ W = w') := fun j W hj => rlineAt_any s j W hz (by omega) hj
  have HOW : Hid (∀ f t W, f ≤ t → t ≤ s.length → Calls Tryz.prog 55 #[.string (strOfNums s), .int .i64 (f : Int), .int .i64 (t : Int)] W fun e w' => e = .returned (.tuple #[.string (strOfNums ((lown s f t).getD [])), .bool (lown s f t).isSome]) ∧ W = w') := fun f t W h1 h2 => rown_any s f t W hz (by omega) h1 h2
  have HIN : Hid (∀ j, j ≤ s.length → Calls Tryz.prog 56 #[.slice a len cap, .int .i64 (j : Int)] w fun e w' => e = .returned (.bool (linside ms j)) ∧ w = w') := fun j hj => rinside_any hI j hl6 (by omega) HM
  obtain ⟨R, hR⟩ : ∃ R, R = ldoc s k ms := ⟨_, rfl⟩
  rw [← hR]
  have HR : Hid (R = ldoc s k ms) := hR
  clear hR
  have hfk := lnAt_le s k
  obtain ⟨F, hF⟩ : ∃ F, F = lnAt s k := ⟨_, rfl⟩
  have q := fun W => HLN.out k W hk
  rw [← hF] at hfk q
  have HF : Hid (F = lnAt s k) := hF
  have Q : Hid _ := q
  clear hF q
  generalize strOfNums s = S at hsz HA HLN HOW Q
  go_enter Tryz.func30, Tryz.ntmps30
  go_wp2_with fail
  refine Calls.mono (Q.out _) ?_
  rintro e w1 ⟨rfl, rfl⟩
  go_wp2
  go_loopw [8] (fun v wr => ∃ j : Nat, v = .int .i64 (j : Int) ∧ F ≤ j ∧ j ≤ k ∧ Hid (lrun lblank s k (k - F) F = lrun lblank s k (k - j) j) ∧ w = wr) (fun v _ => k - (intOf v).toNat)
  case atStart => exact ⟨F, rfl, by omega, hfk, rfl, rfl⟩
  case round =>
    obtain ⟨j, rfl, hFj, hjk, HQ, rfl⟩ := hrel
    by_cases hj : j < k
    · have hat := HA.out j (by omega)
      obtain ⟨c, hc⟩ : ∃ c, c = s.getD j 0 := ⟨_, rfl⟩
      have hcb := hz.out j
      have HQ' := HQ.out
      obtain ⟨m, hm⟩ : ∃ m, k - j = m + 1 := ⟨k - j - 1, by omega⟩
      rw [hm, lrun, show m = k - (j + 1) by omega] at HQ'
      rw [← hc] at hat hcb HQ'
      obtain ⟨c0, c255⟩ := hcb
      clear hc hm HQ
      have q := fun W => rblank_any c W c0 c255
      by_cases hbl : lblank c = true
      · rw [if_pos ⟨hj, hbl⟩] at HQ'
        rw [hbl] at q
        have HE : Hid _ := HQ'
        have QB : Hid _ := q
        clear HQ' q hbl
        go_wp2_with fail
        refine Calls.mono (QB.out _) ?_
        rintro e w1 ⟨rfl, rfl⟩
        go_wp2
        go_roundw
        case rel => first | exact ⟨j + 1, by go_num, by omega, by omega, HE, by first | rfl | trivial⟩ | ((repeat apply Exists.intro); exact ⟨⟨j + 1, by go_num, by omega, by omega, HE, by first | rfl | trivial⟩, rfl⟩)
        case measure => simp [intOf]; omega
      · have hbl' : lblank c = false := by simpa using hbl
        rw [if_neg (fun h => hbl h.2)] at HQ'
        have E : Hid (R = []) := by
          show _ = _
          rw [HR.out, ldoc, ← HF.out, HQ', if_neg (by omega)]
        rw [hbl'] at q
        have QB : Hid _ := q
        clear HQ' q hbl hbl'
        go_wp2_with fail
        refine Calls.mono (QB.out _) ?_
        rintro e w1 ⟨rfl, rfl⟩
        go_wp2
        go_ret
        exact ⟨by rw [E.out]; rfl, rfl⟩
    · obtain rfl : j = k := by omega
      have HE : Hid (R = ldl s ms F F []) := by
        show _ = _
        have := HQ.out
        rw [Nat.sub_self, lrun] at this
        rw [HR.out, ldoc, ← HF.out, this, if_pos rfl]
      clear HQ HR
      go_wp2
      go_loopw [7, 9] (fun v o wr => ∃ (n f : Nat) (out : List Int), v = .int .i64 (n : Int) ∧ o = .string (strOfNums out) ∧ n ≤ f ∧ n ≤ j ∧ out.length + n ≤ s.length ∧ Hid (R = ldl s ms f n out) ∧ w = wr) (fun v _ _ => (intOf v).toNat)
      case atStart => exact ⟨F, F, [], rfl, rfl, by omega, by omega, by simp; omega, HE, rfl⟩
      case round =>
        obtain ⟨n, f, out, rfl, rfl, hnf, hnj, hol, HQ, rfl⟩ := hrel
        clear HE
        by_cases hn : n = 0
        · subst hn
          have E : Hid (R = out) := by
            show _ = _
            rw [HQ.out]
            cases f with
            | zero => rfl
            | succ f => rw [ldl, if_pos rfl]
          clear HQ
          rw [show (((0 : Nat)) : Int) = 0 from rfl]
          go_wp2
          go_ret
          exact ⟨by rw [E.out]; rfl, rfl⟩
        · obtain ⟨m, rfl⟩ : ∃ m, n = m + 1 := ⟨n - 1, by omega⟩
          obtain ⟨g, rfl⟩ : ∃ g, f = g + 1 := ⟨f - 1, by omega⟩
          have HQ' := HQ.out
          rw [ldl, if_neg (by omega), show m + 1 - 1 = m by omega] at HQ'
          have hpm := lnAt_le s m
          obtain ⟨p, hp⟩ : ∃ p, p = lnAt s m := ⟨_, rfl⟩
          have q1 := fun W => HLN.out m W (by omega)
          have q2 := fun W => HOW.out p m W (by omega) (by omega)
          have q3 := HIN.out p (by omega)
          have q4 := HIN.out m (by omega)
          rw [← hp] at hpm q1 HQ'
          clear hp HQ
          have Q1 : Hid _ := q1
          clear q1
          rw [show (((m + 1 : Nat)) : Int) = (m : Int) + 1 by omega]
          have hm0 : (0 : Int) < (m : Int) + 1 := by omega
          cases ho : lown s p m with
          | none =>
            rw [ho] at q2 HQ'
            have E : Hid (R = out) := HQ'
            have Q2 : Hid _ := q2
            clear q2 q3 q4 HQ' ho
            go_wp2_with fail
            refine Calls.mono (Q1.out _) ?_
            rintro e w1 ⟨rfl, rfl⟩
            go_wp2_with fail
            refine Calls.mono (Q2.out _) ?_
            rintro e w1 ⟨rfl, rfl⟩
            go_wp2
            go_ret
            exact ⟨by rw [E.out]; rfl, rfl⟩
          | some t =>
            have htl := lown_len s p m t ho
            rw [ho] at q2 HQ'
            have Q2 : Hid _ := q2
            clear q2
            simp only at HQ'
            cases h3 : linside ms p with
            | true =>
              rw [h3] at q3 HQ'
              have E : Hid (R = out) := by show _ = _; simpa using HQ'
              have Q3 : Hid _ := q3
              clear q3 q4 HQ' ho h3
              go_wp2_with fail
              refine Calls.mono (Q1.out _) ?_
              rintro e w1 ⟨rfl, rfl⟩
              go_wp2_with fail
              refine Calls.mono (Q2.out _) ?_
              rintro e w1 ⟨rfl, rfl⟩
              go_wp2_with fail
              refine Calls.mono Q3.out ?_
              rintro e w1 ⟨rfl, rfl⟩
              go_wp2
              go_ret
              exact ⟨by rw [E.out]; rfl, rfl⟩
            | false =>
              rw [h3] at q3 HQ'
              have Q3 : Hid _ := q3
              cases h4 : linside ms m with
              | true =>
                rw [h4] at q4 HQ'
                have E : Hid (R = out) := by show _ = _; simpa using HQ'
                have Q4 : Hid _ := q4
                clear q3 q4 HQ' ho h3 h4
                go_wp2_with fail
                refine Calls.mono (Q1.out _) ?_
                rintro e w1 ⟨rfl, rfl⟩
                go_wp2_with fail
                refine Calls.mono (Q2.out _) ?_
                rintro e w1 ⟨rfl, rfl⟩
                go_wp2_with fail
                refine Calls.mono Q3.out ?_
                rintro e w1 ⟨rfl, rfl⟩
                go_wp2_with fail
                refine Calls.mono Q4.out ?_
                rintro e w1 ⟨rfl, rfl⟩
                go_wp2
                go_ret
                exact ⟨by rw [E.out]; rfl, rfl⟩
              | false =>
                rw [h4] at q4 HQ'
                have E : Hid (R = ldl s ms g p (t ++ [10] ++ out)) := by show _ = _; simpa using HQ'
                have Q4 : Hid _ := q4
                clear q3 q4 HQ' ho h3 h4
                have a1 : ∀ W, (Op.stringOp .add (strOfNums t) { data := #[10] }).run Tryz.prog W = .ok (.string (strOfNums (t ++ [10]))) W := fun W => run_add W t [10] (by simp only [List.length_cons, List.length_nil]; omega)
                have a2 : ∀ W, (Op.stringOp .add (strOfNums (t ++ [10])) (strOfNums out)).run Tryz.prog W = .ok (.string (strOfNums (t ++ [10] ++ out))) W := fun W => run_add W (t ++ [10]) out (by simp only [List.length_append, List.length_cons, List.length_nil]; omega)
                go_wp2_with fail
                refine Calls.mono (Q1.out _) ?_
                rintro e w1 ⟨rfl, rfl⟩
                go_wp2_with fail
                refine Calls.mono (Q2.out _) ?_
                rintro e w1 ⟨rfl, rfl⟩
                rw [Option.getD_some]
                go_wp2_with fail
                refine Calls.mono Q3.out ?_
                rintro e w1 ⟨rfl, rfl⟩
                go_wp2_with fail
                refine Calls.mono Q4.out ?_
                rintro e w1 ⟨rfl, rfl⟩
                go_wp2
                go_roundw
                case rel => exact ⟨p, g, t ++ [10] ++ out, rfl, by simp, by omega, by omega, by simp only [List.length_append, List.length_cons, List.length_nil]; omega, E, by first | rfl | trivial⟩
                case measure => simp [intOf]; omega

end Go.Proofs.YtlekfcehmlepkaaGreatDoor

namespace Go.Proofs.YtlekfcehmlepkaaGreatDoor
set_option linter.unusedSimpArgs false

def lclo : List Int → Option (List Int)
  | [] => none
  | c :: r => match r with
    | [] => none
    | d :: q => if c = 42 ∧ d = 47 then some q else lclo r

abbrev Co := Int × List Int × Int

def lco : Nat → List Int → Option (List Co)
  | 0, _ => none
  | f + 1, s => match s.dropWhile lblank with
    | [] => some []
    | c :: r =>
      if c = 47 ∧ r.head? = some 47 then lco f (r.dropWhile leol)
      else if c = 47 ∧ r.head? = some 42 then (lclo (r.drop 1)).bind (lco f)
      else if lletter c = true then
        (if lnumb c = true then (if (qnum ((c :: r).takeWhile lletter)).2 = true then (lco f ((c :: r).dropWhile lletter)).map ((2, [], (qnum ((c :: r).takeWhile lletter)).1) :: ·) else none)
         else (lco f ((c :: r).dropWhile lletter)).map ((1, (c :: r).takeWhile lletter, 0) :: ·))
      else if c = 34 ∨ c = 39 then
        (if (qtake (c :: r)).2.2 = 0 then (lco f ((c :: r).drop (qtake (c :: r)).2.1.toNat)).map ((3, (qtake (c :: r)).1, 0) :: ·) else none)
      else if lsign c = true then (lco f r).map ((4, [c], 0) :: ·)
      else none

theorem qrn_app (base : Int) : ∀ (f : Nat) (s y : List Int) (n : Int), (qrn base f s n).2 = f ∨ (qrn base f s n).2 < s.length → qrn base f (s ++ y) n = qrn base f s n
  | 0, s, y, n, _ => rfl
  | f + 1, [], y, n, h => by simp [qrn] at h
  | f + 1, c :: r, y, n, h => by
    rw [List.cons_append, qrn, qrn]
    rw [qrn] at h
    by_cases k : dgt c < base
    · rw [if_pos k] at h ⊢
      rw [if_pos k]
      rw [qrn_app base f r y _ (by simp only [List.length_cons] at h; omega)]
    · rw [if_neg k, if_neg k]

theorem qesc_app (s y : List Int) (h0 : (qesc s).2 ≠ 0) (h1 : (qesc s).2 < s.length) : qesc (s ++ y) = qesc s := by
  cases s with
  | nil => simp at h1
  | cons c r =>
    revert h0 h1
    rw [List.cons_append, qesc, qesc]
    by_cases k0 : c = 97
    · rw [if_pos k0, if_pos k0]; intros; rfl
    rw [if_neg k0, if_neg k0]
    by_cases k1 : c = 98
    · rw [if_pos k1, if_pos k1]; intros; rfl
    rw [if_neg k1, if_neg k1]
    by_cases k2 : c = 102
    · rw [if_pos k2, if_pos k2]; intros; rfl
    rw [if_neg k2, if_neg k2]
    by_cases k3 : c = 110
    · rw [if_pos k3, if_pos k3]; intros; rfl
    rw [if_neg k3, if_neg k3]
    by_cases k4 : c = 114
    · rw [if_pos k4, if_pos k4]; intros; rfl
    rw [if_neg k4, if_neg k4]
    by_cases k5 : c = 116
    · rw [if_pos k5, if_pos k5]; intros; rfl
    rw [if_neg k5, if_neg k5]
    by_cases k6 : c = 118
    · rw [if_pos k6, if_pos k6]; intros; rfl
    rw [if_neg k6, if_neg k6]
    by_cases k7 : c = 92 ∨ c = 39 ∨ c = 34 ∨ c = 63
    · rw [if_pos k7, if_pos k7]; intros; rfl
    rw [if_neg k7, if_neg k7]
    by_cases m0 : c = 120 ∨ c = 88
    · rw [if_pos m0, if_pos m0]
      intro h0 h1
      by_cases j : 0 < (qrn 16 2 r 0).2
      · rw [if_pos j] at h1
        rw [qrn_app 16 2 r y 0 (by simp only [List.length_cons] at h1; omega)]
      · rw [if_neg j] at h0; exact absurd rfl h0
    rw [if_neg m0, if_neg m0]
    by_cases m1 : c = 117
    · rw [if_pos m1, if_pos m1]
      intro h0 h1
      by_cases j : (qrn 16 4 r 0).2 = 4 ∧ isCh (qrn 16 4 r 0).1 = true
      · rw [qrn_app 16 4 r y 0 (.inl j.1)]
      · rw [if_neg j] at h0; exact absurd rfl h0
    rw [if_neg m1, if_neg m1]
    by_cases m2 : c = 85
    · rw [if_pos m2, if_pos m2]
      intro h0 h1
      by_cases j : (qrn 16 8 r 0).2 = 8 ∧ isCh (qrn 16 8 r 0).1 = true
      · rw [qrn_app 16 8 r y 0 (.inl j.1)]
      · rw [if_neg j] at h0; exact absurd rfl h0
    rw [if_neg m2, if_neg m2]
    intro h0 h1
    by_cases j : 0 < (qrn 8 3 (c :: r) 0).2 ∧ (qrn 8 3 (c :: r) 0).1 < 256
    · rw [if_pos j] at h1
      have := qrn_app 8 3 (c :: r) y 0 (.inr h1)
      rw [List.cons_append] at this
      rw [this]
    · rw [if_neg j] at h0; exact absurd rfl h0

theorem qtk_app (q : Int) : ∀ (f g : Nat) (s y : List Int) (i : Int) (o : List Int), s.length ≤ f → (s ++ y).length ≤ g → (qtk q f s i o).2.2 = 0 →
    qtk q g (s ++ y) i o = qtk q f s i o ∧ i + 1 ≤ (qtk q f s i o).2.1 ∧ (qtk q f s i o).2.1 ≤ i + s.length
  | 0, g, s, y, i, o, h1, _, h => by simp [qtk] at h
  | f + 1, g, [], y, i, o, h1, _, h => by simp [qtk] at h
  | f + 1, 0, c :: r, y, i, o, h1, h2, h => by simp at h2
  | f + 1, g + 1, c :: r, y, i, o, h1, h2, h => by
    simp only [List.cons_append, List.length_cons] at h1 h2
    rw [List.cons_append, qtk, qtk]
    rw [qtk] at h
    by_cases k1 : c = q
    · simp only [if_pos k1, List.length_cons, true_and]
      omega
    simp only [if_neg k1] at h ⊢
    by_cases k2 : c = 0 ∨ c = 10
    · simp [if_pos k2] at h
    simp only [if_neg k2] at h ⊢
    by_cases k3 : c = 92
    · simp only [if_pos k3] at h ⊢
      by_cases k4 : (qesc r).2 = 0
      · simp [if_pos k4] at h
      · simp only [if_neg k4] at h
        have hle := (qesc_le r).1
        by_cases k5 : (qesc r).2 < r.length
        · rw [qesc_app r y k4 k5]
          simp only [if_neg k4]
          have e : (r ++ y).drop (qesc r).2 = r.drop (qesc r).2 ++ y := by rw [List.drop_append_of_le_length (by omega)]
          rw [e]
          have := qtk_app q f g (r.drop (qesc r).2) y (i + 1 + (qesc r).2) (o ++ (qesc r).1) (by simp only [List.length_drop]; omega) (by simp only [List.length_append, List.length_drop] at h2 ⊢; omega) h
          refine ⟨this.1, ?_⟩
          have h3 := this.2
          simp only [List.length_drop, List.length_cons] at h3 ⊢
          omega
        · rw [List.drop_eq_nil_of_le (by omega)] at h
          cases f <;> simp [qtk] at h
    · simp only [if_neg k3] at h ⊢
      have := qtk_app q f g r y (i + 1) (o ++ [c]) (by omega) (by omega) h
      refine ⟨this.1, ?_⟩
      have h3 := this.2
      simp only [List.length_cons]
      omega

theorem qtake_app (s y : List Int) (h : (qtake s).2.2 = 0) : qtake (s ++ y) = qtake s ∧ 2 ≤ (qtake s).2.1 ∧ (qtake s).2.1 ≤ s.length := by
  cases s with
  | nil => simp [qtake] at h
  | cons c r =>
    rw [List.cons_append, qtake, qtake]
    rw [qtake] at h
    by_cases k : c = 34 ∨ c = 39
    · simp only [if_pos k] at h ⊢
      have := qtk_app c r.length (r ++ y).length r y 1 [] (Nat.le_refl _) (Nat.le_refl _) h
      refine ⟨this.1, ?_⟩
      have h3 := this.2
      simp only [List.length_cons]
      omega
    · simp [if_neg k] at h

end Go.Proofs.YtlekfcehmlepkaaGreatDoor

namespace Go.Proofs.YtlekfcehmlepkaaGreatDoor
set_option linter.unusedSimpArgs false

theorem drop_cons {l : List Int} {k : Nat} (h : k < l.length) : l.drop k = l.getD k 0 :: l.drop (k + 1) := by
  rw [List.drop_eq_getElem_cons h]
  simp [List.getD, List.getElem?_eq_getElem h]

theorem lrun_drop (p : Int → Bool) (s : List Int) : ∀ (f i : Nat), i ≤ s.length → s.length ≤ i + f → s.drop (lrun p s s.length f i) = (s.drop i).dropWhile p
  | 0, i, h1, h2 => by
    unfold lrun
    rw [List.drop_eq_nil_of_le (by omega)]; rfl
  | f + 1, i, h1, h2 => by
    unfold lrun
    by_cases hi : i < s.length
    · rw [drop_cons hi]
      by_cases hp : p (s.getD i 0) = true
      · rw [if_pos ⟨hi, hp⟩, lrun_drop p s f (i + 1) (by omega) (by omega), List.dropWhile_cons_of_pos hp]
      · rw [if_neg (fun h => hp h.2), List.dropWhile_cons_of_neg hp, drop_cons hi]
    · rw [if_neg (fun h => hi h.1), List.drop_eq_nil_of_le (by omega)]; rfl

theorem lrun_take (p : Int → Bool) (s : List Int) : ∀ (f i : Nat), i ≤ s.length → s.length ≤ i + f → lpc s i (lrun p s s.length f i) = (s.drop i).takeWhile p
  | 0, i, h1, h2 => by
    unfold lrun lpc
    rw [List.drop_eq_nil_of_le (by simp; omega), List.drop_eq_nil_of_le (by omega)]; rfl
  | f + 1, i, h1, h2 => by
    unfold lrun
    by_cases hi : i < s.length
    · rw [drop_cons hi]
      by_cases hp : p (s.getD i 0) = true
      · rw [if_pos ⟨hi, hp⟩, List.takeWhile_cons_of_pos hp, ← lrun_take p s f (i + 1) (by omega) (by omega)]
        have hg := lrun_ge p s s.length f (i + 1)
        have hl := lrun_le p s s.length f (i + 1) (by omega)
        unfold lpc
        rw [drop_cons (by simp; omega)]
        congr 1
        simp [List.getD, show i < lrun p s s.length f (i + 1) by omega]
      · rw [if_neg (fun h => hp h.2), List.takeWhile_cons_of_neg hp]
        unfold lpc
        rw [List.drop_eq_nil_of_le (by simp; omega)]
    · rw [if_neg (fun h => hi h.1)]
      unfold lpc
      rw [List.drop_eq_nil_of_le (by simp; omega), List.drop_eq_nil_of_le (by omega)]; rfl

theorem lcl_drop (s : List Int) : ∀ (f k : Nat), s.length ≤ k + f → lclo (s.drop k) = if lcl s f k + 1 < s.length then some (s.drop (lcl s f k + 2)) else none
  | 0, k, h => by
    unfold lcl
    rw [if_neg (by omega), List.drop_eq_nil_of_le (by omega)]; rfl
  | f + 1, k, h => by
    by_cases h1 : k + 1 < s.length
    · rw [drop_cons (by omega), drop_cons h1]
      by_cases h2 : s.getD k 0 = 42 ∧ s.getD (k + 1) 0 = 47
      · have e : lcl s (f + 1) k = k := by rw [lcl, if_neg (fun h => h.2 h2)]
        rw [e, if_pos h1, lclo]
        simp only [if_pos h2]
      · have e : lcl s (f + 1) k = lcl s f (k + 1) := by rw [lcl, if_pos ⟨h1, h2⟩]
        rw [e, lclo]
        simp only [if_neg h2]
        rw [← drop_cons h1, lcl_drop s f (k + 1) (by omega)]
    · have e : lcl s (f + 1) k = k := by rw [lcl, if_neg (fun h => h1 h.1)]
      rw [e, if_neg h1]
      by_cases h3 : k < s.length
      · rw [drop_cons h3, List.drop_eq_nil_of_le (by omega)]; rfl
      · rw [List.drop_eq_nil_of_le (by omega)]; rfl

def Tk.co (t : Tk) : Co := (t.kind, t.text, t.n)

theorem head_drop (s : List Int) (i : Nat) (c : Int) : (s.drop (i + 1)).head? = some c ↔ i + 1 < s.length ∧ s.getD (i + 1) 0 = c := by
  rw [List.head?_drop]
  by_cases h : i + 1 < s.length
  · simp [List.getD, h]
  · simp [List.getD, h, List.getElem?_eq_none (show s.length ≤ i + 1 by omega)]

theorem lsc_core (s : List Int) : ∀ (f i0 : Nat) (out : List Tk) (marks : List Nat), i0 ≤ s.length → s.length < i0 + f →
    ((lsc s f i0 out marks).2.2 = 0 → ∃ u, lco f (s.drop i0) = some u ∧ (lsc s f i0 out marks).1.map Tk.co = out.map Tk.co ++ u ++ [(0, [], 0)]) ∧
    ((lsc s f i0 out marks).2.2 ≠ 0 → lco f (s.drop i0) = none ∧ (lsc s f i0 out marks).1 = [])
  | 0, i0, out, marks, h1, h2 => by omega
  | f + 1, i0, out, marks, h1, h2 => by
    have hd := lrun_drop lblank s (s.length - i0) i0 h1 (by omega)
    have hge := lrun_ge lblank s s.length (s.length - i0) i0
    have hle := lrun_le lblank s s.length (s.length - i0) i0 h1
    rw [lsc, lco, ← hd]
    generalize lrun lblank s s.length (s.length - i0) i0 = i at hge hle
    clear hd
    simp only
    by_cases k0 : i = s.length
    · simp only [if_pos k0]
      refine ⟨fun _ => ?_, fun h => absurd rfl h⟩
      rw [k0, List.drop_eq_nil_of_le (Nat.le_refl _)]
      exact ⟨[], rfl, by simp [Tk.co]⟩
    simp only [if_neg k0]
    have hi : i < s.length := by omega
    rw [drop_cons hi]
    simp only
    have c1 : (s.getD i 0 = 47 ∧ (s.drop (i + 1)).head? = some 47) ↔ (i + 1 < s.length ∧ s.getD i 0 = 47 ∧ s.getD (i + 1) 0 = 47) := by rw [head_drop]; exact ⟨fun h => ⟨h.2.1, h.1, h.2.2⟩, fun h => ⟨h.2.1, h.1, h.2.2⟩⟩
    have c2 : (s.getD i 0 = 47 ∧ (s.drop (i + 1)).head? = some 42) ↔ (i + 1 < s.length ∧ s.getD i 0 = 47 ∧ s.getD (i + 1) 0 = 42) := by rw [head_drop]; exact ⟨fun h => ⟨h.2.1, h.1, h.2.2⟩, fun h => ⟨h.2.1, h.1, h.2.2⟩⟩
    simp only [c1, c2]
    by_cases k1 : i + 1 < s.length ∧ s.getD i 0 = 47 ∧ s.getD (i + 1) 0 = 47
    · simp only [if_pos k1]
      have e := lrun_drop leol s (s.length - i) i (by omega) (by omega)
      rw [drop_cons hi, List.dropWhile_cons_of_pos (by rw [k1.2.1]; decide)] at e
      have g1 := lrun_ge leol s s.length (s.length - i) i
      have g2 := lrun_le leol s s.length (s.length - i) i (by omega)
      have g3 : i + 1 ≤ lrun leol s s.length (s.length - i) i := by
        obtain ⟨m, hm⟩ : ∃ m, s.length - i = m + 1 := ⟨s.length - i - 1, by omega⟩
        rw [hm, lrun, if_pos ⟨hi, by rw [k1.2.1]; decide⟩]
        exact lrun_ge _ _ _ _ _
      rw [← e]
      exact lsc_core s f _ out marks g2 (by omega)
    simp only [if_neg k1]
    by_cases k2 : i + 1 < s.length ∧ s.getD i 0 = 47 ∧ s.getD (i + 1) 0 = 42
    · simp only [if_pos k2, List.drop_drop]
      rw [show i + 1 + 1 = i + 2 by omega, lcl_drop s (s.length - (i + 2)) (i + 2) (by omega)]
      have g := lcl_ge s (s.length - (i + 2)) (i + 2)
      generalize lcl s (s.length - (i + 2)) (i + 2) = k at g
      by_cases k3 : k + 1 < s.length
      · simp only [if_pos k3]
        exact lsc_core s f (k + 2) out _ (by omega) (by omega)
      · simp only [if_neg k3]
        exact ⟨fun h => absurd h (by decide), fun _ => by simp⟩
    simp only [if_neg k2]
    rw [← drop_cons hi]
    unfold ltok
    have et := lrun_take lletter s (s.length - i) i (by omega) (by omega)
    have ed := lrun_drop lletter s (s.length - i) i (by omega) (by omega)
    by_cases k3 : lletter (s.getD i 0) = true
    · obtain ⟨m, hm⟩ : ∃ m, s.length - i = m + 1 := ⟨s.length - i - 1, by omega⟩
      rw [hm, lrun, if_pos ⟨hi, k3⟩, show m = s.length - (i + 1) by omega] at et ed
      have g1 := lrun_ge lletter s s.length (s.length - (i + 1)) (i + 1)
      have g2 := lrun_le lletter s s.length (s.length - (i + 1)) (i + 1) (by omega)
      generalize lrun lletter s s.length (s.length - (i + 1)) (i + 1) = k at et ed g1 g2
      simp only [if_pos k3]
      rw [← et, ← ed]
      by_cases k4 : lnumb (s.getD i 0) = true
      · simp only [if_pos k4]
        by_cases k5 : (qnum (lpc s i k)).2 = true
        · simp only [if_pos k5]
          have ih := lsc_core s f k (out ++ [⟨2, [], (qnum (lpc s i k)).1, i, ldoc s i marks⟩]) marks g2 (by omega)
          refine ⟨fun h => ?_, fun h => ?_⟩
          · obtain ⟨u, hu, hx⟩ := ih.1 h
            exact ⟨_, by rw [hu]; rfl, by rw [hx]; simp [Tk.co]⟩
          · rw [(ih.2 h).1]; exact ⟨rfl, (ih.2 h).2⟩
        · simp only [if_neg k5]
          exact ⟨fun h => absurd h (by decide), fun _ => by simp⟩
      · simp only [if_neg k4]
        have ih := lsc_core s f k (out ++ [⟨1, lpc s i k, 0, i, ldoc s i marks⟩]) marks g2 (by omega)
        refine ⟨fun h => ?_, fun h => ?_⟩
        · obtain ⟨u, hu, hx⟩ := ih.1 h
          exact ⟨_, by rw [hu]; rfl, by rw [hx]; simp [Tk.co]⟩
        · rw [(ih.2 h).1]; exact ⟨rfl, (ih.2 h).2⟩
    simp only [if_neg k3]
    by_cases k6 : s.getD i 0 = 34 ∨ s.getD i 0 = 39
    · simp only [if_pos k6]
      by_cases k7 : (qtake (s.drop i)).2.2 = 0
      · simp only [if_pos k7]
        have ha := (qtake_app (s.drop i) [] k7).2
        rw [List.length_drop] at ha
        generalize hn : (qtake (s.drop i)).2.1.toNat = n
        have ih := lsc_core s f (i + n) (out ++ [⟨3, (qtake (s.drop i)).1, 0, i, ldoc s i marks⟩]) marks (by omega) (by omega)
        rw [List.drop_drop]
        refine ⟨fun h => ?_, fun h => ?_⟩
        · obtain ⟨u, hu, hx⟩ := ih.1 h
          exact ⟨_, by rw [hu]; rfl, by rw [hx]; simp [Tk.co]⟩
        · rw [(ih.2 h).1]; exact ⟨rfl, (ih.2 h).2⟩
      · simp only [if_neg k7]
        exact ⟨fun h => absurd h k7, fun _ => by simp⟩
    simp only [if_neg k6]
    by_cases k8 : lsign (s.getD i 0) = true
    · simp only [if_pos k8]
      have ep : lpc s i (i + 1) = [s.getD i 0] := by
        unfold lpc
        rw [drop_cons (by simp; omega), List.drop_eq_nil_of_le (by simp; omega)]
        simp [List.getD, hi]
      rw [ep]
      have ih := lsc_core s f (i + 1) (out ++ [⟨4, [s.getD i 0], 0, i, ldoc s i marks⟩]) marks (by omega) (by omega)
      refine ⟨fun h => ?_, fun h => ?_⟩
      · obtain ⟨u, hu, hx⟩ := ih.1 h
        exact ⟨_, by rw [hu]; rfl, by rw [hx]; simp [Tk.co]⟩
      · rw [(ih.2 h).1]; exact ⟨rfl, (ih.2 h).2⟩
    · simp only [if_neg k8]
      exact ⟨fun h => absurd h (by decide), fun _ => by simp⟩

end Go.Proofs.YtlekfcehmlepkaaGreatDoor

namespace Go.Proofs.YtlekfcehmlepkaaGreatDoor
set_option linter.unusedSimpArgs false

def KOk (s : List Int) (out : List Tk) (i : Nat) : Prop :=
  (∀ t ∈ out, t.kind ≠ 0 ∧ t.pos < i ∧ (t.kind = 1 → t.pos + t.text.length ≤ s.length ∧ lpc s t.pos (t.pos + t.text.length) = t.text)) ∧ out.Pairwise (fun a b => a.pos < b.pos)

theorem KOk.mono {s : List Int} {out : List Tk} {i k : Nat} (h : KOk s out i) (hk : i ≤ k) : KOk s out k :=
  ⟨fun t ht => ⟨(h.1 t ht).1, Nat.lt_of_lt_of_le (h.1 t ht).2.1 hk, (h.1 t ht).2.2⟩, h.2⟩

theorem KOk.snoc {s : List Int} {out : List Tk} {i k : Nat} {t : Tk} (h : KOk s out i) (h1 : t.kind ≠ 0) (h2 : t.pos = i) (h3 : i < k) (h4 : t.kind = 1 → t.pos + t.text.length ≤ s.length ∧ lpc s t.pos (t.pos + t.text.length) = t.text) : KOk s (out ++ [t]) k := by
  refine ⟨fun u hu => ?_, ?_⟩
  · rcases List.mem_append.1 hu with hu | hu
    · exact (h.mono (Nat.le_of_lt h3)).1 u hu
    · simp at hu; subst hu; exact ⟨h1, by omega, h4⟩
  · rw [List.pairwise_append]
    refine ⟨h.2, by simp, fun a ha b hb => ?_⟩
    simp at hb; subst hb
    have := (h.1 a ha).2.1
    omega

theorem lpc_len (s : List Int) (i k : Nat) (h : i ≤ k) (hk : k ≤ s.length) : (lpc s i k).length = k - i := by unfold lpc; simp; omega

theorem lsc_kinds (s : List Int) : ∀ (f i0 : Nat) (out : List Tk) (marks : List Nat), i0 ≤ s.length → s.length < i0 + f → KOk s out i0 → (lsc s f i0 out marks).2.2 = 0 →
    ∃ out' d, (lsc s f i0 out marks).1 = out' ++ [⟨0, [], 0, s.length, d⟩] ∧ KOk s out' s.length
  | 0, i0, out, marks, h1, h2, hK, h => by omega
  | f + 1, i0, out, marks, h1, h2, hK, h => by
    have hge := lrun_ge lblank s s.length (s.length - i0) i0
    have hle := lrun_le lblank s s.length (s.length - i0) i0 h1
    rw [lsc] at h ⊢
    generalize lrun lblank s s.length (s.length - i0) i0 = i at hge hle h ⊢
    have hK := hK.mono hge
    simp only at h ⊢
    by_cases k0 : i = s.length
    · simp only [if_pos k0]
      subst k0
      exact ⟨out, _, rfl, hK⟩
    simp only [if_neg k0] at h ⊢
    have hi : i < s.length := by omega
    by_cases k1 : i + 1 < s.length ∧ s.getD i 0 = 47 ∧ s.getD (i + 1) 0 = 47
    · simp only [if_pos k1] at h ⊢
      have g1 := lrun_ge leol s s.length (s.length - i) i
      have g2 := lrun_le leol s s.length (s.length - i) i (by omega)
      have g3 : i + 1 ≤ lrun leol s s.length (s.length - i) i := by
        obtain ⟨m, hm⟩ : ∃ m, s.length - i = m + 1 := ⟨s.length - i - 1, by omega⟩
        rw [hm, lrun, if_pos ⟨hi, by rw [k1.2.1]; decide⟩]
        exact lrun_ge _ _ _ _ _
      exact lsc_kinds s f _ out marks g2 (by omega) (hK.mono g1) h
    simp only [if_neg k1] at h ⊢
    by_cases k2 : i + 1 < s.length ∧ s.getD i 0 = 47 ∧ s.getD (i + 1) 0 = 42
    · simp only [if_pos k2] at h ⊢
      have g := lcl_ge s (s.length - (i + 2)) (i + 2)
      generalize lcl s (s.length - (i + 2)) (i + 2) = k at g h ⊢
      by_cases k3 : k + 1 < s.length
      · simp only [if_pos k3] at h ⊢
        exact lsc_kinds s f (k + 2) out _ (by omega) (by omega) (hK.mono (by omega)) h
      · simp only [if_neg k3] at h
        exact absurd h (by decide)
    simp only [if_neg k2] at h ⊢
    unfold ltok at h ⊢
    by_cases k3 : lletter (s.getD i 0) = true
    · have g1 := lrun_ge lletter s s.length (s.length - (i + 1)) (i + 1)
      have g2 := lrun_le lletter s s.length (s.length - (i + 1)) (i + 1) (by omega)
      simp only [if_pos k3] at h ⊢
      generalize lrun lletter s s.length (s.length - (i + 1)) (i + 1) = k at g1 g2 h ⊢
      by_cases k4 : lnumb (s.getD i 0) = true
      · simp only [if_pos k4] at h ⊢
        by_cases k5 : (qnum (lpc s i k)).2 = true
        · simp only [if_pos k5] at h ⊢
          exact lsc_kinds s f k _ marks g2 (by omega) (hK.snoc (by simp) rfl (by omega) (by simp)) h
        · simp only [if_neg k5] at h
          exact absurd h (by decide)
      · simp only [if_neg k4] at h ⊢
        have hl := lpc_len s i k (by omega) g2
        refine lsc_kinds s f k _ marks g2 (by omega) (hK.snoc (by simp) rfl (by omega) (fun _ => ?_)) h
        simp only [hl]
        exact ⟨by omega, by rw [show i + (k - i) = k by omega]⟩
    simp only [if_neg k3] at h ⊢
    by_cases k6 : s.getD i 0 = 34 ∨ s.getD i 0 = 39
    · simp only [if_pos k6] at h ⊢
      by_cases k7 : (qtake (s.drop i)).2.2 = 0
      · simp only [if_pos k7] at h ⊢
        have ha := (qtake_app (s.drop i) [] k7).2
        rw [List.length_drop] at ha
        exact lsc_kinds s f _ _ marks (by omega) (by omega) (hK.snoc (by simp) rfl (by omega) (by simp)) h
      · simp only [if_neg k7] at h
        exact absurd h k7
    simp only [if_neg k6] at h ⊢
    by_cases k8 : lsign (s.getD i 0) = true
    · simp only [if_pos k8] at h ⊢
      exact lsc_kinds s f (i + 1) _ marks (by omega) (by omega) (hK.snoc (by simp) rfl (by omega) (by simp)) h
    · simp only [if_neg k8] at h
      exact absurd h (by decide)

theorem lscan_kinds (s : List Int) (h0 : (lscan s).2.2 = 0) :
    ∃ out d, (lscan s).1 = out ++ [⟨0, [], 0, s.length, d⟩] ∧ KOk s out s.length := by
  unfold lscan at h0 ⊢
  by_cases h : 100000 < s.length
  · rw [if_pos h] at h0; exact absurd h0 (by decide)
  · rw [if_neg h] at h0 ⊢
    exact lsc_kinds s _ 0 [] [] (by omega) (by omega) ⟨by simp, by simp⟩ h0

theorem lscan_bad (s : List Int) (h0 : (lscan s).2.2 ≠ 0) : (lscan s).1 = [] := by
  unfold lscan at h0 ⊢
  by_cases h : 100000 < s.length
  · rw [if_pos h]
  · rw [if_neg h] at h0 ⊢
    exact ((lsc_core s _ 0 [] [] (by omega) (by omega)).2 h0).2

theorem pair_len : ∀ (l : List Tk) (lo hi : Nat), (∀ t ∈ l, lo ≤ t.pos ∧ t.pos < hi) → l.Pairwise (fun a b => a.pos < b.pos) → l.length + lo ≤ hi ∨ l = []
  | [], lo, hi, _, _ => .inr rfl
  | t :: r, lo, hi, h, hp => by
    left
    obtain ⟨h1, h2⟩ := List.pairwise_cons.1 hp
    have ht := h t (by simp)
    rcases pair_len r (t.pos + 1) hi (fun u hu => ⟨h1 u hu, (h u (by simp [hu])).2⟩) h2 with hr | hr
    · simp only [List.length_cons]; omega
    · subst hr; simp only [List.length_cons, List.length_nil]; omega

theorem lscan_len (s : List Int) : (lscan s).1.length ≤ s.length + 1 := by
  by_cases h0 : (lscan s).2.2 = 0
  · obtain ⟨out, d, h1, h2⟩ := lscan_kinds s h0
    rw [h1]
    rcases pair_len out 0 s.length (fun t ht => ⟨Nat.zero_le _, (h2.1 t ht).2.1⟩) h2.2 with h | h
    · simp; omega
    · subst h; simp
  · rw [lscan_bad s h0]; simp

end Go.Proofs.YtlekfcehmlepkaaGreatDoor

namespace Go.Proofs.YtlekfcehmlepkaaGreatDoor
open Go.RowKit
set_option linter.unusedVariables false
set_option linter.unusedSimpArgs false

theorem str_pc (s : List Int) (i k : Nat) : (strOfNums s).extract i k = strOfNums (lpc s i k) := by
  rw [str_cut]; unfold lpc; rw [List.drop_take]

def Tk.cells (t : Tk) : List Value := [.int .i64 t.kind, .string (strOfNums t.text), .int .u64 t.n, .int .i64 (t.pos : Int), .string (strOfNums t.doc)]

def Tk.ok (t : Tk) : Prop := (∀ c ∈ t.text, 0 ≤ c ∧ c ≤ 255) ∧ (∀ c ∈ t.doc, 0 ≤ c ∧ c ≤ 255)

def Ts (w : World) (a : Option Addr) (len cap : Nat) (ts : List Tk) : Prop :=
  ts.length = len ∧ len ≤ cap ∧ (a = none → cap = 0) ∧ (∀ t ∈ ts, t.ok) ∧
    (0 < len → ∃ b off, a = some ⟨b, off, none⟩ ∧ b < w.heap.size ∧ ∀ i t, ts[i]? = some t →
      w.cell? ⟨b, off + i * 5, none⟩ = some (.int .i64 t.kind) ∧ w.cell? ⟨b, off + i * 5 + 1, none⟩ = some (.string (strOfNums t.text)) ∧ w.cell? ⟨b, off + i * 5 + 2, none⟩ = some (.int .u64 t.n) ∧ w.cell? ⟨b, off + i * 5 + 3, none⟩ = some (.int .i64 (t.pos : Int)) ∧ w.cell? ⟨b, off + i * 5 + 4, none⟩ = some (.string (strOfNums t.doc)))

theorem flat5 : ∀ (ts : List Tk) (i : Nat) (t : Tk), ts[i]? = some t → ∀ j, j < 5 → (ts.flatMap Tk.cells)[i * 5 + j]? = t.cells[j]?
  | [], i, t, h, _, _ => by simp at h
  | q :: ts, 0, t, h, j, hj => by
    simp at h
    subst h
    simp only [List.flatMap_cons]
    rw [List.getElem?_append_left (by simp [Tk.cells]; omega)]
    simp
  | q :: ts, i + 1, t, h, j, hj => by
    simp only [List.getElem?_cons_succ] at h
    simp only [List.flatMap_cons]
    rw [List.getElem?_append_right (by simp [Tk.cells]; omega), show (i + 1) * 5 + j - q.cells.length = i * 5 + j by simp [Tk.cells]; omega]
    exact flat5 ts i t h j hj

def To (w : World) (base : Nat) (v : Value) (ts : List Tk) : Prop := w.ownsRow base 81 5 v ts.length (ts.flatMap Tk.cells) ∧ ∀ t ∈ ts, t.ok

theorem To.nil (w : World) (base : Nat) : To w base (.slice none 0 0) [] := ⟨World.ownsRow_nil _ _ _ _, by simp⟩

theorem To.below {w w' : World} {base : Nat} {v : Value} {ts : List Tk} (h : To w base v ts) (hb : Below w.heap.size w w') : To w' base v ts := ⟨own_below h.1 hb, h.2⟩

theorem To.slice {w : World} {base : Nat} {v : Value} {ts : List Tk} (h : To w base v ts) : ∃ a c, v = .slice a ts.length c := own_slice h.1

theorem Ts.of_own {w : World} {base : Nat} {a : Option Addr} {len cap : Nat} {ts : List Tk} (h : To w base (.slice a len cap) ts) : Ts w a len cap ts := by
  obtain ⟨ho, hr⟩ := h
  rcases ho.2 with ⟨he, hn⟩ | ⟨g, c, cur, he, hg, hh, h1, h2, h3, h4⟩
  · simp at he
    obtain ⟨rfl, rfl, rfl⟩ := he
    exact ⟨hn, Nat.le_refl _, fun _ => rfl, hr, fun h => absurd h (by omega)⟩
  · simp at he
    obtain ⟨rfl, rfl, rfl⟩ := he
    refine ⟨rfl, h1, fun h => by simp at h, hr, fun _ => ⟨g, 0, rfl, (ho.lt g rfl).2, fun i t hi => ?_⟩⟩
    have hil : i < ts.length := (List.getElem?_eq_some_iff.1 hi).1
    have c := fun j (hj : j < 5) => (ho.cellAt (i * 5 + j) (by omega)).trans (flat5 ts i t hi j hj)
    simp only [Nat.zero_add]
    exact ⟨c 0 (by omega), c 1 (by omega), c 2 (by omega), c 3 (by omega), c 4 (by omega)⟩

theorem Tryz.infoTok : (Tryz.prog.info? 81).map (fun i => (i.zero, i.size, i.bytes)) = some (some (.agg #[.int .i64 0, .string { data := #[] }, .int .u64 0, .int .i64 0, .string { data := #[] }]), 5, 56) := by kernel_rfl

theorem wp_append_tok {w : World} {o : Oper} {f : Act} {K : Act → World → Prop} {Q : Exit → Act → World → Prop} (s x : Operand)
    (ho : o.op = .call { callee := .builtin .append, args := #[s, x], argTypes := #[64, 64] }) (base : Nat) (v : Value) (ts : List Tk) (t : Tk) (b cap : Nat)
    (hs : f.eval s = v) (hx : f.eval x = .slice (some ⟨b, 0, none⟩) 1 cap) (hown : To w base v ts) (hok : t.ok)
    (hc : ∀ j u, t.cells[j]? = some u → w.cell? ⟨b, j, none⟩ = some u) (hn : ts.length + 1 ≤ 1000000) (hbase : base ≤ w.heap.size)
    (h : ∀ v' w', To w' base v' (ts ++ [t]) → w.grownBy w' v.ownBlock → K (f.put o.dst v') w') : o.wp Tryz.prog f w K Q := by
  obtain ⟨i0, hi, hz0, hz1, hz2⟩ := info_parts Tryz.infoTok
  obtain ⟨v', w', hrun, h1, h2, _⟩ := run_append_own (P := Tryz.prog) w base 64 o.type 81 i0 _ 5 56 Tryz.underlying64 hi hz0 hz1 hz2 rfl (by decide) v ts.length _ hown.1 ⟨b, 0, none⟩ 1 cap t.cells rfl
    (fun j u hj => by
      have hp : (⟨b, 0, none⟩ : Addr).add j = ⟨b, j, none⟩ := by unfold Addr.add; split <;> simp_all
      rw [hp]; exact hc j u hj)
    (fun u hu => by simp [Tk.cells] at hu; rcases hu with rfl | rfl | rfl | rfl | rfl <;> rfl) (by unfold maxLen; omega) (by omega) hbase
  unfold Oper.wp
  simp [execOp, ho, resolve, invoke, builtin, hs, hx, hrun, Result.andThen]
  refine h v' w' ⟨by simpa using h1, fun u hu => ?_⟩ h2
  rcases List.mem_append.1 hu with hu | hu
  · exact hown.2 u hu
  · simp at hu; subst hu; exact hok

theorem wpList_append_tok {w : World} {ops : Array Oper} {rest : List Oper} {o : Oper} {f : Act} {Q : Exit → Act → World → Prop} (hgd : o.guard = none) (s x : Operand)
    (ho : o.op = .call { callee := .builtin .append, args := #[s, x], argTypes := #[64, 64] }) (base : Nat) (v : Value) (ts : List Tk) (t : Tk) (b cap : Nat)
    (hs : f.eval s = v) (hx : f.eval x = .slice (some ⟨b, 0, none⟩) 1 cap) (hown : To w base v ts) (hok : t.ok)
    (hc : ∀ j u, t.cells[j]? = some u → w.cell? ⟨b, j, none⟩ = some u) (hn : ts.length + 1 ≤ 1000000) (hbase : base ≤ w.heap.size)
    (h : ∀ v' w', To w' base v' (ts ++ [t]) → w.grownBy w' v.ownBlock → wpList Tryz.prog ops Q rest (f.put o.dst v') w') : wpList Tryz.prog ops Q (o :: rest) f w := by
  refine wpList_plain hgd fun K hK => ?_
  exact wp_append_tok s x ho base v ts t b cap hs hx hown hok hc hn hbase (fun v' w' h1 h2 => hK _ _ (h v' w' h1 h2))

end Go.Proofs.YtlekfcehmlepkaaGreatDoor
