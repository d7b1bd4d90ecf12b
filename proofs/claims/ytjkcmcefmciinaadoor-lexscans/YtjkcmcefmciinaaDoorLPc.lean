/- The contracts of the program's own isRunSign, takeRun, takeText, take. -/
import Derived.Test.YtjkcmcefmciinaaDoorLPb
import Derived.Deep.RegionWith
namespace Go.Proofs.YtjkcmcefmciinaaDoor
open Go.RowKit
set_option linter.unusedVariables false
set_option linter.unusedSimpArgs false

set_option maxHeartbeats 1000000 in
theorem prun_any (c : Int) (w : World) (h0 : 0 ≤ c) (h1 : c ≤ 255) :
    Calls Tryd.prog 37 #[.int .u8 c] w fun e w' => e = .returned (.bool (lletter c)) ∧ w = w' := by
  have q := fun W => pdigit_any c W h0 h1
  by_cases k95 : c = 95
  · have E : Hid (lletter c = true) := decide_eq_true (by omega)
    subst k95
    clear q
    go_enter Tryd.func37, Tryd.ntmps37
    go_wp2
    go_ret
    exact ⟨by rw [E.out]; first | rfl | exact ret_bool (by simp; omega), rfl⟩
  have e95 : (c == 95) = false := by simpa using k95
  rcases (show (97 ≤ c ∧ c ≤ 122) ∨ (65 ≤ c ∧ c ≤ 90) ∨ (48 ≤ c ∧ c ≤ 57) ∨ (c < 48) ∨ (57 < c ∧ c < 65) ∨ (90 < c ∧ c < 97) ∨ (122 < c) by omega) with h | h | h | h | h | h | h
  · have E : Hid (lletter c = true) := decide_eq_true (by omega)
    obtain ⟨p1, p2⟩ := h
    clear q
    go_enter Tryd.func37, Tryd.ntmps37
    go_wp2
    go_ret
    exact ⟨by rw [E.out]; first | rfl | exact ret_bool (by simp; omega), rfl⟩
  · have E : Hid (lletter c = true) := decide_eq_true (by omega)
    obtain ⟨p1, p2⟩ := h
    clear q
    go_enter Tryd.func37, Tryd.ntmps37
    go_wp2
    go_ret
    exact ⟨by rw [E.out]; first | rfl | exact ret_bool (by simp; omega), rfl⟩
  · have E : Hid (lletter c = true) := decide_eq_true (by omega)
    obtain ⟨p1, p2⟩ := h
    have hn : lnumb c = true := decide_eq_true (by omega)
    rw [hn] at q
    clear hn
    have Q : Hid _ := q
    clear q
    go_enter Tryd.func37, Tryd.ntmps37
    go_wp2_with fail
    refine Calls.mono (Q.out _) ?_
    rintro e w1 ⟨rfl, rfl⟩
    go_wp2
    go_ret
    exact ⟨by rw [E.out]; first | rfl | exact ret_bool (by simp; omega), rfl⟩
  · have E : Hid (lletter c = false) := decide_eq_false (by omega)
    have hn : lnumb c = false := decide_eq_false (by omega)
    rw [hn] at q
    clear hn
    have Q : Hid _ := q
    clear q
    go_enter Tryd.func37, Tryd.ntmps37
    go_wp2_with fail
    refine Calls.mono (Q.out _) ?_
    rintro e w1 ⟨rfl, rfl⟩
    go_wp2
    go_ret
    exact ⟨by rw [E.out]; first | rfl | exact ret_bool (by simp; omega), rfl⟩
  · have E : Hid (lletter c = false) := decide_eq_false (by omega)
    obtain ⟨p1, p2⟩ := h
    have hn : lnumb c = false := decide_eq_false (by omega)
    rw [hn] at q
    clear hn
    have Q : Hid _ := q
    clear q
    go_enter Tryd.func37, Tryd.ntmps37
    go_wp2_with fail
    refine Calls.mono (Q.out _) ?_
    rintro e w1 ⟨rfl, rfl⟩
    go_wp2
    go_ret
    exact ⟨by rw [E.out]; first | rfl | exact ret_bool (by simp; omega), rfl⟩
  · have E : Hid (lletter c = false) := decide_eq_false (by omega)
    obtain ⟨p1, p2⟩ := h
    have hn : lnumb c = false := decide_eq_false (by omega)
    rw [hn] at q
    clear hn
    have Q : Hid _ := q
    clear q
    go_enter Tryd.func37, Tryd.ntmps37
    go_wp2_with fail
    refine Calls.mono (Q.out _) ?_
    rintro e w1 ⟨rfl, rfl⟩
    go_wp2
    go_ret
    exact ⟨by rw [E.out]; first | rfl | exact ret_bool (by simp; omega), rfl⟩
  · have E : Hid (lletter c = false) := decide_eq_false (by omega)
    have hn : lnumb c = false := decide_eq_false (by omega)
    rw [hn] at q
    clear hn
    have Q : Hid _ := q
    clear q
    go_enter Tryd.func37, Tryd.ntmps37
    go_wp2_with fail
    refine Calls.mono (Q.out _) ?_
    rintro e w1 ⟨rfl, rfl⟩
    go_wp2
    go_ret
    exact ⟨by rw [E.out]; first | rfl | exact ret_bool (by simp; omega), rfl⟩

theorem after_call5 {W w1 : World} {v0 v1 v2 v3 v4 : Value} (hb1 : Below (W.alloc (.cells #[v0, v1, v2, v3, v4] 40)).heap.size (W.alloc (.cells #[v0, v1, v2, v3, v4] 40)) w1) :
    w1.frozen? ⟨W.heap.size, 3, none⟩ = false ∧ w1.frozen? ⟨W.heap.size, 4, none⟩ = false := by
  have hlt : W.heap.size < (W.alloc (.cells #[v0, v1, v2, v3, v4] 40)).heap.size := by simp
  have hf : ∀ j, w1.frozen? ⟨W.heap.size, j, none⟩ = false := fun j => (hb1.frozen (p := ⟨W.heap.size, j, none⟩) hlt).trans (World.frozen?_alloc_new _ _ _ _)
  exact ⟨hf 3, hf 4⟩

theorem tk_ret {fn : Func} {R : Ending → World → Prop} {a : Act} {w : World} {p u v : Tmp} (h : fn.results = #[.cell p 40, .tmp u, .tmp v]) (g : Nat) (v0 v1 v2 v3 v4 : Value) (hp : a.tmps.getD p undef = .pointer (some ⟨g, 0, none⟩))
    (hg : w.heap[g]? = some (.cells #[v0, v1, v2, v3, v4] 40 (0, 0))) (hd : a.defers = []) (hR : R (.returned (.tuple #[.agg #[v0, v1, v2, v3, v4], a.tmps.getD u undef, a.tmps.getD v undef])) w) : bodyPost Tryd.prog fn R .ret a w := by
  refine bodyPost_ret (v := .tuple #[.agg #[v0, v1, v2, v3, v4], a.tmps.getD u undef, a.tmps.getD v undef]) ?_ hd hR
  have hp' : a.tmps[p]?.getD undef = .pointer (some ⟨g, 0, none⟩) := by simpa using hp
  have hl := run_loadVar_row (P := Tryd.prog) w g 40 40 #[v0, v1, v2, v3, v4] (0, 0) _ hg Tryd.underlying40 rfl (by kernel_rfl)
  simp [results, h, hp', asAddr, hl]

/-- Five stores into a token's block. -/
theorem five_set {w : World} {g : Nat} {a0 a1 a2 a3 a4 : Value} (h : w.heap[g]? = some (.cells #[a0, a1, a2, a3, a4] 40 (0, 0))) (v0 v1 v2 v3 v4 : Value) :
    (((((w.setCell ⟨g, 0, none⟩ v0).setCell ⟨g, 1, none⟩ v1).setCell ⟨g, 2, none⟩ v2).setCell ⟨g, 3, none⟩ v3).setCell ⟨g, 4, none⟩ v4).heap[g]? = some (.cells #[v0, v1, v2, v3, v4] 40 (0, 0)) := by
  have h1 := set_heap h 0 v0
  have h2 := set_heap h1 1 v1
  have h3 := set_heap h2 2 v2
  have h4 := set_heap h3 3 v3
  exact set_heap h4 4 v4

theorem five_below {B : Nat} {a w : World} {g : Nat} (h : Below B a w) (hg : B ≤ g) (v0 v1 v2 v3 v4 : Value) :
    Below B a (((((w.setCell ⟨g, 0, none⟩ v0).setCell ⟨g, 1, none⟩ v1).setCell ⟨g, 2, none⟩ v2).setCell ⟨g, 3, none⟩ v3).setCell ⟨g, 4, none⟩ v4) :=
  ((((h.setCell (p := ⟨g, 0, none⟩) hg v0).setCell (p := ⟨g, 1, none⟩) hg v1).setCell (p := ⟨g, 2, none⟩) hg v2).setCell (p := ⟨g, 3, none⟩) hg v3).setCell (p := ⟨g, 4, none⟩) hg v4

theorem new_kept {W w1 : World} {o : Obj} (hb1 : Below (W.alloc o).heap.size (W.alloc o) w1) : w1.heap[W.heap.size]? = some o := by
  rw [hb1.block W.heap.size (by simp)]
  exact heap_alloc_new W o

/-- What take answers: a token (its comments are not yet told) and where it ends; or a place and an error. -/
def tkv : (Tk × Nat) ⊕ (Int × Int) → Value
  | .inl (t, k) => .tuple #[.agg #[.int .i64 t.kind, .string (strOfNums t.text), .int .u64 t.n, .int .i64 (t.pos : Int), .string { data := #[] }], .int .i64 (k : Int), .int .i64 0]
  | .inr (k, e) => .tuple #[.agg #[.int .i64 0, .string { data := #[] }, .int .u64 0, .int .i64 0, .string { data := #[] }], .int .i64 k, .int .i64 e]

set_option maxRecDepth 10000 in
set_option maxHeartbeats 1000000 in
theorem ptrun_name (S : ByteArray) (s : List Int) (i : Nat) (w : World) (HS : Hid (Src S s)) (HL : Hid (s.length ≤ 100000)) (hi : i < s.length) (K : Nat) (HK : Hid (K = lrun lletter s s.length (s.length - (i + 1)) (i + 1))) (hn : Hid (lnumb (s.getD i 0) = false)) :
    Calls Tryd.prog 38 #[.string S, .int .i64 (i : Int)] w fun e w' => e = .returned (tkv (.inl (⟨1, lpc s i K, 0, i, []⟩, K))) ∧ Below w.heap.size w w' := by
  have hsz := HS.out.sz
  have hlen : (s.length : Int) ≤ 100000 := by have := HL.out; omega
  have hg1 := lrun_ge lletter s s.length (s.length - (i + 1)) (i + 1)
  have hg2 := lrun_le lletter s s.length (s.length - (i + 1)) (i + 1) (by omega)
  rw [← HK.out] at hg1 hg2
  have hrc := run_cut S i K (i : Int) (K : Int) rfl rfl (by omega) (by omega)
  rw [HS.out.cut i K] at hrc
  have hPl := lpc_len s i K (by omega) hg2
  have hPs : (strOfNums (lpc s i K)).size = K - i := by rw [strOfNums_size, hPl]
  have hpb : ∀ j, 0 ≤ (lpc s i K).getD j 0 ∧ (lpc s i K).getD j 0 ≤ 255 := getD_bd fun c hc => mem_bd HS.out.bd c (List.mem_of_mem_take (List.mem_of_mem_drop hc))
  have hP0 : (lpc s i K).getD 0 0 = s.getD i 0 := by
    unfold lpc
    rw [List.getD, List.getElem?_drop, List.getElem?_take, if_pos (by omega)]
    rfl
  obtain ⟨T, hT⟩ : ∃ T, T = strOfNums (lpc s i K) := ⟨_, rfl⟩
  have hTs : T.size = K - i := by rw [hT]; exact hPs
  have hKi : 0 < K - i := by omega
  have hat0 : ((T[0]'(hTs ▸ hKi)).toNat : Int) = s.getD i 0 := by
    subst hT
    rw [← hP0]
    exact str_at _ hpb 0 _
  have qc := fun W => pclone_any (lpc s i K) W (by omega)
  rw [← hT] at hrc qc
  have HT : Hid (T = strOfNums (lpc s i K)) := hT
  have QC : Hid _ := qc
  have hcb := HS.out.bd i
  generalize s.getD i 0 = c at hat0 hn hcb
  obtain ⟨c0, c255⟩ := hcb
  have qd := fun W => pdigit_any c W c0 c255
  rw [hn.out] at qd
  have QD : Hid _ := qd
  clear qd qc hn hpb hP0 hPl hPs hT
  go_enter Tryd.func38, Tryd.ntmps38
  go_wp2
  go_loopw [7] (fun v wr => ∃ j : Nat, v = .int .i64 (j : Int) ∧ i + 1 ≤ j ∧ j ≤ s.length ∧ Hid (K = lrun lletter s s.length (s.length - j) j) ∧ w.alloc (.cells #[.int .i64 0, .string { data := #[] }, .int .u64 0, .int .i64 0, .string { data := #[] }] 40) = wr) (fun v _ => s.length - (intOf v).toNat)
  case atStart => exact ⟨i + 1, by go_num, by omega, by omega, HK, rfl⟩
  case round =>
    obtain ⟨j, rfl, hij, hjs, HJ, rfl⟩ := hrel
    by_cases hjl : j < s.length
    · have hatj := HS.out.at j hjl
      have hcb := HS.out.bd j
      have HJ' := HJ.out
      obtain ⟨m, hm⟩ : ∃ m, s.length - j = m + 1 := ⟨s.length - j - 1, by omega⟩
      rw [hm, lrun, show m = s.length - (j + 1) by omega] at HJ'
      generalize s.getD j 0 = c2 at hatj hcb HJ'
      obtain ⟨d0, d255⟩ := hcb
      have q := fun W => prun_any c2 W d0 d255
      by_cases hl : lletter c2 = true
      · rw [if_pos ⟨hjl, hl⟩] at HJ'
        rw [hl] at q
        have QB : Hid _ := q
        have HE : Hid (K = lrun lletter s s.length (s.length - (j + 1)) (j + 1)) := HJ'
        clear q HJ HJ' hm hl
        go_wp2_with fail
        refine Calls.mono (QB.out _) ?_
        rintro e w1 ⟨rfl, rfl⟩
        go_wp2
        go_roundw
        case rel => first | exact ⟨j + 1, by go_num, by omega, by omega, HE, by first | rfl | trivial⟩ | ((repeat apply Exists.intro); exact ⟨⟨j + 1, by go_num, by omega, by omega, HE, by first | rfl | trivial⟩, rfl⟩)
        case measure => simp [intOf]; omega
      · have hl' : lletter c2 = false := by simpa using hl
        rw [if_neg (fun h => hl h.2)] at HJ'
        rw [hl'] at q
        have QB : Hid _ := q
        subst HJ'
        clear q HJ hm hl hl'
        go_wp2_with fail
        refine Calls.mono (QB.out _) ?_
        rintro e w1 ⟨rfl, rfl⟩
        go_wp2_with fail
        refine Calls.mono (QD.out _) ?_
        rintro e w1 ⟨rfl, rfl⟩
        go_wp2_with fail
        refine Calls.mono (QC.out _) ?_
        rintro e w1 ⟨rfl, hb1⟩
        obtain ⟨hbb, hlt, c0, c1, c2, c3, c4, f0, f1, f2⟩ := after_call0 hb1
        obtain ⟨f3, f4⟩ := after_call5 hb1
        go_wp2
        (try simp only [Exit.inBlock, Exit.then])
        refine tk_ret rfl w.heap.size _ _ _ _ _ rfl (five_set (new_kept hb1) _ _ _ _ _) rfl ⟨?_, five_below hbb (Nat.le_refl _) _ _ _ _ _⟩
        rw [tkv, ← HT.out]
        rfl

    · obtain rfl : j = s.length := by omega
      have e := HJ.out
      rw [Nat.sub_self, lrun] at e
      subst e
      clear HJ
      go_wp2_with fail
      refine Calls.mono (QD.out _) ?_
      rintro e w1 ⟨rfl, rfl⟩
      go_wp2_with fail
      refine Calls.mono (QC.out _) ?_
      rintro e w1 ⟨rfl, hb1⟩
      obtain ⟨hbb, hlt, c0, c1, c2, c3, c4, f0, f1, f2⟩ := after_call0 hb1
      obtain ⟨f3, f4⟩ := after_call5 hb1
      go_wp2
      (try simp only [Exit.inBlock, Exit.then])
      refine tk_ret rfl w.heap.size _ _ _ _ _ rfl (five_set (new_kept hb1) _ _ _ _ _) rfl ⟨?_, five_below hbb (Nat.le_refl _) _ _ _ _ _⟩
      rw [tkv, ← HT.out]
      rfl

set_option maxRecDepth 10000 in
set_option maxHeartbeats 1000000 in
theorem ptrun_num (S : ByteArray) (s : List Int) (i : Nat) (w : World) (HS : Hid (Src S s)) (HL : Hid (s.length ≤ 100000)) (hi : i < s.length) (K : Nat) (HK : Hid (K = lrun lletter s s.length (s.length - (i + 1)) (i + 1))) (hn : Hid (lnumb (s.getD i 0) = true)) (hq : Hid ((qnum (lpc s i K)).2 = true)) :
    Calls Tryd.prog 38 #[.string S, .int .i64 (i : Int)] w fun e w' => e = .returned (tkv (.inl (⟨2, [], (qnum (lpc s i K)).1, i, []⟩, K))) ∧ Below w.heap.size w w' := by
  have hsz := HS.out.sz
  have hlen : (s.length : Int) ≤ 100000 := by have := HL.out; omega
  have hg1 := lrun_ge lletter s s.length (s.length - (i + 1)) (i + 1)
  have hg2 := lrun_le lletter s s.length (s.length - (i + 1)) (i + 1) (by omega)
  rw [← HK.out] at hg1 hg2
  have hrc := run_cut S i K (i : Int) (K : Int) rfl rfl (by omega) (by omega)
  rw [HS.out.cut i K] at hrc
  have hPl := lpc_len s i K (by omega) hg2
  have hPs : (strOfNums (lpc s i K)).size = K - i := by rw [strOfNums_size, hPl]
  have hpb : ∀ j, 0 ≤ (lpc s i K).getD j 0 ∧ (lpc s i K).getD j 0 ≤ 255 := getD_bd fun c hc => mem_bd HS.out.bd c (List.mem_of_mem_take (List.mem_of_mem_drop hc))
  have hP0 : (lpc s i K).getD 0 0 = s.getD i 0 := by
    unfold lpc
    rw [List.getD, List.getElem?_drop, List.getElem?_take, if_pos (by omega)]
    rfl
  obtain ⟨T, hT2⟩ : ∃ T, T = strOfNums (lpc s i K) := ⟨_, rfl⟩
  have hTs : T.size = K - i := by rw [hT2]; exact hPs
  have hKi : 0 < K - i := by omega
  have hat0 : ((T[0]'(hTs ▸ hKi)).toNat : Int) = s.getD i 0 := by
    subst hT2
    rw [← hP0]
    exact str_at _ hpb 0 _
  have qc := fun W => pnum_any (lpc s i K) W hpb (by omega)
  rw [hq.out, ← hT2] at qc
  rw [← hT2] at hrc
  generalize (qnum (lpc s i K)).1 = N at qc ⊢
  have QC : Hid _ := qc
  have hcb := HS.out.bd i
  generalize s.getD i 0 = c at hat0 hn hcb
  obtain ⟨c0, c255⟩ := hcb
  have qd := fun W => pdigit_any c W c0 c255
  rw [hn.out] at qd
  have QD : Hid _ := qd
  clear qd qc hn hpb hP0 hPl hPs hT2
  go_enter Tryd.func38, Tryd.ntmps38
  go_wp2
  go_loopw [7] (fun v wr => ∃ j : Nat, v = .int .i64 (j : Int) ∧ i + 1 ≤ j ∧ j ≤ s.length ∧ Hid (K = lrun lletter s s.length (s.length - j) j) ∧ w.alloc (.cells #[.int .i64 0, .string { data := #[] }, .int .u64 0, .int .i64 0, .string { data := #[] }] 40) = wr) (fun v _ => s.length - (intOf v).toNat)
  case atStart => exact ⟨i + 1, by go_num, by omega, by omega, HK, rfl⟩
  case round =>
    obtain ⟨j, rfl, hij, hjs, HJ, rfl⟩ := hrel
    by_cases hjl : j < s.length
    · have hatj := HS.out.at j hjl
      have hcb := HS.out.bd j
      have HJ' := HJ.out
      obtain ⟨m, hm⟩ : ∃ m, s.length - j = m + 1 := ⟨s.length - j - 1, by omega⟩
      rw [hm, lrun, show m = s.length - (j + 1) by omega] at HJ'
      generalize s.getD j 0 = c2 at hatj hcb HJ'
      obtain ⟨d0, d255⟩ := hcb
      have q := fun W => prun_any c2 W d0 d255
      by_cases hl : lletter c2 = true
      · rw [if_pos ⟨hjl, hl⟩] at HJ'
        rw [hl] at q
        have QB : Hid _ := q
        have HE : Hid (K = lrun lletter s s.length (s.length - (j + 1)) (j + 1)) := HJ'
        clear q HJ HJ' hm hl
        go_wp2_with fail
        refine Calls.mono (QB.out _) ?_
        rintro e w1 ⟨rfl, rfl⟩
        go_wp2
        go_roundw
        case rel => first | exact ⟨j + 1, by go_num, by omega, by omega, HE, by first | rfl | trivial⟩ | ((repeat apply Exists.intro); exact ⟨⟨j + 1, by go_num, by omega, by omega, HE, by first | rfl | trivial⟩, rfl⟩)
        case measure => simp [intOf]; omega
      · have hl' : lletter c2 = false := by simpa using hl
        rw [if_neg (fun h => hl h.2)] at HJ'
        rw [hl'] at q
        have QB : Hid _ := q
        subst HJ'
        clear q HJ hm hl hl'
        go_wp2_with fail
        refine Calls.mono (QB.out _) ?_
        rintro e w1 ⟨rfl, rfl⟩
        go_wp2_with fail
        refine Calls.mono (QD.out _) ?_
        rintro e w1 ⟨rfl, rfl⟩
        go_wp2_with fail
        refine Calls.mono (QC.out _) ?_
        rintro e w1 ⟨rfl, hb1⟩
        obtain ⟨hbb, hlt, c0, c1, c2, c3, c4, f0, f1, f2⟩ := after_call0 hb1
        obtain ⟨f3, f4⟩ := after_call5 hb1
        go_wp2
        (try simp only [Exit.inBlock, Exit.then])
        refine tk_ret rfl w.heap.size _ _ _ _ _ rfl (five_set (new_kept hb1) _ _ _ _ _) rfl ⟨?_, five_below hbb (Nat.le_refl _) _ _ _ _ _⟩
        rw [tkv]
        rfl

    · obtain rfl : j = s.length := by omega
      have e := HJ.out
      rw [Nat.sub_self, lrun] at e
      subst e
      clear HJ
      go_wp2_with fail
      refine Calls.mono (QD.out _) ?_
      rintro e w1 ⟨rfl, rfl⟩
      go_wp2_with fail
      refine Calls.mono (QC.out _) ?_
      rintro e w1 ⟨rfl, hb1⟩
      obtain ⟨hbb, hlt, c0, c1, c2, c3, c4, f0, f1, f2⟩ := after_call0 hb1
      obtain ⟨f3, f4⟩ := after_call5 hb1
      go_wp2
      (try simp only [Exit.inBlock, Exit.then])
      refine tk_ret rfl w.heap.size _ _ _ _ _ rfl (five_set (new_kept hb1) _ _ _ _ _) rfl ⟨?_, five_below hbb (Nat.le_refl _) _ _ _ _ _⟩
      rw [tkv]
      rfl

set_option maxRecDepth 10000 in
set_option maxHeartbeats 1000000 in
theorem ptrun_bad (S : ByteArray) (s : List Int) (i : Nat) (w : World) (HS : Hid (Src S s)) (HL : Hid (s.length ≤ 100000)) (hi : i < s.length) (K : Nat) (HK : Hid (K = lrun lletter s s.length (s.length - (i + 1)) (i + 1))) (hn : Hid (lnumb (s.getD i 0) = true)) (hq : Hid ((qnum (lpc s i K)).2 = false)) :
    Calls Tryd.prog 38 #[.string S, .int .i64 (i : Int)] w fun e w' => e = .returned (tkv (.inr ((i : Int), 52))) ∧ Below w.heap.size w w' := by
  have hsz := HS.out.sz
  have hlen : (s.length : Int) ≤ 100000 := by have := HL.out; omega
  have hg1 := lrun_ge lletter s s.length (s.length - (i + 1)) (i + 1)
  have hg2 := lrun_le lletter s s.length (s.length - (i + 1)) (i + 1) (by omega)
  rw [← HK.out] at hg1 hg2
  have hrc := run_cut S i K (i : Int) (K : Int) rfl rfl (by omega) (by omega)
  rw [HS.out.cut i K] at hrc
  have hPl := lpc_len s i K (by omega) hg2
  have hPs : (strOfNums (lpc s i K)).size = K - i := by rw [strOfNums_size, hPl]
  have hpb : ∀ j, 0 ≤ (lpc s i K).getD j 0 ∧ (lpc s i K).getD j 0 ≤ 255 := getD_bd fun c hc => mem_bd HS.out.bd c (List.mem_of_mem_take (List.mem_of_mem_drop hc))
  have hP0 : (lpc s i K).getD 0 0 = s.getD i 0 := by
    unfold lpc
    rw [List.getD, List.getElem?_drop, List.getElem?_take, if_pos (by omega)]
    rfl
  obtain ⟨T, hT2⟩ : ∃ T, T = strOfNums (lpc s i K) := ⟨_, rfl⟩
  have hTs : T.size = K - i := by rw [hT2]; exact hPs
  have hKi : 0 < K - i := by omega
  have hat0 : ((T[0]'(hTs ▸ hKi)).toNat : Int) = s.getD i 0 := by
    subst hT2
    rw [← hP0]
    exact str_at _ hpb 0 _
  have qc := fun W => pnum_any (lpc s i K) W hpb (by omega)
  rw [hq.out, ← hT2] at qc
  rw [← hT2] at hrc
  generalize (qnum (lpc s i K)).1 = N at qc
  have QC : Hid _ := qc
  have hcb := HS.out.bd i
  generalize s.getD i 0 = c at hat0 hn hcb
  obtain ⟨c0, c255⟩ := hcb
  have qd := fun W => pdigit_any c W c0 c255
  rw [hn.out] at qd
  have QD : Hid _ := qd
  clear qd qc hn hpb hP0 hPl hPs hT2
  go_enter Tryd.func38, Tryd.ntmps38
  go_wp2
  go_loopw [7] (fun v wr => ∃ j : Nat, v = .int .i64 (j : Int) ∧ i + 1 ≤ j ∧ j ≤ s.length ∧ Hid (K = lrun lletter s s.length (s.length - j) j) ∧ w.alloc (.cells #[.int .i64 0, .string { data := #[] }, .int .u64 0, .int .i64 0, .string { data := #[] }] 40) = wr) (fun v _ => s.length - (intOf v).toNat)
  case atStart => exact ⟨i + 1, by go_num, by omega, by omega, HK, rfl⟩
  case round =>
    obtain ⟨j, rfl, hij, hjs, HJ, rfl⟩ := hrel
    by_cases hjl : j < s.length
    · have hatj := HS.out.at j hjl
      have hcb := HS.out.bd j
      have HJ' := HJ.out
      obtain ⟨m, hm⟩ : ∃ m, s.length - j = m + 1 := ⟨s.length - j - 1, by omega⟩
      rw [hm, lrun, show m = s.length - (j + 1) by omega] at HJ'
      generalize s.getD j 0 = c2 at hatj hcb HJ'
      obtain ⟨d0, d255⟩ := hcb
      have q := fun W => prun_any c2 W d0 d255
      by_cases hl : lletter c2 = true
      · rw [if_pos ⟨hjl, hl⟩] at HJ'
        rw [hl] at q
        have QB : Hid _ := q
        have HE : Hid (K = lrun lletter s s.length (s.length - (j + 1)) (j + 1)) := HJ'
        clear q HJ HJ' hm hl
        go_wp2_with fail
        refine Calls.mono (QB.out _) ?_
        rintro e w1 ⟨rfl, rfl⟩
        go_wp2
        go_roundw
        case rel => first | exact ⟨j + 1, by go_num, by omega, by omega, HE, by first | rfl | trivial⟩ | ((repeat apply Exists.intro); exact ⟨⟨j + 1, by go_num, by omega, by omega, HE, by first | rfl | trivial⟩, rfl⟩)
        case measure => simp [intOf]; omega
      · have hl' : lletter c2 = false := by simpa using hl
        rw [if_neg (fun h => hl h.2)] at HJ'
        rw [hl'] at q
        have QB : Hid _ := q
        subst HJ'
        clear q HJ hm hl hl'
        go_wp2_with fail
        refine Calls.mono (QB.out _) ?_
        rintro e w1 ⟨rfl, rfl⟩
        go_wp2_with fail
        refine Calls.mono (QD.out _) ?_
        rintro e w1 ⟨rfl, rfl⟩
        go_wp2_with fail
        refine Calls.mono (QC.out _) ?_
        rintro e w1 ⟨rfl, hb1⟩
        obtain ⟨hbb, hlt, c0, c1, c2, c3, c4, f0, f1, f2⟩ := after_call0 hb1
        obtain ⟨f3, f4⟩ := after_call5 hb1
        go_wp2
        (try simp only [Exit.inBlock, Exit.then])
        refine tk_ret rfl w.heap.size _ _ _ _ _ rfl (five_set (new_kept hb1) _ _ _ _ _) rfl ⟨?_, five_below hbb (Nat.le_refl _) _ _ _ _ _⟩
        rw [tkv]
        rfl

    · obtain rfl : j = s.length := by omega
      have e := HJ.out
      rw [Nat.sub_self, lrun] at e
      subst e
      clear HJ
      go_wp2_with fail
      refine Calls.mono (QD.out _) ?_
      rintro e w1 ⟨rfl, rfl⟩
      go_wp2_with fail
      refine Calls.mono (QC.out _) ?_
      rintro e w1 ⟨rfl, hb1⟩
      obtain ⟨hbb, hlt, c0, c1, c2, c3, c4, f0, f1, f2⟩ := after_call0 hb1
      obtain ⟨f3, f4⟩ := after_call5 hb1
      go_wp2
      (try simp only [Exit.inBlock, Exit.then])
      refine tk_ret rfl w.heap.size _ _ _ _ _ rfl (five_set (new_kept hb1) _ _ _ _ _) rfl ⟨?_, five_below hbb (Nat.le_refl _) _ _ _ _ _⟩
      rw [tkv]
      rfl

end Go.Proofs.YtjkcmcefmciinaaDoor
