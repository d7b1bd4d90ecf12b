/- Put together by a program out of these texts of mine: STk5, SSz, SFile, SEx. -/
import Derived.Test.YtlekfcehmlepkaaGreatDoorBunL30
import Derived.Test.YtlekfcehmlepkaaGreatDoorBunL32

namespace Go.Proofs.YtlekfcehmlepkaaGreatDoor
open Go.RowKit
set_option linter.unusedVariables false
set_option linter.unusedSimpArgs false

theorem gtokens_no (ts : List Tq) (hl : ts.length ≠ 0) (hk : (ts.getD (ts.length - 1) Tq.none).kind = 0) (hd : gisw ts [115, 121, 110, 116, 97, 120] (⟨0, 0, 0, 0, 1⟩ : Gs) = false) : gtokens ts = if (gfilel ts (2 * ts.length + 2) ((⟨0, 0, 0, 0, 1⟩ : Gs)) 0 []).2.e ≠ 0 then (pnil, (gfilel ts (2 * ts.length + 2) ((⟨0, 0, 0, 0, 1⟩ : Gs)) 0 []).2.pa, (gfilel ts (2 * ts.length + 2) ((⟨0, 0, 0, 0, 1⟩ : Gs)) 0 []).2.e) else if 20000 < (gfilel ts (2 * ts.length + 2) ((⟨0, 0, 0, 0, 1⟩ : Gs)) 0 []).2.n then (pnil, 0, 2) else (.mk 1 ([]) 0 0 0 ((ts.getD 0 Tq.none).pos) [] (gfilel ts (2 * ts.length + 2) ((⟨0, 0, 0, 0, 1⟩ : Gs)) 0 []).1, 0, 0) := by
  unfold gtokens
  rw [if_neg (fun h => h.elim hl (fun h => h hk))]
  simp only [hd, Bool.false_eq_true, if_false]

theorem tkp_all0 {u w : World} {g : Nat} {a : Option Addr} {len cap : Nat} {ts : List Tq} {W : World} {rb nb : Nat} (HSim : Hid (Sim ts)) (us : Nat → Value) (S0 : Hid (Sx w g a len cap ts w.heap.size (.slice none 0 0) [] W (⟨0, 0, 0, 0, 1⟩ : Gs) [(nb, #[.int .i64 1, .string { data := #[] }, .int .i64 0, .int .i64 0, .int .i64 0, .int .i64 (ts.getD 0 Tq.none).pos, .string { data := #[] }, .slice none 0 0])] (.slice none 0 0) [] [])) (HRb : Hid (w.heap[rb]? = some (.cells #[.int .i64 0, .string { data := #[] }, .int .i64 0, .int .i64 0, .int .i64 0, .int .i64 0, .string { data := #[] }, .slice none 0 0] 28 (0, 0)))) (hrb : rb < w.heap.size) (hrg : rb ≠ g) (hbe : u.heap.size ≤ rb ∧ u.heap.size ≤ g ∧ Below u.heap.size u w) (hLb : len ≤ 1000000) (hnp : i64b (ts.getD 0 Tq.none).pos) :
    tkX.wp Tryz.prog (bodyPost Tryz.prog Tryz.f23 (TokRet u (gtokens ts))) (RU g rb nb a len cap us) W := by
  have hL : ts.length = len := S0.out.gm.tok.1
  have hlt := S0.out.gm.lt
  have hl : ts.length ≠ 0 := by omega
  have hk : (ts.getD (ts.length - 1) Tq.none).kind = 0 := by rw [hL]; exact S0.out.gm.last
  have hd := HSim.out.w_syntax (⟨0, 0, 0, 0, 1⟩ : Gs)
  exact tkp_no0 HSim rfl us S0 HRb hrb hrg hbe hLb hnp hd (gtokens_no ts hl hk hd)

theorem wp_asU {c : Code} {Q : Exit → Act → World → Prop} {a' : Act} {W : World} {g rb nb : Nat} {a : Option Addr} {len cap : Nat} (us : Nat → Value) (_hu : us = fun k => a'.tmps.getD k undef) (h : a' = RU g rb nb a len cap us) (hw : ∀ us, c.wp Tryz.prog Q (RU g rb nb a len cap us) W) : c.wp Tryz.prog Q a' W := by
  rw [h]; exact hw us

set_option maxRecDepth 100000 in
set_option maxHeartbeats 4000000 in
theorem rgtokens_any0 {u : World} {a : Option Addr} {len cap : Nat} {ts : List Tq} (HSim : Hid (Sim ts)) (HT : Hid (Tqs u u.heap.size a len cap ts)) (h0 : 0 < len) (hlast : (ts.getD (len - 1) Tq.none).kind = 0) :
    Calls Tryz.prog 23 #[.slice a len cap] u (TokRet u (gtokens ts)) := by
  obtain ⟨h1, h2, h3, h4, h5, h6⟩ := HT.out
  obtain ⟨b, off, rfl, hbl, hne, hc⟩ := h6 h0
  have HG : Hid (len ≤ 1000000) := by show _ ≤ _; omega
  obtain ⟨t, ht⟩ : ∃ t, ts[len - 1]? = some t := ⟨ts[len - 1]'(by omega), List.getElem?_eq_getElem (by omega)⟩
  obtain ⟨q, hq⟩ : ∃ q, ts[0]? = some q := ⟨ts[0]'(by omega), List.getElem?_eq_getElem (by omega)⟩
  have hnpq : ts.getD 0 Tq.none = q := by rw [List.getD, hq]; rfl
  have HNq : Hid (i64b q.pos) := (h5.1 q (List.mem_of_getElem? hq)).2.2.2.1
  have htk : t.kind = 0 := by rw [List.getD, ht] at hlast; exact hlast
  have d0 := hc (len - 1) _ ht 0 _ rfl
  have d3 := hc 0 _ hq 3 _ rfl
  simp only [Nat.add_zero, Nat.zero_mul, Tq.cells] at d0 d3
  rw [htk] at d0
  obtain ⟨kk, hkk⟩ : ∃ kk, len = kk + 1 := ⟨len - 1, by omega⟩
  subst hkk
  rw [show kk + 1 - 1 = kk by omega] at d0
  have hkk : (kk : Int) ≤ 1000000 := by omega
  have hkk2 : (kk : Int) < (kk : Int) + 1 := by omega
  have hkk3 : ¬ ((kk : Int) + 1 = 0) := by omega
  have HLk : Hid ((ts.getD (kk + 1 - 1) Tq.none).kind = 0) := hlast
  have HPq : Hid ((ts.getD 0 Tq.none).pos = q.pos) := by show _ = _; rw [hnpq]
  have HGm : Hid (Gm ((u.alloc (.cells #[.int .i64 0, .string { data := #[] }, .int .i64 0, .int .i64 0, .int .i64 0, .int .i64 0, .string { data := #[] }, .slice none 0 0] 28)).alloc (.cells #[.slice (some ⟨b, off, none⟩) (kk + 1) cap, .int .i64 0, .int .i64 0, .int .i64 0, .int .i64 0, .int .i64 1] 87)) (u.heap.size + 1) (some ⟨b, off, none⟩) (kk + 1) cap ts (⟨0, 0, 0, 0, 1⟩ : Gs)) := by
    have hb0 : Below u.heap.size u ((u.alloc (.cells #[.int .i64 0, .string { data := #[] }, .int .i64 0, .int .i64 0, .int .i64 0, .int .i64 0, .string { data := #[] }, .slice none 0 0] 28)).alloc (.cells #[.slice (some ⟨b, off, none⟩) (kk + 1) cap, .int .i64 0, .int .i64 0, .int .i64 0, .int .i64 0, .int .i64 1] 87)) := ((Below.refl _ _).alloc (Nat.le_refl _) _).alloc (by simp) _
    refine ⟨?_, ⟨h1, h2, h3, fun h => by simp at h, h5, fun _ => ⟨b, off, rfl, Nat.lt_of_lt_of_le hbl hb0.size, by omega, fun i t hi j v hj => (hb0.cell hbl).trans (hc i t hi j v hj)⟩⟩, by show 0 < kk + 1; omega, hlast, by show (0 : Int) ≤ 0; omega, by show (0 : Int) ≤ 40; omega, by unfold i64b; show (-9223372036854775808 : Int) ≤ 0 ∧ (0 : Int) ≤ 9223372036854775807; omega, by show (0 : Int) ≤ 0; omega, by show (0 : Int) ≤ 1000; omega, by unfold i64b; show (-9223372036854775808 : Int) ≤ 1 ∧ (1 : Int) ≤ 9223372036854775807; omega⟩
    have := heap_alloc_new (u.alloc (.cells #[.int .i64 0, .string { data := #[] }, .int .i64 0, .int .i64 0, .int .i64 0, .int .i64 0, .string { data := #[] }, .slice none 0 0] 28)) (.cells #[.slice (some ⟨b, off, none⟩) (kk + 1) cap, .int .i64 0, .int .i64 0, .int .i64 0, .int .i64 0, .int .i64 1] 87)
    rw [show (u.alloc (.cells #[.int .i64 0, .string { data := #[] }, .int .i64 0, .int .i64 0, .int .i64 0, .int .i64 0, .string { data := #[] }, .slice none 0 0] 28)).heap.size = u.heap.size + 1 by simp] at this
    exact this
  have HRb : Hid ((((u.alloc (.cells #[.int .i64 0, .string { data := #[] }, .int .i64 0, .int .i64 0, .int .i64 0, .int .i64 0, .string { data := #[] }, .slice none 0 0] 28)).alloc (.cells #[.slice (some ⟨b, off, none⟩) (kk + 1) cap, .int .i64 0, .int .i64 0, .int .i64 0, .int .i64 0, .int .i64 1] 87))).heap[u.heap.size]? = some (.cells #[.int .i64 0, .string { data := #[] }, .int .i64 0, .int .i64 0, .int .i64 0, .int .i64 0, .string { data := #[] }, .slice none 0 0] 28 (0, 0))) := blk_alloc (heap_alloc_new u _) _
  have hsz : (((u.alloc (.cells #[.int .i64 0, .string { data := #[] }, .int .i64 0, .int .i64 0, .int .i64 0, .int .i64 0, .string { data := #[] }, .slice none 0 0] 28)).alloc (.cells #[.slice (some ⟨b, off, none⟩) (kk + 1) cap, .int .i64 0, .int .i64 0, .int .i64 0, .int .i64 0, .int .i64 1] 87))).heap.size = u.heap.size + 1 + 1 := by simp
  have HBe : Hid (Below u.heap.size u ((u.alloc (.cells #[.int .i64 0, .string { data := #[] }, .int .i64 0, .int .i64 0, .int .i64 0, .int .i64 0, .string { data := #[] }, .slice none 0 0] 28)).alloc (.cells #[.slice (some ⟨b, off, none⟩) (kk + 1) cap, .int .i64 0, .int .i64 0, .int .i64 0, .int .i64 0, .int .i64 1] 87))) := ((Below.refl _ _).alloc (Nat.le_refl _) _).alloc (by simp) _
  have HS : Hid (Sx ((u.alloc (.cells #[.int .i64 0, .string { data := #[] }, .int .i64 0, .int .i64 0, .int .i64 0, .int .i64 0, .string { data := #[] }, .slice none 0 0] 28)).alloc (.cells #[.slice (some ⟨b, off, none⟩) (kk + 1) cap, .int .i64 0, .int .i64 0, .int .i64 0, .int .i64 0, .int .i64 1] 87)) (u.heap.size + 1) (some ⟨b, off, none⟩) (kk + 1) cap ts (((u.alloc (.cells #[.int .i64 0, .string { data := #[] }, .int .i64 0, .int .i64 0, .int .i64 0, .int .i64 0, .string { data := #[] }, .slice none 0 0] 28)).alloc (.cells #[.slice (some ⟨b, off, none⟩) (kk + 1) cap, .int .i64 0, .int .i64 0, .int .i64 0, .int .i64 0, .int .i64 1] 87))).heap.size (.slice none 0 0) [] ((((u.alloc (.cells #[.int .i64 0, .string { data := #[] }, .int .i64 0, .int .i64 0, .int .i64 0, .int .i64 0, .string { data := #[] }, .slice none 0 0] 28)).alloc (.cells #[.slice (some ⟨b, off, none⟩) (kk + 1) cap, .int .i64 0, .int .i64 0, .int .i64 0, .int .i64 0, .int .i64 1] 87))).alloc (.cells #[.int .i64 1, .string { data := #[] }, .int .i64 0, .int .i64 0, .int .i64 0, .int .i64 q.pos, .string { data := #[] }, .slice none 0 0] 28)) (⟨0, 0, 0, 0, 1⟩ : Gs) [(u.heap.size + 1 + 1, #[.int .i64 1, .string { data := #[] }, .int .i64 0, .int .i64 0, .int .i64 0, .int .i64 q.pos, .string { data := #[] }, .slice none 0 0])] (.slice none 0 0) [] []) := by
    have h := (Sx.begin HGm.out).allocAt #[.int .i64 1, .string { data := #[] }, .int .i64 0, .int .i64 0, .int .i64 0, .int .i64 q.pos, .string { data := #[] }, .slice none 0 0] _ hsz
    exact h
  have HSz : Hid _ := hsz
  obtain ⟨np, hnp⟩ : ∃ np, np = q.pos := ⟨_, rfl⟩
  rw [← hnp] at d3 HS HNq HPq
  clear h6 hc h5 ht hq h1 h4 htk h2 hlast h0 h3 hne hnpq hnp hsz
  go_enter Tryz.func23, Tryz.ntmps23
  refine wp_seq_k fun K hK => ?_
  have HK : Hid _ := hK
  clear hK
  go_wp2
  refine HK.out _ _ ?_
  clear HK K
  refine wp_seq_k fun K hK => ?_
  have HK : Hid _ := hK
  clear hK
  go_wp2
  refine HK.out _ _ ?_
  clear HK K
  refine wp_seq_k fun K hK => ?_
  have HK : Hid _ := hK
  clear hK
  go_wp2
  refine HK.out _ _ ?_
  clear HK K
  refine wp_seq_k fun K hK => ?_
  have HK : Hid _ := hK
  clear hK
  go_wp2
  refine HK.out _ _ ?_
  clear HK K
  refine wp_seq_k fun K hK => ?_
  have HK : Hid _ := hK
  clear hK
  go_wp2
  refine HK.out _ _ ?_
  clear HK K
  refine wp_asU (g := u.heap.size + 1) (rb := u.heap.size) (nb := u.heap.size + 1 + 1) (a := some ⟨b, off, none⟩) (len := kk + 1) (cap := cap) _ rfl rfl ?_
  intro us
  have hS := HS.out
  rw [← HPq.out] at hS ⊢
  refine tkp_all0 HSim us hS HRb.out (by rw [HSz.out]; omega) (by omega) ⟨Nat.le_refl _, by omega, HBe.out⟩ HG.out (by rw [HPq.out]; exact HNq.out)

end Go.Proofs.YtlekfcehmlepkaaGreatDoor

namespace Go.Proofs.YtlekfcehmlepkaaGreatDoor
set_option linter.unusedVariables false
set_option linter.unusedSimpArgs false

theorem qtk_len (q : Int) : ∀ (f : Nat) (s : List Int) (i : Int) (out : List Int), (qtk q f s i out).2.2 = 0 → ((qtk q f s i out).1.length : Int) + 2 * i ≤ out.length + 2 * (qtk q f s i out).2.1
  | 0, s, i, out, h => by simp [qtk] at h
  | f + 1, [], i, out, h => by simp [qtk] at h
  | f + 1, c :: r, i, out, h => by
    rw [qtk] at h ⊢
    by_cases h1 : c = q
    · rw [if_pos h1]; simp only; omega
    rw [if_neg h1] at h ⊢
    by_cases h2 : c = 0 ∨ c = 10
    · rw [if_pos h2] at h; simp at h
    rw [if_neg h2] at h ⊢
    by_cases h3 : c = 92
    · rw [if_pos h3] at h ⊢
      by_cases h4 : (qesc r).2 = 0
      · rw [if_pos h4] at h; simp at h
      · rw [if_neg h4] at h ⊢
        have := qtk_len q f _ _ _ h
        have hq := (qesc_le r).2.2
        rw [List.length_append] at this
        omega
    · rw [if_neg h3] at h ⊢
      have := qtk_len q f _ _ _ h
      rw [List.length_append, List.length_singleton] at this
      omega

theorem qtake_len (s : List Int) (h : (qtake s).2.2 = 0) : ((qtake s).1.length : Int) ≤ 2 * (qtake s).2.1 := by
  cases s with
  | nil => simp [qtake] at h
  | cons c r =>
    unfold qtake at h ⊢
    simp only at h ⊢
    by_cases h1 : c = 34 ∨ c = 39
    · rw [if_pos h1] at h ⊢
      have := qtk_len c r.length r 1 [] h
      simp only [List.length_nil] at this
      omega
    · rw [if_neg h1] at h; simp at h

theorem lpc_len2 (s : List Int) (i k : Nat) : (lpc s i k).length ≤ k - i := by
  unfold lpc
  rw [List.length_drop, List.length_take]
  omega

theorem ltok_len {s : List Int} {i : Nat} {d : List Int} {t : Tk} {k : Nat} (hi : i < s.length) (h : ltok s i d = .inl (t, k)) : i < k ∧ k ≤ s.length ∧ t.text.length ≤ 2 * (k - i) ∧ t.doc = d ∧ t.pos = i ∧ (0 ≤ t.kind ∧ t.kind ≤ 4) ∧ 0 ≤ t.n ∧ t.n ≤ 18446744073709551615 := by
  unfold ltok at h
  have h0 := lrun_ge lletter s s.length (s.length - (i + 1)) (i + 1)
  have h1 := lrun_le lletter s s.length (s.length - (i + 1)) (i + 1) (by omega)
  by_cases k1 : lletter (s.getD i 0) = true
  · rw [if_pos k1] at h
    simp only at h
    by_cases k2 : lnumb (s.getD i 0) = true
    · rw [if_pos k2] at h
      by_cases k3 : (qnum (lpc s i (lrun lletter s s.length (s.length - (i + 1)) (i + 1)))).2 = true
      · rw [if_pos k3] at h
        cases h
        refine ⟨by omega, h1, by simp, rfl, rfl, by simp only; omega, (qnum_bd _).1, (qnum_bd _).2⟩
      · rw [if_neg k3] at h; cases h
    · rw [if_neg k2] at h
      cases h
      refine ⟨by omega, h1, ?_, rfl, rfl, by simp only; omega, by simp only; omega, by simp only; omega⟩
      have := lpc_len2 s i (lrun lletter s s.length (s.length - (i + 1)) (i + 1))
      simp only
      omega
  · rw [if_neg k1] at h
    by_cases k2 : s.getD i 0 = 34 ∨ s.getD i 0 = 39
    · rw [if_pos k2] at h
      by_cases k3 : (qtake (s.drop i)).2.2 = 0
      · rw [if_pos k3] at h
        cases h
        have h2 := qtake_len _ k3
        have h3 := qtake_place (s.drop i)
        have h4 := qtake_app (s.drop i) [] k3
        rw [List.length_drop] at h3
        refine ⟨by omega, by omega, ?_, rfl, rfl, by simp only; omega, by simp only; omega, by simp only; omega⟩
        simp only
        omega
      · rw [if_neg k3] at h; cases h
    · rw [if_neg k2] at h
      by_cases k3 : lsign (s.getD i 0) = true
      · rw [if_pos k3] at h
        cases h
        refine ⟨by omega, by omega, ?_, rfl, rfl, by simp only; omega, by simp only; omega, by simp only; omega⟩
        have := lpc_len2 s i (i + 1)
        simp only
        omega
      · rw [if_neg k3] at h; cases h

theorem ldl_len (s : List Int) (marks : List Nat) : ∀ (f frm : Nat) (out : List Int), (ldl s marks f frm out).length ≤ out.length + frm
  | 0, frm, out => by rw [ldl]; omega
  | f + 1, frm, out => by
    rw [ldl]
    by_cases h0 : frm = 0
    · rw [if_pos h0]; omega
    rw [if_neg h0]
    cases h1 : lown s (lnAt s (frm - 1)) (frm - 1) with
    | none => simp only; omega
    | some t =>
      simp only
      by_cases h2 : (linside marks (lnAt s (frm - 1)) || linside marks (frm - 1)) = true
      · rw [if_pos h2]; omega
      · rw [if_neg h2]
        have ih := ldl_len s marks f (lnAt s (frm - 1)) (t ++ [10] ++ out)
        have hl := lnAt_le s (frm - 1)
        have ht : t.length ≤ frm - 1 - lnAt s (frm - 1) := by
          unfold lown at h1
          simp only at h1
          split at h1
          · have hg := lrun_ge lblank s (frm - 1) (frm - 1 - lnAt s (frm - 1)) (lnAt s (frm - 1))
            simp only [Option.some.injEq] at h1
            rw [← h1, List.length_drop, List.length_take]
            omega
          · cases h1
        simp only [List.length_append, List.length_singleton] at ih
        omega

theorem ldoc_len (s : List Int) (k : Nat) (marks : List Nat) : (ldoc s k marks).length ≤ k := by
  unfold ldoc
  split
  · have := ldl_len s marks (lnAt s k) (lnAt s k) []
    have := lnAt_le s k
    simp only [List.length_nil] at *
    omega
  · simp

def TkFit (n : Nat) (t : Tk) : Prop := t.text.length ≤ 2 * n ∧ t.doc.length ≤ n ∧ t.pos ≤ n ∧ (0 ≤ t.kind ∧ t.kind ≤ 4) ∧ 0 ≤ t.n ∧ t.n ≤ 18446744073709551615

def tsum : List Tk → Nat
  | [] => 0
  | t :: r => t.text.length + 1 + tsum r

theorem tsum_append : ∀ (a b : List Tk), tsum (a ++ b) = tsum a + tsum b
  | [], b => by simp [tsum]
  | t :: r, b => by simp [tsum, tsum_append r b]; omega

theorem lsc_fit (s : List Int) : ∀ (f i0 : Nat) (out : List Tk) (marks : List Nat), i0 ≤ s.length → (∀ t ∈ out, TkFit s.length t) → tsum out ≤ 3 * i0 →
    (∀ t ∈ (lsc s f i0 out marks).1, TkFit s.length t) ∧ tsum (lsc s f i0 out marks).1 ≤ 3 * s.length + 1
  | 0, i0, out, marks, _, _, _ => ⟨fun t ht => absurd (show t ∈ ([] : List Tk) from ht) (by simp), by simp [lsc, tsum]⟩
  | f + 1, i0, out, marks, hi0, hout, hsum => by
    have hg := lrun_ge lblank s s.length (s.length - i0) i0
    have hl := lrun_le lblank s s.length (s.length - i0) i0 hi0
    rw [lsc]
    simp only
    generalize lrun lblank s s.length (s.length - i0) i0 = i at hg hl ⊢
    by_cases h1 : i = s.length
    · rw [if_pos h1]
      simp only
      refine ⟨fun t ht => ?_, ?_⟩
      · rcases List.mem_append.1 ht with ht | ht
        · exact hout t ht
        · simp only [List.mem_cons, List.not_mem_nil, or_false] at ht
          subst ht
          exact ⟨by simp, by have := ldoc_len s i marks; simp only; omega, by simp only; omega, by simp only; omega, by simp only; omega, by simp only; omega⟩
      · rw [tsum_append]
        simp only [tsum, List.length_nil]
        omega
    rw [if_neg h1]
    by_cases h2 : i + 1 < s.length ∧ s.getD i 0 = 47 ∧ s.getD (i + 1) 0 = 47
    · rw [if_pos h2]
      have hg2 := lrun_ge leol s s.length (s.length - i) i
      have hl2 := lrun_le leol s s.length (s.length - i) i (by omega)
      exact lsc_fit s f _ out marks hl2 hout (by omega)
    rw [if_neg h2]
    by_cases h3 : i + 1 < s.length ∧ s.getD i 0 = 47 ∧ s.getD (i + 1) 0 = 42
    · rw [if_pos h3]
      have hc := lcl_ge s (s.length - (i + 2)) (i + 2)
      by_cases h4 : lcl s (s.length - (i + 2)) (i + 2) + 1 < s.length
      · rw [if_pos h4]
        exact lsc_fit s f _ out _ (by omega) hout (by omega)
      · rw [if_neg h4]
        exact ⟨fun t ht => absurd (show t ∈ ([] : List Tk) from ht) (by simp), by simp [tsum]⟩
    rw [if_neg h3]
    cases h4 : ltok s i (ldoc s i marks) with
    | inr p => exact ⟨fun t ht => absurd (show t ∈ ([] : List Tk) from ht) (by simp), by simp [tsum]⟩
    | inl p =>
      obtain ⟨t, k⟩ := p
      have ht := ltok_len (by omega) h4
      refine lsc_fit s f k (out ++ [t]) marks ht.2.1 (fun u hu => ?_) ?_
      · rcases List.mem_append.1 hu with hu | hu
        · exact hout u hu
        · simp only [List.mem_cons, List.not_mem_nil, or_false] at hu
          subst hu
          have hd := ldoc_len s i marks
          refine ⟨by omega, by rw [ht.2.2.2.1]; omega, by rw [ht.2.2.2.2.1]; omega, ht.2.2.2.2.2⟩
      · rw [tsum_append]
        simp only [tsum]
        omega

theorem lscan_fit (s : List Int) : (∀ t ∈ (lscan s).1, TkFit s.length t) ∧ tsum (lscan s).1 ≤ 3 * s.length + 1 := by
  unfold lscan
  split
  · exact ⟨fun t ht => absurd (show t ∈ ([] : List Tk) from ht) (by simp), by simp [tsum]⟩
  · exact lsc_fit s _ 0 [] [] (by omega) (by simp) (by simp [tsum])

end Go.Proofs.YtlekfcehmlepkaaGreatDoor

namespace Go.Proofs.YtlekfcehmlepkaaGreatDoor
open Go.RowKit
set_option linter.unusedVariables false
set_option linter.unusedSimpArgs false

def Tk.tq2 (t : Tk) : Tq := ⟨t.kind, t.text, t.n, (t.pos : Int), t.doc⟩

def gfile (s : List Int) : Pn × Int × Int := if (lscan s).2.2 ≠ 0 then (pnil, (lscan s).2.1, (lscan s).2.2) else gtokens ((lscan s).1.map Tk.tq2)

theorem gsum_map : ∀ l : List Tk, gsum (l.map Tk.tq2) = tsum l
  | [] => rfl
  | t :: r => by rw [List.map_cons, gsum, tsum, gsum_map r]; rfl

theorem Ts.tqs {w : World} {a : Option Addr} {len cap : Nat} {l : List Tk} {n : Nat} (h : Ts w a len cap l) (hok : ∀ t ∈ l, t.ok) (hf : ∀ t ∈ l, TkFit n t) (hs : tsum l ≤ 90000) (hn : n ≤ 2500) (hln : len ≤ 1000000) : Tqs w w.heap.size a len cap (l.map Tk.tq2) := by
  obtain ⟨h1, h2, h3, h4, h5⟩ := h
  refine ⟨by rw [List.length_map]; exact h1, by omega, h2, h3, ⟨fun t ht => ?_, by rw [gsum_map]; exact hs⟩, fun hp => ?_⟩
  · obtain ⟨u, hu, rfl⟩ := List.mem_map.1 ht
    obtain ⟨f1, f2, f3, f4, f5, f6⟩ := hf u hu
    obtain ⟨o1, o2⟩ := hok u hu
    exact ⟨by unfold i64b; show -9223372036854775808 ≤ u.kind ∧ u.kind ≤ 9223372036854775807; omega, o1, ⟨f5, f6⟩, by unfold i64b; show -9223372036854775808 ≤ (u.pos : Int) ∧ (u.pos : Int) ≤ 9223372036854775807; omega, o2, by show u.text.length ≤ 5000; omega, by show u.doc.length ≤ 1000000; omega⟩
  · obtain ⟨b, off, e, hlt, hc⟩ := h5 hp
    refine ⟨b, off, e, hlt, hlt, fun i t hi j v hj => ?_⟩
    rw [List.getElem?_map, Option.map_eq_some_iff] at hi
    obtain ⟨u, hu, rfl⟩ := hi
    obtain ⟨c0, c1, c2, c3, c4⟩ := hc i u hu
    match j, hj with
    | 0, hj => simp only [Tk.tq2, Tq.cells, List.getElem?_cons_zero, Option.some.injEq] at hj; rw [← hj]; exact c0
    | 1, hj => simp only [Tk.tq2, Tq.cells, List.getElem?_cons_succ, List.getElem?_cons_zero, Option.some.injEq] at hj; rw [← hj]; exact c1
    | 2, hj => simp only [Tk.tq2, Tq.cells, List.getElem?_cons_succ, List.getElem?_cons_zero, Option.some.injEq] at hj; rw [← hj]; exact c2
    | 3, hj => simp only [Tk.tq2, Tq.cells, List.getElem?_cons_succ, List.getElem?_cons_zero, Option.some.injEq] at hj; rw [← hj]; exact c3
    | 4, hj => simp only [Tk.tq2, Tq.cells, List.getElem?_cons_succ, List.getElem?_cons_zero, Option.some.injEq] at hj; rw [← hj]; exact c4
    | j + 5, hj => simp [Tk.tq2, Tq.cells] at hj

theorem fin_tok {w W : World} {t : Tn} {act : Act} {m : Pn × Int × Int} {a0 a1 a2 a3 a4 a5 a6 a7 : Value} (ht : TnOk W t) (hb : ∀ b ∈ t.blocks, w.heap.size < b ∧ b < W.heap.size) (hB : Below w.heap.size w W) (HRb : W.heap[w.heap.size]? = some (.cells #[a0, a1, a2, a3, a4, a5, a6, a7] 28 (0, 0)))
    (x0 x1 x2 x3 x4 x5 x6 x7 : Value) (hx : t.cells = [x0, x1, x2, x3, x4, x5, x6, x7]) {fn : Func} (hres : fn.results = #[.cell 2 28, .tmp 3, .tmp 4]) (hp : act.tmps.getD 2 undef = .pointer (some ⟨w.heap.size, 0, none⟩)) (hd : act.defers = []) (hm : t.plain = m.1 ∧ act.tmps.getD 3 undef = .int .i64 m.2.1 ∧ act.tmps.getD 4 undef = .int .i64 m.2.2) :
    bodyPost Tryz.prog fn (TokRet w m) .ret act ((((((((W.setCell ⟨w.heap.size, 0, none⟩ x0).setCell ⟨w.heap.size, 1, none⟩ x1).setCell ⟨w.heap.size, 2, none⟩ x2).setCell ⟨w.heap.size, 3, none⟩ x3).setCell ⟨w.heap.size, 4, none⟩ x4).setCell ⟨w.heap.size, 5, none⟩ x5).setCell ⟨w.heap.size, 6, none⟩ x6).setCell ⟨w.heap.size, 7, none⟩ x7) := by
  have hh := eight_put HRb x0 x1 x2 x3 x4 x5 x6 x7
  have hown := eight_own W w.heap.size x0 x1 x2 x3 x4 x5 x6 x7
  refine nd3_ret hres w.heap.size _ _ _ _ _ _ _ _ hp hh hd ⟨t, by rw [Tn.val, hx, hm.2.1, hm.2.2], hm.1, ht.moved hown (fun b hbb e => ?_), fun b hbb => ⟨?_, ?_⟩, ?_⟩
  · simp only [Option.some.injEq] at e
    have := (hb b hbb).1
    omega
  · have := (hb b hbb).1
    omega
  · simp only [set_size]
    exact (hb b hbb).2
  · exact ⟨hown.os.trans hB.os, hown.tape.trans hB.tape, hown.output.trans hB.output, Nat.le_trans hB.size hown.size, fun k hk => (hown.block k (Nat.lt_of_lt_of_le hk hB.size) (by simp; omega)).trans (hB.block k hk)⟩

set_option maxHeartbeats 4000000 in
theorem rgfile_any0 (s : List Int) (HSim : Hid (Sim ((lscan s).1.map Tk.tq2))) (w : World) (hz : Hid (∀ i, 0 ≤ s.getD i 0 ∧ s.getD i 0 ≤ 255)) (hlen : s.length ≤ 2500) :
    Calls Tryz.prog 14 #[.string (strOfNums s)] w (TokRet w (gfile s)) := by
  have HB0 : Hid (Below w.heap.size w (w.alloc (.cells #[.int .i64 0, .string { data := #[] }, .int .i64 0, .int .i64 0, .int .i64 0, .int .i64 0, .string { data := #[] }, .slice none 0 0] 28))) := (Below.refl _ _).alloc (Nat.le_refl _) _
  have HR0 : Hid ((w.alloc (.cells #[.int .i64 0, .string { data := #[] }, .int .i64 0, .int .i64 0, .int .i64 0, .int .i64 0, .string { data := #[] }, .slice none 0 0] 28)).heap[w.heap.size]? = some (.cells #[.int .i64 0, .string { data := #[] }, .int .i64 0, .int .i64 0, .int .i64 0, .int .i64 0, .string { data := #[] }, .slice none 0 0] 28 (0, 0))) := heap_alloc_new w _
  have QS : Hid _ := rscan_any s (w.alloc (.cells #[.int .i64 0, .string { data := #[] }, .int .i64 0, .int .i64 0, .int .i64 0, .int .i64 0, .string { data := #[] }, .slice none 0 0] 28)) hz (by omega)
  obtain ⟨hfit, hsum⟩ := lscan_fit s
  have HFit : Hid _ := hfit
  have HSum : Hid (tsum (lscan s).1 ≤ 90000) := by show _ ≤ _; omega
  have HLl : Hid ((lscan s).1.length ≤ 1000000) := by show _ ≤ _; have := lscan_len s; omega
  have HN : Hid (s.length ≤ 2500) := hlen
  generalize strOfNums s = T at *
  by_cases he : (lscan s).2.2 = 0
  · obtain ⟨out, d, hR, hK⟩ := lscan_kinds s he
    have HG : Hid (gfile s = gtokens ((lscan s).1.map Tk.tq2)) := by show _ = _; unfold gfile; rw [if_neg (by simpa using he)]
    have HL0 : Hid (0 < (lscan s).1.length) := by show 0 < _; rw [hR]; simp
    have HLk : Hid ((((lscan s).1.map Tk.tq2).getD ((lscan s).1.length - 1) Tq.none).kind = 0) := by
      show _ = _
      rw [hR]
      simp [List.getD, Tk.tq2]
    rw [HG.out]
    obtain ⟨R, hRR⟩ : ∃ R, R = lscan s := ⟨_, rfl⟩
    rw [← hRR] at HSim QS HFit HSum HLl HL0 HLk he ⊢
    clear hRR hR hK hfit hsum hlen
    obtain ⟨l, p, e9⟩ := R
    simp only at HSim he HFit HSum HLl HL0 HLk ⊢
    subst he
    go_enter Tryz.func14, Tryz.ntmps14
    go_wp2_with fail
    refine Calls.mono QS.out ?_
    rintro e w1 ⟨v, rfl, hto, hb1⟩
    have HB1 : Hid (Below w.heap.size w w1) := HB0.out.trans (hb1.mono HB0.out.size)
    have HR1 : Hid (w1.heap[w.heap.size]? = some (.cells #[.int .i64 0, .string { data := #[] }, .int .i64 0, .int .i64 0, .int .i64 0, .int .i64 0, .string { data := #[] }, .slice none 0 0] 28 (0, 0))) := (hb1.block _ (by simp)).trans HR0.out
    obtain ⟨a2', c2', rfl⟩ := hto.slice
    have HTq : Hid (Tqs w1 w1.heap.size a2' l.length c2' (l.map Tk.tq2)) := (Ts.of_own hto).tqs hto.2 HFit.out HSum.out HN.out HLl.out
    have QT : Hid _ := rgtokens_any0 HSim HTq HL0.out HLk.out
    have hs1 : w.heap.size < w1.heap.size := (Array.getElem?_eq_some_iff.1 HR1.out).1
    clear hto hb1
    go_wp2_with fail
    refine Calls.mono QT.out ?_
    rintro e w2 ⟨t, rfl, htp, htk, htb, hb2⟩
    have HB2 : Hid (Below w.heap.size w w2) := HB1.out.trans (hb2.mono HB1.out.size)
    have HR2 : Hid (w2.heap[w.heap.size]? = some (.cells #[.int .i64 0, .string { data := #[] }, .int .i64 0, .int .i64 0, .int .i64 0, .int .i64 0, .string { data := #[] }, .slice none 0 0] 28 (0, 0))) := (hb2.block _ hs1).trans HR1.out
    have hs2 : w.heap.size < w2.heap.size := (Array.getElem?_eq_some_iff.1 HR2.out).1
    have HTP : Hid (t.plain = (gtokens (l.map Tk.tq2)).1) := htp
    have HTK : Hid (TnOk w2 t) := htk
    have HTB : Hid (∀ b ∈ t.blocks, w.heap.size < b ∧ b < w2.heap.size) := fun b hb => ⟨by have := (htb b hb).1; omega, (htb b hb).2⟩
    clear htp htk htb hb2
    obtain ⟨⟨r0, r1, r2, r3, r4, r5, r6, r7⟩, u0, u1, u2, u3, u4, u5, u6, u7⟩ := eight_cells (HR2.out)
    obtain ⟨k2, tx2, n2, m2, a2, p2, dc2, ad2, cap2, ks2⟩ := t
    simp only [Tn.val, Tn.cells]
    obtain ⟨X2, hX2⟩ : ∃ X2, X2 = strOfNums tx2 := ⟨_, rfl⟩
    obtain ⟨D2, hD2⟩ : ∃ D2, D2 = strOfNums dc2 := ⟨_, rfl⟩
    rw [← hX2, ← hD2]
    have HX2 : Hid (X2 = strOfNums tx2) := hX2
    have HD2 : Hid (D2 = strOfNums dc2) := hD2
    clear hX2 hD2
    obtain ⟨M, hM⟩ : ∃ M, M = gtokens (l.map Tk.tq2) := ⟨_, rfl⟩
    rw [← hM] at HTP ⊢
    have HM0 : Hid (M = gtokens (l.map Tk.tq2)) := hM
    clear hM
    obtain ⟨M1, M2, M3⟩ := M
    simp only
    go_wp2
    rw [← HM0.out]
    refine fin_tok (m := (M1, M2, M3)) HTK.out HTB.out HB2.out HR2.out (.int .i64 k2) (.string X2) (.int .i64 n2) (.int .i64 m2) (.int .i64 a2) (.int .i64 p2) (.string D2) (.slice ad2 ks2.length cap2) (by rw [Tn.cells, HX2.out, HD2.out]) rfl ?_ ?_ ?_
    · rfl
    · rfl
    · exact ⟨HTP.out, rfl, rfl⟩
  · have HG : Hid (gfile s = (pnil, (lscan s).2.1, (lscan s).2.2)) := by show _ = _; unfold gfile; rw [if_pos (by simpa using he)]
    rw [HG.out]
    obtain ⟨R, hRR⟩ : ∃ R, R = lscan s := ⟨_, rfl⟩
    rw [← hRR] at HSim QS he ⊢
    clear hRR HG HFit HSum HLl hfit hsum hlen
    obtain ⟨l, p, e9⟩ := R
    simp only at he ⊢
    have e1 : (e9 != 0) = true := by simpa using he
    clear he
    go_enter Tryz.func14, Tryz.ntmps14
    go_wp2_with fail
    refine Calls.mono QS.out ?_
    rintro e w1 ⟨v, rfl, hto, hb1⟩
    have HB1 : Hid (Below w.heap.size w w1) := HB0.out.trans (hb1.mono HB0.out.size)
    have HR1 : Hid (w1.heap[w.heap.size]? = some (.cells #[.int .i64 0, .string { data := #[] }, .int .i64 0, .int .i64 0, .int .i64 0, .int .i64 0, .string { data := #[] }, .slice none 0 0] 28 (0, 0))) := (hb1.block _ (by simp)).trans HR0.out
    have hs1 : w.heap.size < w1.heap.size := (Array.getElem?_eq_some_iff.1 HR1.out).1
    obtain ⟨a2', c2', rfl⟩ := hto.slice
    obtain ⟨⟨r0, r1, r2, r3, r4, r5, r6, r7⟩, u0, u1, u2, u3, u4, u5, u6, u7⟩ := eight_cells (HR1.out)
    clear hto hb1
    go_wp2
    refine fin_tok (m := (pnil, p, e9)) (t := .mk 0 [] 0 0 0 0 [] none 0 []) (leaf_ok _ (by unfold i64b; omega) (fun c hc => by simp at hc) (by simp) (by unfold i64b; omega)) (fun b hb => by simp [Tn.blocks, blocksL] at hb) HB1.out HR1.out (.int .i64 0) (.string { data := #[] }) (.int .i64 0) (.int .i64 0) (.int .i64 0) (.int .i64 0) (.string { data := #[] }) (.slice none 0 0) rfl rfl ?_ ?_ ?_
    · rfl
    · rfl
    · exact ⟨rfl, rfl, rfl⟩

def srcA : List Int := [109, 101, 115, 115, 97, 103, 101, 32, 65, 32, 123, 32, 111, 112, 116, 105, 111, 110, 97, 108, 32, 105, 110, 116, 51, 50, 32, 98, 32, 61, 32, 49, 59, 32, 125]

theorem gfile_a : gfile srcA = (.mk 1 [] 0 0 0 0 [] [.mk 5 [65] 0 0 0 0 [] [.mk 9 [98] 1 0 1 12 [] [.mk 18 [105, 110, 116, 51, 50] 0 0 0 21 [] []]]], 0, 0) := by kernel_rfl

theorem sim_a : Sim ((lscan srcA).1.map Tk.tq2) := Sim.of (by kernel_rfl)

end Go.Proofs.YtlekfcehmlepkaaGreatDoor
