/- The contract of the program's own Doc. -/
import Derived.Test.YtjkcmcefmciinaaDoorLPe
import Derived.Test.YtjkcmcefmciinaaDoorLBack
import Derived.Lib.MinMax
namespace Go.Proofs.YtjkcmcefmciinaaDoor
open Go.RowKit
set_option linter.unusedVariables false
set_option linter.unusedSimpArgs false

theorem ldcs_line : ∀ (t l : List Int), (t ≠ [] ∨ l ≠ []) → ldcs l t = [47, 47] ++ l ++ t.takeWhile leol ++ [10] ++ ldcs [] (t.drop ((t.takeWhile leol).length + 1))
  | [], l, h => by
    cases l with
    | nil => simp at h
    | cons c r => simp [ldcs]
  | c :: r, l, h => by
    rw [ldcs]
    by_cases k : c = 10
    · subst k
      simp [leol]
    · have hl : leol c = true := decide_eq_true k
      rw [if_neg k, ldcs_line r (l ++ [c]) (.inr (by simp)), List.takeWhile_cons, if_pos hl]
      simp

theorem ldocs_line (t : List Int) (h : t ≠ []) : ldocs t = [47, 47] ++ t.takeWhile leol ++ [10] ++ ldocs (t.drop ((t.takeWhile leol).length + 1)) := by
  unfold ldocs
  rw [ldcs_line t [] (.inl h)]
  simp

theorem more_below {w w3 w4 : World} {n : Nat} {v : Value} {xs : List Value} (ob : Obj) (hB : Below w.heap.size w w3) (ho : w3.ownsRow w.heap.size 5 1 v n xs) (hg : (w3.alloc ob).grownBy w4 v.ownBlock) : Below w.heap.size w w4 :=
  (hB.alloc hB.size ob).grown hg (Nat.le_trans hB.size (by simp)) (fun k hk => ((ho.alloc ob).lt k hk).1)

def strLen : Value → Nat
  | .string s => s.size
  | _ => 0

/-- What holds at Doc's label. -/
def OJ (w : World) (R : List Int) (N : Nat) (a' : Act) (wr : World) : Prop :=
  ∃ (t out : List Int) (v : Value) (us : Nat → Value), a' = { tmps := #[.string (strOfNums t), undef, .string { data := #[] }, v, us 4, us 5, us 6, us 7, us 8, us 9, us 10, us 11, us 12, us 13, us 14, us 15, us 16, us 17, us 18, us 19, us 20, us 21, us 22, us 23, us 24, us 25, us 26], defers := [] } ∧
    Hid (R = out ++ ldocs t) ∧ out.length + 4 * t.length ≤ N ∧ Hid (∀ c ∈ t, 0 ≤ c ∧ c ≤ 255) ∧ Hid (∀ c ∈ out, 0 ≤ c ∧ c ≤ 255) ∧ Hid (wr.ownsRow w.heap.size 5 1 v out.length (out.map (Value.int .u8))) ∧ Hid (Below w.heap.size w wr)

theorem OJ.mk {w : World} {R : List Int} {N : Nat} {a' : Act} {wr : World} (t out : List Int) (v : Value) (us : Nat → Value) (_hu : us = fun k => a'.tmps.getD k undef) (h1 : a' = { tmps := #[.string (strOfNums t), undef, .string { data := #[] }, v, us 4, us 5, us 6, us 7, us 8, us 9, us 10, us 11, us 12, us 13, us 14, us 15, us 16, us 17, us 18, us 19, us 20, us 21, us 22, us 23, us 24, us 25, us 26], defers := [] })
    (h2 : R = out ++ ldocs t) (h3 : out.length + 4 * t.length ≤ N) (h4 : ∀ c ∈ t, 0 ≤ c ∧ c ≤ 255) (h5 : ∀ c ∈ out, 0 ≤ c ∧ c ≤ 255) (h6 : wr.ownsRow w.heap.size 5 1 v out.length (out.map (Value.int .u8))) (h7 : Below w.heap.size w wr) : OJ w R N a' wr :=
  ⟨t, out, v, us, h1, h2, h3, h4, h5, h6, h7⟩

set_option maxRecDepth 10000 in
set_option maxHeartbeats 1000000 in
theorem pdocs_any (s : List Int) (w : World) (hT : Hid (LTab w)) (hz : Hid (∀ i, 0 ≤ s.getD i 0 ∧ s.getD i 0 ≤ 255)) (hlen : (s.length : Int) ≤ 100000) :
    Calls Tryd.prog 16 #[.string (strOfNums s)] w fun e w' => e = .returned (.string (strOfNums (ldocs s))) ∧ Below w.heap.size w w' := by
  have HTB : Hid (∀ W, Below w.heap.size w W → LTab W) := fun W hW => hT.out.below hW (Nat.le_refl _)
  obtain ⟨R, hR⟩ : ∃ R, R = ldocs s := ⟨_, rfl⟩
  rw [← hR]
  have HR : Hid (R = ldocs s) := hR
  clear hR
  go_enter Tryd.func16, Tryd.ntmps16
  go_wp2
  refine wp_scope_loop 0 (OJ w R 400000) (fun a' _ => strLen (a'.tmps.getD 0 undef)) rfl ?_ ?_
  · intro HJ
    go_wp2
    go_step3
    rename_i hK
    refine hK _ _ ?_
    refine HJ.out _ _ ?_
    exact OJ.mk s [] (.slice none 0 0) _ rfl rfl HR.out (by simp; omega) (mem_bd hz.out) (by simp) (World.ownsRow_nil _ _ _ _) (Below.refl _ _)
  · rintro a' wr ⟨t, out, v, us, rfl, HR, hN, HTb, HOb, HO, HB⟩
    by_cases ht : t = []
    · subst ht
      have hne : ((strOfNums ([] : List Int)).toList == []) = true := by rw [str_list]; rfl
      generalize strOfNums ([] : List Int) = S at hne
      obtain ⟨a, c, rfl⟩ := own_slice HO.out
      have hcv := (Bs.of_owns HO.out HOb.out).conv
      go_wp2
      simp only [Exit.jump]
      go_ret
      exact ⟨by rw [HR.out]; simp [ldocs, ldcs], HB.out⟩
    · have hne : ((strOfNums t).toList == []) = false := by
        cases t with
        | nil => exact absurd rfl ht
        | cons c r => exact str_ne c r
      have hsz := strOfNums_size t
      have htl : 0 < t.length := List.length_pos_iff.2 ht
      have q := fun hW => pfirst_any t wr hW HTb.out (by omega)
      obtain ⟨l, hl⟩ : ∃ l, l = t.takeWhile leol := ⟨_, rfl⟩
      have E := HR.out
      rw [ldocs_line t ht, ← hl] at E
      rw [← hl] at q
      have hls := strOfNums_size l
      have hll : l.length ≤ t.length := by rw [hl]; exact (List.takeWhile_sublist _).length_le
      have hlb : ∀ c ∈ l, 0 ≤ c ∧ c ≤ 255 := fun c hc => HTb.out c (by rw [hl] at hc; exact (List.takeWhile_sublist _).subset hc)
      obtain ⟨m, hm⟩ : ∃ m, m = min (l.length + 1) t.length := ⟨_, rfl⟩
      have hmm : min ((l.length : Int) + 1) (t.length : Int) = (m : Int) := by omega
      have hrc := run_cut_to (strOfNums t) m (m : Int) rfl (by omega)
      have hex : (strOfNums t).extract m (strOfNums t).size = strOfNums (t.drop (l.length + 1)) := by
        rw [str_cut, strOfNums_size]
        congr 1
        rcases Nat.lt_or_ge l.length t.length with g | g
        · rw [show m = l.length + 1 by omega, List.take_of_length_le (by simp only [List.length_drop]; omega)]
        · rw [List.drop_eq_nil_of_le (show t.length ≤ m by omega), List.drop_eq_nil_of_le (show t.length ≤ l.length + 1 by omega), List.take_nil]
      rw [hex] at hrc
      have Q : Hid _ := q (HTB.out wr HB.out)
      have HE : Hid _ := E
      have HLB : Hid _ := hlb
      have hwb := HB.out.size
      have HT2 : Hid (∀ c ∈ t.drop (l.length + 1), 0 ≤ c ∧ c ≤ 255) := fun c hc => HTb.out c (List.mem_of_mem_drop hc)
      have ht2 : (t.drop (l.length + 1)).length = t.length - (l.length + 1) := List.length_drop
      generalize t.drop (l.length + 1) = t2 at hrc HE HT2 E ht2
      have hn2 : out.length + 2 ≤ 140737488355328 := by omega
      have hn3 : out.length + 2 + l.length ≤ 140737488355328 := by omega
      have hn4 : out.length + 2 + l.length + 1 ≤ 140737488355328 := by omega
      have HSL : Hid (strLen (.string (strOfNums t2)) < strLen (.string (strOfNums t))) := by
        show (strOfNums t2).size < (strOfNums t).size
        rw [strOfNums_size, strOfNums_size]
        omega
      have HLL : Hid (out.length + 2 + l.length + 1 + 4 * t2.length ≤ 400000) := by show _ ≤ _; omega
      clear q E hl HR hlb hm hex ht
      generalize strOfNums t = S at hne hsz hrc Q HSL
      go_wp2_with fail
      refine Calls.mono Q.out ?_
      rintro e w1 ⟨rfl, hb1⟩
      have HO1 : Hid (w1.ownsRow w.heap.size 5 1 v out.length (out.map (Value.int .u8))) := own_below HO.out hb1
      have HB1 : Hid (Below w.heap.size w w1) := HB.out.trans (hb1.mono HB.out.size)
      have hs1 := HB1.out.size
      clear hb1
      go_wp2_with (first
        | (at_builtin; refine wpList_append_str rfl _ _ rfl w.heap.size _ _ _ [47, 47] _ rfl rfl rfl HO1.out (by decide) hn2 hs1 ?_; intro v2 w2 hown2 hgrow2; have HB2 : Hid (Below w.heap.size w w2) := HB1.out.grown hgrow2 hs1 (fun k hk => (HO1.out.lt k hk).1); have hs2 := HB2.out.size; clear hgrow2 hs1)
        | (at_builtin; refine wpList_append_str rfl _ _ rfl w.heap.size _ _ _ l _ rfl rfl rfl hown2 HLB.out hn3 hs2 ?_; intro v3 w3 hown3 hgrow3; have HB3 : Hid (Below w.heap.size w w3) := HB2.out.grown hgrow3 hs2 (fun k hk => (hown2.lt k hk).1); have hs3 := HB3.out.size; clear hgrow3 hown2 hs2)
        | (at_builtin; refine wpList_append_bs rfl _ _ rfl w.heap.size _ _ _ _ _ _ [10] rfl rfl (hown3.alloc _) (bs_lit w3 10 (by omega)) hn4 (Nat.le_trans hs3 (by simp)) ?_; intro v4 w4 hown4 hgrow4; have HB4 : Hid (Below w.heap.size w w4) := more_below _ HB3.out hown3 hgrow4; clear hgrow4 hown3 hs3))
      go_step3
      refine ⟨rfl, OJ.mk t2 (out ++ ([47, 47] ++ l ++ [10])) v4 _ rfl rfl ?_ ?_ HT2.out ?_ ?_ HB4.out, ?_⟩
      · rw [HE.out]; simp
      · have := HLL.out; simp only [List.length_append, List.length_cons, List.length_nil]; omega
      · intro c hc
        simp only [List.mem_append, List.mem_cons, List.not_mem_nil, or_false] at hc
        rcases hc with hc | ((hc | hc) | hc) | hc
        · exact HOb.out c hc
        · omega
        · omega
        · exact HLB.out c hc
        · omega
      · have := hown4
        simp only [List.map_append, List.length_append, List.map_cons, List.map_nil, List.length_cons, List.length_nil, Nat.zero_add, List.append_assoc, Nat.add_assoc] at this ⊢
        exact this
      · exact HSL.out

end Go.Proofs.YtjkcmcefmciinaaDoor
