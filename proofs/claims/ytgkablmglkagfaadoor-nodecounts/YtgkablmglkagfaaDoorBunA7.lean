/- Put together by a program out of these texts of mine: PAsk2, PAsk3, NRef3, NRef4, NStr2, NRef5, NPa, NPb, NPc. -/
import Derived.Lib.OthersKept
import Derived.Test.YtgkablmglkagfaaDoorBunA3
import Derived.Test.YtgkablmglkagfaaDoorBunA6

/- The contracts of the program's own some, and of the closure that it answers. -/
namespace Go.Proofs.YtgkablmglkagfaaDoor
open Go.RowKit
set_option linter.unusedVariables false
set_option linter.unusedSimpArgs false

set_option maxRecDepth 10000 in
set_option maxHeartbeats 1000000 in
theorem psome1_any {V : World} {ad : Option Addr} {cap : Nat} (N : Nat) (hN : (N : Int) ≤ 9223372036854775807) (g : Nat) (kf : FuncId) (hin : Goin kf) (caps : Array Value) (R : Bool) (hg : V.heap[g]? = some (.cells #[.func (.func kf) #[] caps] 46 (0, 0)))
    (hf : Calls Tryd.prog kf (#[.slice ad N cap] ++ caps) V fun e V' => e = .returned (.bool R) ∧ Below V.heap.size V V') :
    Calls Tryd.prog 90 #[.slice ad N cap, .pointer (some ⟨g, 0, none⟩)] V fun e V' => e = .returned (.bool (decide (0 < N) && R)) ∧ Below V.heap.size V V' := by
  have hc := one_cell_of hg
  have Q : Hid _ := hf
  have HB : Hid (Below V.heap.size V V) := Below.refl _ _
  clear hf hg
  unfold Goin at hin
  by_cases h0 : 0 < N
  · have e1 : (0 : Int) < (N : Int) := by omega
    rw [decide_eq_true h0, Bool.true_and]
    clear h0
    go_enter Tryd.func90, Tryd.ntmps90
    go_wp2_with fail
    refine Calls.mono Q.out ?_
    rintro e w1 ⟨rfl, hb⟩
    go_wp2
    go_ret
    exact ⟨rfl, hb⟩
  · obtain rfl : N = 0 := by omega
    clear Q
    go_enter Tryd.func90, Tryd.ntmps90
    go_wp2
    go_ret
    exact ⟨rfl, HB.out⟩

set_option maxRecDepth 10000 in
set_option maxHeartbeats 1000000 in
theorem psome_any (W : World) (kind : Int) (h0 : 0 ≤ kind) (h1 : kind ≤ 100) :
    Calls Tryd.prog 62 #[.int .i64 kind] W fun e W' => ∃ f, e = .returned f ∧ AskL W.heap.size W' f (fun l => decide (0 < l.length) && l.all fun t => [kind].contains t.kind) ∧ Below W.heap.size W W' := by
  have hmf : ∀ (fn : Fn) (first cap : Array Value) (w : World), (Instr.makeFunc fn first cap).run Tryd.prog w = .ok (.func fn first cap) w := fun _ _ _ _ => rfl
  have HBA : Hid (Below W.heap.size W (W.alloc (.cells #[.int .i64 kind] 3))) := (Below.refl _ _).alloc (Nat.le_refl _) _
  have Q : Hid _ := ponly_any (W.alloc (.cells #[.int .i64 kind] 3)) W.heap.size 1 [kind] (by simp) (fun j hj => by
    obtain rfl : j = 0 := by simp at hj; omega
    exact one_cell_of (alloc_at _ _ rfl)) (by simp) W.heap.size (Nat.le_refl _)
  go_enter Tryd.func62, Tryd.ntmps62
  go_wp2_with fail
  refine Calls.mono Q.out ?_
  rintro e w1 ⟨f, rfl, ⟨k, caps, rfl, hin, hask⟩, hb⟩
  have hb' : Below W.heap.size W w1 := HBA.out.trans (hb.mono HBA.out.size)
  have HB : Hid (Below W.heap.size W (w1.alloc (.cells #[.func (.func k) #[] caps] 46))) := hb'.alloc hb'.size _
  have fin : Hid (AskL W.heap.size (w1.alloc (.cells #[.func (.func k) #[] caps] 46)) (.func (.func 90) #[] #[.pointer (some ⟨w1.heap.size, 0, none⟩)]) (fun l => decide (0 < l.length) && l.all fun t => [kind].contains t.kind)) := by
    refine ⟨_, _, rfl, Tryd.call90, fun V ad cap kids hV hT hk hs => ?_⟩
    have b0 : V.heap[w1.heap.size]? = _ := (hV.block _ hb'.size (by simp only [World.size_alloc]; omega)).trans (alloc_at w1 _ rfl)
    exact psome1_any kids.length hk.hlen w1.heap.size k hin caps _ b0 (hask V ad cap kids ((Sin.of ((Below.refl _ _).alloc (Nat.le_refl _) _) (Nat.le_refl _)).trans hV) hT hk hs)
  clear Q hb hin hask hb'
  go_wp2
  go_ret
  exact ⟨_, rfl, fin.out, HB.out⟩

end Go.Proofs.YtgkablmglkagfaaDoor

/- The contracts of the program's own typed, and of the closure that it answers. -/
namespace Go.Proofs.YtgkablmglkagfaaDoor
open Go.RowKit
set_option linter.unusedVariables false
set_option linter.unusedSimpArgs false

theorem Kl.take {w : World} {ad : Option Addr} {cap : Nat} {kids : List Tn} (h : Kl w ad cap kids) (n : Nat) (hn : n ≤ kids.length) : Kl w ad cap (kids.take n) := by
  have hl : (kids.take n).length = n := by rw [List.length_take]; omega
  refine ⟨by have := h.hlen; omega, by have := h.hcap; omega, h.hnil, fun hp => ?_, fun i t hi => ?_⟩
  · obtain ⟨b, off, h1, h2, h3⟩ := h.hmem (by omega)
    refine ⟨b, off, h1, h2, fun i t hi => h3 i t ?_⟩
    rw [List.getElem?_take] at hi
    split at hi
    · exact hi
    · cases hi
  · refine h.hall i t ?_
    rw [List.getElem?_take] at hi
    split at hi
    · exact hi
    · cases hi

theorem Kl.drop {w : World} {b off : Nat} {cap : Nat} {kids : List Tn} (h : Kl w (some ⟨b, off, none⟩) cap kids) (n : Nat) (hn : n ≤ kids.length) : Kl w (some ⟨b, off + n * 8, none⟩) (cap - n) (kids.drop n) := by
  have hl : (kids.drop n).length = kids.length - n := List.length_drop ..
  refine ⟨by have := h.hlen; omega, by have := h.hcap; omega, by simp, fun hp => ?_, fun i t hi => ?_⟩
  · obtain ⟨b', off', h1, h2, h3⟩ := h.hmem (by omega)
    cases h1
    refine ⟨b, off + n * 8, rfl, h2, fun i t hi j u hj => ?_⟩
    rw [List.getElem?_drop] at hi
    have := h3 (n + i) t hi j u hj
    rw [show off + n * 8 + i * 8 + j = off + (n + i) * 8 + j by omega]
    exact this
  · rw [List.getElem?_drop] at hi
    exact h.hall _ t hi

theorem Kl.empty {w : World} {ad : Option Addr} {cap : Nat} (h : ad = none → cap = 0) : Kl w ad cap [] := ⟨by simp, by simp, h, fun hp => absurd hp (by simp), fun i t hi => by simp at hi⟩

set_option maxRecDepth 10000 in
set_option maxHeartbeats 4000000 in
theorem ptyped1_any {V : World} (b off cap N cnt : Nat) (hN : (N : Int) ≤ 9223372036854775807) (hcap : N ≤ cap) (hle : cnt ≤ N) (h9 : cnt ≤ 9) (h1 : 0 < cnt) (gc gt gp : Nat) (k1 k2 : FuncId) (hin1 : Goin k1) (hin2 : Goin k2) (caps1 caps2 : Array Value) (R1 R2 : Bool)
    (hgc : V.heap[gc]? = some (.cells #[.int .i64 (cnt : Int)] 3 (0, 0))) (hgt : V.heap[gt]? = some (.cells #[.func (.func k1) #[] caps1] 46 (0, 0))) (hgp : V.heap[gp]? = some (.cells #[.func (.func k2) #[] caps2] 46 (0, 0)))
    (hf1 : ∀ U, Below V.heap.size V U → Calls Tryd.prog k1 (#[.slice (some ⟨b, off, none⟩) cnt cap] ++ caps1) U fun e U' => e = .returned (.bool R1) ∧ Below U.heap.size U U')
    (hf2 : ∀ U, Below V.heap.size V U → Calls Tryd.prog k2 (#[.slice (if cap = cnt then some ⟨b, off, none⟩ else some ⟨b, off + cnt * 8, none⟩) (N - cnt) (cap - cnt)] ++ caps2) U fun e U' => e = .returned (.bool R2) ∧ Below U.heap.size U U') :
    Calls Tryd.prog 88 #[.slice (some ⟨b, off, none⟩) N cap, .pointer (some ⟨gc, 0, none⟩), .pointer (some ⟨gt, 0, none⟩), .pointer (some ⟨gp, 0, none⟩)] V fun e V' => e = .returned (.bool (R1 && R2)) ∧ Below V.heap.size V V' := by
  have c0 := fun x : Ext V => x.cell (one_lt hgc) (one_cell_of hgc)
  have c1 := fun x : Ext V => x.cell (one_lt hgt) (one_cell_of hgt)
  have c2 := fun x : Ext V => x.cell (one_lt hgp) (one_cell_of hgp)
  have Q1 : Hid _ := hf1
  have Q2 : Hid _ := hf2
  unfold Goin at hin1 hin2
  have e1 : (cnt : Int) ≤ (N : Int) := by omega
  clear hgc hgt hgp hf1 hf2
  cases R1 with
  | false =>
    go_enter Tryd.func88, Tryd.ntmps88
    go_wp2_with fail
    refine wp_region_ext V (Below.refl _ _) rfl (by kernel_rfl) ?_
    repeat (go_big_quiet_step (exact Ext.call (fun U hU => Q1.out U hU) _))
    refine wpQuiet_nil ?_
    rintro w5 ⟨⟨_, hb5⟩, rfl⟩
    have HB5 : Hid (Below V.heap.size V w5) := hb5
    clear hb5
    go_wp2
    go_ret
    exact ⟨rfl, HB5.out⟩
  | true =>
    go_enter Tryd.func88, Tryd.ntmps88
    go_wp2_with fail
    refine wp_region_ext V (Below.refl _ _) rfl (by kernel_rfl) ?_
    repeat (go_big_quiet_step (first | (exact Ext.call (fun U hU => Q1.out U hU) _) | (exact Ext.call (fun U hU => Q2.out U hU) _)))
    refine wpQuiet_nil ?_
    rintro w5 ⟨⟨_, hb5⟩, rfl⟩
    have HB5 : Hid (Below V.heap.size V w5) := hb5
    clear hb5
    go_wp2
    all_goals go_ret
    all_goals exact ⟨by simp, HB5.out⟩

set_option maxRecDepth 10000 in
set_option maxHeartbeats 4000000 in
theorem ptyped1_short {V : World} (ad : Option Addr) (cap N cnt : Nat) (hN : (N : Int) ≤ 9223372036854775807) (hle : ¬ cnt ≤ N) (h9 : cnt ≤ 9) (gc gt gp : Nat)
    (hgc : V.heap[gc]? = some (.cells #[.int .i64 (cnt : Int)] 3 (0, 0))) :
    Calls Tryd.prog 88 #[.slice ad N cap, .pointer (some ⟨gc, 0, none⟩), .pointer (some ⟨gt, 0, none⟩), .pointer (some ⟨gp, 0, none⟩)] V fun e V' => e = .returned (.bool false) ∧ Below V.heap.size V V' := by
  have c0 := fun x : Ext V => x.cell (one_lt hgc) (one_cell_of hgc)
  have e1 : decide (cnt ≤ N) = false := decide_eq_false hle
  clear hgc
  go_enter Tryd.func88, Tryd.ntmps88
  go_wp2_with fail
  refine wp_region_ext V (Below.refl _ _) rfl (by kernel_rfl) ?_
  repeat (go_big_quiet_step (fail))
  refine wpQuiet_nil ?_
  rintro w5 ⟨⟨_, hb5⟩, rfl⟩
  have HB5 : Hid (Below V.heap.size V w5) := hb5
  clear hb5
  go_wp2
  go_ret
  exact ⟨rfl, HB5.out⟩

/-- So many types, and options behind them. -/
def ptyp (cnt : Nat) (l : List Tn) : Bool := decide (cnt ≤ l.length) && (((l.take cnt).all fun t => [18].contains t.kind) && ((l.drop cnt).all fun t => [4].contains t.kind))

set_option maxRecDepth 10000 in
set_option maxHeartbeats 2000000 in
theorem ptyped_any (W : World) (cnt : Nat) (h1 : 0 < cnt) (h9 : cnt ≤ 9) :
    Calls Tryd.prog 59 #[.int .i64 (cnt : Int)] W fun e W' => ∃ f, e = .returned f ∧ AskL W.heap.size W' f (ptyp cnt) ∧ Below W.heap.size W W' := by
  have hmf : ∀ (fn : Fn) (first cap : Array Value) (w : World), (Instr.makeFunc fn first cap).run Tryd.prog w = .ok (.func fn first cap) w := fun _ _ _ _ => rfl
  have HBA : Hid (Below W.heap.size W ((W.alloc (.cells #[.int .i64 (cnt : Int)] 3)).alloc (.cells #[.int .i64 18] 3))) := ((Below.refl _ _).alloc (Nat.le_refl _) _).alloc (by simp only [World.size_alloc]; omega) _
  have Q : Hid _ := ponly_any ((W.alloc (.cells #[.int .i64 (cnt : Int)] 3)).alloc (.cells #[.int .i64 18] 3)) (W.heap.size + 1) 1 [18] (by simp) (fun j hj => by
    obtain rfl : j = 0 := by simp at hj; omega
    exact one_cell_of (alloc_at _ _ (by simp))) (by simp) W.heap.size (by omega)
  have Q2 : Hid (∀ w1, Below W.heap.size W w1 → _) := fun w1 (h1 : Below W.heap.size W w1) => ponly_any (w1.alloc (.cells #[.int .i64 4] 3)) w1.heap.size 1 [4] (by simp) (fun j hj => by
    obtain rfl : j = 0 := by simp at hj; omega
    exact one_cell_of (alloc_at _ _ rfl)) (by simp) W.heap.size h1.size
  go_enter Tryd.func59, Tryd.ntmps59
  go_wp2_with fail
  refine Calls.mono Q.out ?_
  rintro e w1 ⟨f, rfl, ⟨k, caps, rfl, hin, hask⟩, hb⟩
  have hb' : Below W.heap.size W w1 := HBA.out.trans (hb.mono HBA.out.size)
  have Q3 : Hid _ := Q2.out w1 hb'
  have b0 : w1.heap[W.heap.size]? = some (.cells #[.int .i64 (cnt : Int)] 3 (0, 0)) := (hb.block _ (by simp only [World.size_alloc]; omega)).trans (alloc_old (alloc_at _ _ rfl))
  have HB1 : Hid (Below W.heap.size W w1) := hb'
  have HI : Hid _ := And.intro hin (And.intro hask b0)
  clear Q Q2 hb hin hask hb' b0
  go_wp2_with fail
  refine Calls.mono Q3.out ?_
  rintro e w2 ⟨f, rfl, ⟨k2, caps2, rfl, hin2, hask2⟩, hb2⟩
  have hb2' : Below w1.heap.size w1 w2 := ((Below.refl _ _).alloc (Nat.le_refl _) _).trans (hb2.mono (by simp))
  have HB2 : Hid (Below W.heap.size W w2) := HB1.out.trans (hb2'.mono HB1.out.size)
  have HI2 : Hid _ := And.intro hin2 (And.intro hask2 hb2')
  clear Q3 hb2 hin2 hask2 hb2'
  go_wp2
  go_ret
  obtain ⟨hin, hask, b0⟩ := HI.out
  obtain ⟨hin2, hask2, hb2⟩ := HI2.out
  have hbe : Below w2.heap.size w2 ((w2.alloc (.cells #[.func (.func k) #[] caps] 46)).alloc (.cells #[.func (.func k2) #[] caps2] 46)) := ((Below.refl _ _).alloc (Nat.le_refl _) _).alloc (by simp only [World.size_alloc]; omega) _
  refine ⟨_, rfl, ⟨_, _, rfl, Tryd.call88, fun V ad cap kids hV hT hk hs => ?_⟩, HB2.out.trans (hbe.mono HB2.out.size)⟩
  have hbV := fun U (hU : Below V.heap.size V U) => (show Sin W.heap.size w2 U from (Sin.of hbe (Nat.le_refl _)).trans (hV.trans (Sin.of hU (Nat.le_refl _))))
  have c0 : V.heap[W.heap.size]? = some (.cells #[.int .i64 (cnt : Int)] 3 (0, 0)) := (hV.block _ (Nat.le_refl _) (Nat.lt_of_lt_of_le (one_lt b0) (Nat.le_trans hb2.size hbe.size))).trans ((hbe.block _ (Nat.lt_of_lt_of_le (one_lt b0) hb2.size)).trans ((hb2.block _ (one_lt b0)).trans b0))
  have c1 : V.heap[w2.heap.size]? = some (.cells #[.func (.func k) #[] caps] 46 (0, 0)) := (hV.block _ HB2.out.size (by simp only [World.size_alloc]; omega)).trans (alloc_old (alloc_at _ _ rfl))
  have c2 : V.heap[w2.heap.size + 1]? = some (.cells #[.func (.func k2) #[] caps2] 46 (0, 0)) := (hV.block _ (Nat.le_trans HB2.out.size (by omega)) (by simp only [World.size_alloc]; omega)).trans (alloc_at _ _ (by simp))
  by_cases hle : cnt ≤ kids.length
  · obtain ⟨b, off, rfl, _⟩ := hk.hmem (by omega)
    rw [show ptyp cnt kids = (((kids.take cnt).all fun t => [18].contains t.kind) && ((kids.drop cnt).all fun t => [4].contains t.kind)) by unfold ptyp; rw [decide_eq_true hle, Bool.true_and]]
    have hl1 : (kids.take cnt).length = cnt := by rw [List.length_take]; omega
    have hl2 : (kids.drop cnt).length = kids.length - cnt := List.length_drop ..
    refine ptyped1_any b off cap kids.length cnt hk.hlen hk.hcap hle h9 h1 W.heap.size w2.heap.size (w2.heap.size + 1) k k2 hin hin2 caps caps2 _ _ c0 c1 c2 (fun U hU => ?_) (fun U hU => ?_)
    · have := hask U (some ⟨b, off, none⟩) cap (kids.take cnt) ((Sin.of hb2 (Nat.le_refl _)).trans (hbV U hU)) (hT.below hU (Nat.le_refl _)) ((hk.take cnt hle).under hU) (fun i t hi => hs i t (by
        rw [List.getElem?_take] at hi
        split at hi
        · exact hi
        · cases hi))
      rw [hl1] at this
      exact this
    · have := hask2 U (if cap = cnt then some ⟨b, off, none⟩ else some ⟨b, off + cnt * 8, none⟩) (cap - cnt) (kids.drop cnt) (hbV U hU) (hT.below hU (Nat.le_refl _)) (by
        by_cases hcc : cap = cnt
        · rw [if_pos hcc]
          have : kids.drop cnt = [] := List.drop_of_length_le (by have := hk.hcap; omega)
          rw [this]
          exact Kl.empty (by simp)
        · rw [if_neg hcc]
          exact (hk.drop cnt hle).under hU) (fun i t hi => hs _ t (by rw [List.getElem?_drop] at hi; exact hi))
      rw [hl2] at this
      exact this
  · rw [show ptyp cnt kids = false by unfold ptyp; rw [decide_eq_false hle, Bool.false_and]]
    exact ptyped1_short ad cap kids.length cnt hk.hlen hle h9 W.heap.size w2.heap.size (w2.heap.size + 1) c0

end Go.Proofs.YtgkablmglkagfaaDoor

/- The contracts of the reference's own Parts, Full. -/
namespace Go.Proofs.YtgkablmglkagfaaDoor
open Go.RowKit
set_option linter.unusedVariables false
set_option linter.unusedSimpArgs false

theorem lpc_more (s : List Int) (f i : Nat) (h : f ≤ i) (hi : i < s.length) : lpc s f (i + 1) = lpc s f i ++ [s.getD i 0] := by
  unfold lpc
  rw [List.take_add_one, List.getElem?_eq_getElem hi, List.drop_append_of_le_length (by simp; omega)]
  simp [List.getD, hi]

theorem lpc_none (s : List Int) (i : Nat) : lpc s i i = [] := by unfold lpc; simp

theorem lpc_bd (s : List Int) (i k : Nat) (h : byts s) : byts (lpc s i k) := fun c hc => h c (List.mem_of_mem_take (List.mem_of_mem_drop hc))

theorem run_piece (s : List Int) (i k : Nat) (h1 : i ≤ k) (h2 : k ≤ s.length) : ∀ W, (Instr.slice 9 (.string (strOfNums s)) (some (.int .i64 (i : Int))) (some (.int .i64 (k : Int))) none).run Tryd.prog W = .ok (.string (strOfNums (lpc s i k))) W := fun W => by
  rw [run_cut (strOfNums s) i k _ _ rfl rfl h1 (by rw [strOfNums_size]; exact h2) W, str_cut]
  unfold lpc
  rw [List.drop_take]

theorem nsp_len : ∀ (s cur : List Int), (nsp cur s).length ≤ s.length + 1
  | [], cur => by simp [nsp]
  | c :: r, cur => by
    rw [nsp]
    split
    · have := nsp_len r []; simp only [List.length_cons]; omega
    · have := nsp_len r (cur ++ [c]); simp only [List.length_cons]; omega

theorem nsp_each : ∀ (s cur z : List Int), z ∈ nsp cur s → z.length ≤ cur.length + s.length
  | [], cur, z, h => by
    simp only [nsp, List.mem_cons, List.not_mem_nil, or_false] at h
    subst h; simp
  | c :: r, cur, z, h => by
    rw [nsp] at h
    by_cases k : c = 46
    · rw [if_pos k] at h
      rcases List.mem_cons.1 h with h | h
      · subst h; omega
      · have := nsp_each r [] z h; simp only [List.length_nil, List.length_cons] at this ⊢; omega
    · rw [if_neg k] at h
      have := nsp_each r (cur ++ [c]) z h
      simp only [List.length_append, List.length_cons, List.length_nil] at this ⊢
      omega

end Go.Proofs.YtgkablmglkagfaaDoor

/- The contracts of the reference's own Word, Keyword. -/
namespace Go.Proofs.YtgkablmglkagfaaDoor
open Go.RowKit
set_option linter.unusedVariables false
set_option linter.unusedSimpArgs false

/-- The words of the plain types, each at its type's number. -/
def nwords : List (List Int) := [[], [100, 111, 117, 98, 108, 101], [102, 108, 111, 97, 116], [105, 110, 116, 54, 52], [117, 105, 110, 116, 54, 52], [105, 110, 116, 51, 50], [102, 105, 120, 101, 100, 54, 52], [102, 105, 120, 101, 100, 51, 50], [98, 111, 111, 108], [115, 116, 114, 105, 110, 103], [], [], [98, 121, 116, 101, 115], [117, 105, 110, 116, 51, 50], [], [115, 102, 105, 120, 101, 100, 51, 50], [115, 102, 105, 120, 101, 100, 54, 52], [115, 105, 110, 116, 51, 50], [115, 105, 110, 116, 54, 52]]

/-- The other words with a meaning. -/
def nkeys : List (List Int) := [[109, 101, 115, 115, 97, 103, 101], [101, 110, 117, 109], [101, 120, 116, 101, 110, 100], [101, 120, 116, 101, 110, 115, 105, 111, 110, 115], [111, 112, 116, 105, 111, 110], [111, 110, 101, 111, 102], [109, 97, 112], [114, 101, 115, 101, 114, 118, 101, 100], [111, 112, 116, 105, 111, 110, 97, 108], [114, 101, 113, 117, 105, 114, 101, 100], [114, 101, 112, 101, 97, 116, 101, 100], [114, 112, 99], [115, 101, 114, 118, 105, 99, 101], [105, 109, 112, 111, 114, 116], [112, 97, 99, 107, 97, 103, 101], [115, 121, 110, 116, 97, 120], [115, 116, 114, 101, 97, 109], [114, 101, 116, 117, 114, 110, 115], [116, 111], [109, 97, 120], [112, 117, 98, 108, 105, 99]]

def nwf (s : List Int) : List (List Int) → Nat → Nat
  | [], _ => 0
  | z :: r, k => if z ≠ [] ∧ z = s then k else nwf s r (k + 1)

/-- The type of a plain type's word; 0: none. -/
def nword (s : List Int) : Nat := nwf s nwords 0

def nkey (s : List Int) : Bool := decide (s ∈ nkeys) || decide (nword s ≠ 0)

theorem nwords_bd : ∀ z ∈ nwords, byts z := by unfold byts; decide

theorem nkeys_bd : ∀ z ∈ nkeys, byts z := by unfold byts; decide

theorem lit_cell (W : World) (C : Array Value) (zs : List (List Int)) (hC : C.toList = zs.map scell) (k : Nat) (z : List Int) (hz : zs[k]? = some z) : (W.alloc (.cells C 9)).cell? ⟨W.heap.size, k, none⟩ = some (.string (strOfNums z)) := by
  rw [World.cell?_alloc_new, ← Array.getElem?_toList, hC, List.getElem?_map, hz]
  rfl

end Go.Proofs.YtgkablmglkagfaaDoor

/- The contracts of the reference's own Same, Synthetic. -/
namespace Go.Proofs.YtgkablmglkagfaaDoor
open Go.RowKit
set_option linter.unusedVariables false
set_option linter.unusedSimpArgs false

theorem nsyn_len (t : List (List Int)) : ∀ (f : Nat) (s : List Int), (nsyn t f s).length ≤ s.length + f
  | 0, s => by simp [nsyn]
  | f + 1, s => by
    rw [nsyn]
    split
    · have := nsyn_len t f (88 :: s); simp only [List.length_cons] at this; omega
    · have := nsyn_len t f s; omega

theorem nsyn_bd (t : List (List Int)) : ∀ (f : Nat) (s : List Int), byts s → byts (nsyn t f s)
  | 0, s, h => h
  | f + 1, s, h => by
    rw [nsyn]
    refine nsyn_bd t f _ ?_
    split
    · intro c hc
      rcases List.mem_cons.1 hc with rfl | hc
      · omega
      · exact h c hc
    · exact h

end Go.Proofs.YtgkablmglkagfaaDoor

/- The contract of the reference's own Places. -/
namespace Go.Proofs.YtgkablmglkagfaaDoor
open Go.RowKit
set_option linter.unusedVariables false
set_option linter.unusedSimpArgs false

def txtLen : Value → Nat
  | .string s => s.size
  | _ => 0

theorem njoin_len (a b : List Int) : (njoin a b).length ≤ a.length + b.length + 1 := by
  unfold njoin
  split
  · omega
  · simp; omega

theorem njoin_bd (a b : List Int) (ha : byts a) (hb : byts b) : byts (njoin a b) := by
  unfold njoin
  split
  · exact hb
  · intro c hc
    simp only [List.mem_append, List.mem_cons, List.not_mem_nil, or_false] at hc
    rcases hc with (hc | rfl) | hc
    · exact ha c hc
    · omega
    · exact hb c hc

theorem nparent_bd (s : List Int) (h : byts s) : byts (nparent s).1 ∧ byts (nparent s).2 := by
  unfold nparent
  split
  · exact ⟨fun c hc => by simp at hc, h⟩
  · exact ⟨fun c hc => h c (List.mem_of_mem_take hc), fun c hc => h c (List.mem_of_mem_drop hc)⟩

theorem nplc_more (name scope : List Int) (h : scope ≠ []) : nplc name scope.length scope = njoin scope name :: nplc name (nparent scope).1.length (nparent scope).1 := by
  have hl := nparent_lt scope h
  obtain ⟨m, hm⟩ : ∃ m, scope.length = m + 1 := ⟨scope.length - 1, by omega⟩
  rw [hm, nplc, if_neg h, nplc_fuel name m (nparent scope).1.length _ (by omega) (Nat.le_refl _)]

end Go.Proofs.YtgkablmglkagfaaDoor

/- The program's own layer 6: which signs a text has when it is ranged over; small, letter, digit, run, Ident. -/
namespace Go.Proofs.YtgkablmglkagfaaDoor
open Go.RowKit
set_option linter.unusedVariables false
set_option linter.unusedSimpArgs false

def NTab (_ : World) : Prop := True

theorem NTab.below {w w' : World} (h : NTab w) {B : Nat} (hb : Below B w w') (hB : w.heap.size ≤ B) : NTab w' := trivial

/-- A sign beyond the plain ones takes up bytes that are all beyond 127. -/
theorem dec_wide (S : ByteArray) (p : Nat) (h : p < S.size) (ha : 128 ≤ (S.get! (p + 0)).toNat) : p + (Utf8.decode S p).2 ≤ S.size ∧ ∀ j, j < (Utf8.decode S p).2 → 128 ≤ (S.get! (p + j)).toNat := by
  have one : ∀ j, j < 1 → 128 ≤ (S.get! (p + j)).toNat := fun j hj => by rw [show j = 0 by omega]; exact ha
  have hn : ¬ (S.get! (p + 0)).toNat < 128 := by omega
  simp only [Utf8.decode, hn, if_false]
  split
  · rename_i h1
    simp only [Bool.and_eq_true, decide_eq_true_eq, beq_iff_eq] at h1
    split
    · refine ⟨by show p + 2 ≤ _; omega, fun j hj => ?_⟩
      have hj : j < 2 := hj
      rcases (show j = 0 ∨ j = 1 by omega) with rfl | rfl <;> omega
    · exact ⟨by show p + 1 ≤ _; omega, one⟩
  · split
    · rename_i h1
      simp only [Bool.and_eq_true, decide_eq_true_eq, beq_iff_eq] at h1
      split
      · refine ⟨by show p + 3 ≤ _; omega, fun j hj => ?_⟩
        have hj : j < 3 := hj
        rcases (show j = 0 ∨ j = 1 ∨ j = 2 by omega) with rfl | rfl | rfl <;> omega
      · exact ⟨by show p + 1 ≤ _; omega, one⟩
    · split
      · rename_i h1
        simp only [Bool.and_eq_true, decide_eq_true_eq, beq_iff_eq] at h1
        split
        · refine ⟨by show p + 4 ≤ _; omega, fun j hj => ?_⟩
          have hj : j < 4 := hj
          rcases (show j = 0 ∨ j = 1 ∨ j = 2 ∨ j = 3 by omega) with rfl | rfl | rfl | rfl <;> omega
        · exact ⟨by show p + 1 ≤ _; omega, one⟩
      · exact ⟨by show p + 1 ≤ _; omega, one⟩

/-- The sign at place k of a text, and how many bytes it takes. -/
theorem dec_at (s : List Int) (hz : ∀ i, 0 ≤ s.getD i 0 ∧ s.getD i 0 ≤ 255) (k : Nat) (hk : k < s.length) :
    (s.getD k 0 < 128 ∧ ((Utf8.decode (strOfNums s) k).1 : Int) = s.getD k 0 ∧ (Utf8.decode (strOfNums s) k).2 = 1) ∨
    (128 ≤ s.getD k 0 ∧ 128 ≤ ((Utf8.decode (strOfNums s) k).1 : Int) ∧ ((Utf8.decode (strOfNums s) k).1 : Int) ≤ 2147483647 ∧ 1 ≤ (Utf8.decode (strOfNums s) k).2 ∧ k + (Utf8.decode (strOfNums s) k).2 ≤ s.length ∧ ∀ j, k ≤ j → j < k + (Utf8.decode (strOfNums s) k).2 → 128 ≤ s.getD j 0) := by
  have hsz := strOfNums_size s
  have hk' : k < (strOfNums s).size := by rw [hsz]; exact hk
  have hat := str_at s hz k hk'
  by_cases ha : ((strOfNums s)[k]'hk').toNat < 128
  · left
    rw [decode_ascii _ k hk' ha]
    exact ⟨by omega, hat, rfl⟩
  · right
    obtain ⟨h1, h2⟩ := decode_high _ k hk' (by omega)
    have h3 := decode_le (strOfNums s) k
    obtain ⟨h4, h5⟩ := dec_wide _ k hk' (by rw [get_at _ k hk']; omega)
    rw [hsz] at h4
    refine ⟨by omega, by omega, by omega, h2, h4, fun j hj1 hj2 => ?_⟩
    have := h5 (j - k) (by omega)
    rw [show k + (j - k) = j by omega] at this
    have hj' : j < (strOfNums s).size := by omega
    have e := get_at (strOfNums s) j hj'
    rw [Nat.add_zero] at e
    rw [e] at this
    have := str_at s hz j hj'
    omega

def nlet (c : Int) : Bool := decide ((97 ≤ c ∧ c ≤ 122) ∨ (65 ≤ c ∧ c ≤ 90) ∨ c = 95)

def nok (s : List Int) (i : Nat) : Bool := nlet (s.getD i 0) || (lnumb (s.getD i 0) && decide (0 < i))

theorem nident_nok (s : List Int) (h1 : 1 ≤ s.length) (h2 : s.length ≤ 200) : nident s = decide (∀ i, i < s.length → nok s i = true) := by
  rw [Bool.eq_iff_iff, decide_eq_true_eq]
  unfold nident
  simp only [Bool.and_eq_true, List.all_eq_true, decide_eq_true_eq, Bool.not_eq_true']
  constructor
  · rintro ⟨⟨ha, _⟩, hb⟩ i hi
    have := ha (s.getD i 0) (by rw [show s.getD i 0 = s[i] by simp [List.getD, hi]]; exact List.getElem_mem hi)
    unfold lletter at this
    unfold nok nlet lnumb
    simp only [decide_eq_true_eq] at this
    simp only [Bool.or_eq_true, Bool.and_eq_true, decide_eq_true_eq]
    by_cases h0 : i = 0
    · subst h0
      unfold lnumb at hb
      rw [decide_eq_false_iff_not] at hb
      omega
    · omega
  · intro h
    refine ⟨⟨fun c hc => ?_, ⟨h1, h2⟩⟩, ?_⟩
    · obtain ⟨i, hi, rfl⟩ := List.getElem_of_mem hc
      have := h i hi
      rw [show s[i] = s.getD i 0 by simp [List.getD, hi]]
      unfold nok nlet lnumb at this
      unfold lletter
      simp only [Bool.or_eq_true, Bool.and_eq_true, decide_eq_true_eq] at this ⊢
      omega
    · have := h 0 (by omega)
      unfold nok nlet at this
      unfold lnumb at this ⊢
      rw [decide_eq_false_iff_not]
      simp only [Bool.or_eq_true, Bool.and_eq_true, decide_eq_true_eq] at this
      omega

def nsml (c : Int) : Bool := decide (97 ≤ c ∧ c ≤ 122)

set_option maxHeartbeats 1000000 in
theorem psmall_any (c : Int) (w : World) (h0 : 0 ≤ c) (h1 : c ≤ 2147483647) :
    Calls Tryd.prog 107 #[.int .i32 c] w fun e w' => e = .returned (.bool (nsml c)) ∧ w = w' := by
  rcases (show (97 ≤ c ∧ c ≤ 122) ∨ (c < 97) ∨ (122 < c) by omega) with h | h | h
  · have E : Hid (nsml c = true) := decide_eq_true (by omega)
    obtain ⟨p1, p2⟩ := h
    go_enter Tryd.func107, Tryd.ntmps107
    go_wp2
    go_ret
    exact ⟨by rw [E.out]; first | rfl | exact ret_bool (by simp; omega), rfl⟩
  · have E : Hid (nsml c = false) := decide_eq_false (by omega)
    go_enter Tryd.func107, Tryd.ntmps107
    go_wp2
    go_ret
    exact ⟨by rw [E.out]; first | rfl | exact ret_bool (by simp; omega), rfl⟩
  · have E : Hid (nsml c = false) := decide_eq_false (by omega)
    have p1 : 97 ≤ c := by omega
    go_enter Tryd.func107, Tryd.ntmps107
    go_wp2
    go_ret
    exact ⟨by rw [E.out]; first | rfl | exact ret_bool (by simp; omega), rfl⟩

set_option maxHeartbeats 1000000 in
theorem pndigit_any (c : Int) (w : World) (h0 : 0 ≤ c) (h1 : c ≤ 2147483647) :
    Calls Tryd.prog 97 #[.int .i32 c] w fun e w' => e = .returned (.bool (lnumb c)) ∧ w = w' := by
  rcases (show (48 ≤ c ∧ c ≤ 57) ∨ (c < 48) ∨ (57 < c) by omega) with h | h | h
  · have E : Hid (lnumb c = true) := decide_eq_true (by omega)
    obtain ⟨p1, p2⟩ := h
    go_enter Tryd.func97, Tryd.ntmps97
    go_wp2
    go_ret
    exact ⟨by rw [E.out]; first | rfl | exact ret_bool (by simp; omega), rfl⟩
  · have E : Hid (lnumb c = false) := decide_eq_false (by omega)
    go_enter Tryd.func97, Tryd.ntmps97
    go_wp2
    go_ret
    exact ⟨by rw [E.out]; first | rfl | exact ret_bool (by simp; omega), rfl⟩
  · have E : Hid (lnumb c = false) := decide_eq_false (by omega)
    have p1 : 48 ≤ c := by omega
    go_enter Tryd.func97, Tryd.ntmps97
    go_wp2
    go_ret
    exact ⟨by rw [E.out]; first | rfl | exact ret_bool (by simp; omega), rfl⟩

set_option maxHeartbeats 1000000 in
theorem pnlet_any (c : Int) (w : World) (h0 : 0 ≤ c) (h1 : c ≤ 2147483647) :
    Calls Tryd.prog 96 #[.int .i32 c] w fun e w' => e = .returned (.bool (nlet c)) ∧ w = w' := by
  by_cases k95 : c = 95
  · have E : Hid (nlet c = true) := decide_eq_true (by omega)
    subst k95
    go_enter Tryd.func96, Tryd.ntmps96
    go_wp2
    go_ret
    exact ⟨by rw [E.out]; first | rfl | exact ret_bool (by simp; omega), rfl⟩
  have e95 : (c == 95) = false := by simpa using k95
  have q := fun W => psmall_any c W h0 h1
  rcases (show (97 ≤ c ∧ c ≤ 122) ∨ (65 ≤ c ∧ c ≤ 90) ∨ (c < 65) ∨ (90 < c ∧ c < 97) ∨ (122 < c) by omega) with h | h | h | h | h
  · have E : Hid (nlet c = true) := decide_eq_true (by omega)
    rw [show nsml c = true from decide_eq_true h] at q
    have Q : Hid _ := q
    clear q h k95
    go_enter Tryd.func96, Tryd.ntmps96
    go_wp2_with fail
    refine Calls.mono (Q.out _) ?_
    rintro e w1 ⟨rfl, rfl⟩
    go_wp2
    go_ret
    exact ⟨by rw [E.out]; first | rfl | exact ret_bool (by simp; omega), rfl⟩
  · have E : Hid (nlet c = true) := decide_eq_true (by omega)
    rw [show nsml c = false from decide_eq_false (by omega)] at q
    obtain ⟨p1, p2⟩ := h
    have Q : Hid _ := q
    clear q k95
    go_enter Tryd.func96, Tryd.ntmps96
    go_wp2_with fail
    refine Calls.mono (Q.out _) ?_
    rintro e w1 ⟨rfl, rfl⟩
    go_wp2
    go_ret
    exact ⟨by rw [E.out]; first | rfl | exact ret_bool (by simp; omega), rfl⟩
  · have E : Hid (nlet c = false) := decide_eq_false (by omega)
    rw [show nsml c = false from decide_eq_false (by omega)] at q
    have Q : Hid _ := q
    clear q k95
    go_enter Tryd.func96, Tryd.ntmps96
    go_wp2_with fail
    refine Calls.mono (Q.out _) ?_
    rintro e w1 ⟨rfl, rfl⟩
    go_wp2
    go_ret
    exact ⟨by rw [E.out]; first | rfl | exact ret_bool (by simp; omega), rfl⟩
  · have E : Hid (nlet c = false) := decide_eq_false (by omega)
    rw [show nsml c = false from decide_eq_false (by omega)] at q
    have p1 : 65 ≤ c := by omega
    have p2 : 90 < c := h.1
    have Q : Hid _ := q
    clear q k95 h
    go_enter Tryd.func96, Tryd.ntmps96
    go_wp2_with fail
    refine Calls.mono (Q.out _) ?_
    rintro e w1 ⟨rfl, rfl⟩
    go_wp2
    go_ret
    exact ⟨by rw [E.out]; first | rfl | exact ret_bool (by simp; omega), rfl⟩
  · have E : Hid (nlet c = false) := decide_eq_false (by omega)
    rw [show nsml c = false from decide_eq_false (by omega)] at q
    have p1 : 65 ≤ c := by omega
    have p2 : 90 < c := by omega
    have Q : Hid _ := q
    clear q k95 h
    go_enter Tryd.func96, Tryd.ntmps96
    go_wp2_with fail
    refine Calls.mono (Q.out _) ?_
    rintro e w1 ⟨rfl, rfl⟩
    go_wp2
    go_ret
    exact ⟨by rw [E.out]; first | rfl | exact ret_bool (by simp; omega), rfl⟩

end Go.Proofs.YtgkablmglkagfaaDoor

/- The program's own run, Ident. -/
namespace Go.Proofs.YtgkablmglkagfaaDoor
open Go.RowKit
set_option linter.unusedVariables false
set_option linter.unusedSimpArgs false

set_option maxHeartbeats 1000000 in
theorem pnrun_any (s : List Int) (w : World) (hz : Hid (∀ i, 0 ≤ s.getD i 0 ∧ s.getD i 0 ≤ 255)) (hlen : (s.length : Int) ≤ 9223372036854775807) :
    Calls Tryd.prog 80 #[.string (strOfNums s)] w fun e w' => ∃ m : Nat, e = .returned (.int .i64 (m : Int)) ∧ m ≤ s.length ∧ decide (∀ i, i < s.length → nok s i = true) = decide (m = s.length) ∧ Below w.heap.size w w' := by
  have hsz := strOfNums_size s
  have HD : Hid _ := dec_at s hz.out
  generalize strOfNums s = S at hsz HD
  go_enter Tryd.func80, Tryd.ntmps80
  go_wp2
  refine wp_scope_straight ?_
  go_wp2
  go_step3
  rename_i hK
  refine hK _ _ ?_
  clear hK
  go_wp2
  go_loopw [3] (fun v wr => ∃ k : Nat, v = .int .i64 (s.length : Int) ∧ wr = w.iter S k ∧ k ≤ s.length ∧ Hid (∀ j, j < k → nok s j = true)) (fun _ wr => s.length - wr.iterPos w.heap.size)
  case atStart => exact ⟨0, rfl, rfl, by omega, fun j hj => absurd hj (by omega)⟩
  case round =>
    obtain ⟨k, rfl, rfl, hk, HJ⟩ := hrel
    by_cases hkl : k < s.length
    · have hnx : ∀ ty, (Instr.next (.pointer (some ⟨w.heap.size, 0, none⟩)) true ty).run Tryd.prog (w.iter S k) = _ := fun ty => run_next_any w S k ty (by omega)
      have hc0 := (hz.out k).1
      have hc1 := (hz.out k).2
      rcases HD.out k hkl with ⟨h1, h2, h3⟩ | ⟨h1, h2, h3, h4, h5, h6⟩
      · rw [h2, h3] at hnx
        clear h2 h3
        have hNK : nok s k = (nlet (s.getD k 0) || (lnumb (s.getD k 0) && decide (0 < k))) := rfl
        generalize s.getD k 0 = c at hnx hc0 hc1 hNK h1
        have q1 := fun W => pnlet_any c W hc0 (by omega)
        have q2 := fun W => pndigit_any c W hc0 (by omega)
        have c31 : c ≤ 2147483647 := by omega
        cases hl : nlet c with
        | true =>
          rw [hl] at q1 hNK
          rw [Bool.true_or] at hNK
          have Q1 : Hid _ := q1
          have HJ2 : Hid (∀ j, j < k + 1 → nok s j = true) := fun j hj => by
            by_cases e : j = k
            · rw [e]; exact hNK
            · exact HJ.out j (by omega)
          clear q1 q2 hl hNK HJ
          go_wp2_with fail
          refine Calls.mono (Q1.out _) ?_
          rintro e w1 ⟨rfl, rfl⟩
          go_wp2
          go_roundw
          case rel => first | exact ⟨k + 1, rfl, rfl, by omega, HJ2⟩ | ((repeat apply Exists.intro); exact ⟨⟨k + 1, rfl, rfl, by omega, HJ2⟩, rfl⟩)
          case measure => first | (simp; done) | (simp; omega)
        | false =>
          rw [hl, Bool.false_or] at hNK
          rw [hl] at q1
          have Q1 : Hid _ := q1
          cases hd : lnumb c with
          | true =>
            rw [hd, Bool.true_and] at hNK
            rw [hd] at q2
            have Q2 : Hid _ := q2
            by_cases k0 : 0 < k
            · rw [decide_eq_true k0] at hNK
              have kk : (0 : Int) < (k : Int) := by omega
              have HJ2 : Hid (∀ j, j < k + 1 → nok s j = true) := fun j hj => by
                by_cases e : j = k
                · rw [e]; exact hNK
                · exact HJ.out j (by omega)
              clear q1 q2 hl hd hNK HJ
              go_wp2_with fail
              refine Calls.mono (Q1.out _) ?_
              rintro e w1 ⟨rfl, rfl⟩
              go_wp2_with fail
              refine Calls.mono (Q2.out _) ?_
              rintro e w1 ⟨rfl, rfl⟩
              go_wp2
              go_roundw
              case rel => first | exact ⟨k + 1, rfl, rfl, by omega, HJ2⟩ | ((repeat apply Exists.intro); exact ⟨⟨k + 1, rfl, rfl, by omega, HJ2⟩, rfl⟩)
              case measure => first | (simp; done) | (simp; omega)
            · rw [decide_eq_false k0] at hNK
              obtain rfl : k = 0 := by omega
              have E : Hid (decide (∀ i, i < s.length → nok s i = true) = decide (0 = s.length)) := by
                show _ = _
                rw [decide_eq_false (p := 0 = s.length) (by omega), decide_eq_false (fun h => by have := h 0 hkl; rw [hNK] at this; simp at this)]
              clear q1 q2 hl hd hNK HJ
              go_wp2_with fail
              refine Calls.mono (Q1.out _) ?_
              rintro e w1 ⟨rfl, rfl⟩
              go_wp2_with fail
              refine Calls.mono (Q2.out _) ?_
              rintro e w1 ⟨rfl, rfl⟩
              go_wp2
              simp only [Exit.noGoto]
              go_ret
              exact ⟨0, rfl, by omega, E.out, (Below.refl _ _).alloc (Nat.le_refl _) _⟩
          | false =>
            rw [hd, Bool.false_and] at hNK
            rw [hd] at q2
            have Q2 : Hid _ := q2
            have E : Hid (decide (∀ i, i < s.length → nok s i = true) = decide (k = s.length)) := by
              show _ = _
              rw [decide_eq_false (p := k = s.length) (by omega), decide_eq_false (fun h => by have := h k hkl; rw [hNK] at this; simp at this)]
            clear q1 q2 hl hd hNK HJ
            go_wp2_with fail
            refine Calls.mono (Q1.out _) ?_
            rintro e w1 ⟨rfl, rfl⟩
            go_wp2_with fail
            refine Calls.mono (Q2.out _) ?_
            rintro e w1 ⟨rfl, rfl⟩
            go_wp2
            simp only [Exit.noGoto]
            go_ret
            exact ⟨k, rfl, by omega, E.out, (Below.refl _ _).alloc (Nat.le_refl _) _⟩
      · generalize ((Utf8.decode S k).1 : Int) = c at hnx h2 h3
        generalize (Utf8.decode S k).2 = d at hnx h4 h5 h6
        have q1 := fun W => pnlet_any c W (by omega) (by omega)
        have q2 := fun W => pndigit_any c W (by omega) (by omega)
        rw [show nlet c = false from decide_eq_false (by omega)] at q1
        rw [show lnumb c = false from decide_eq_false (by omega)] at q2
        have hNK : nok s k = false := by
          unfold nok
          rw [show nlet (s.getD k 0) = false from decide_eq_false (by omega), show lnumb (s.getD k 0) = false from decide_eq_false (by omega)]
          rfl
        have E : Hid (decide (∀ i, i < s.length → nok s i = true) = decide (k = s.length)) := by
          show _ = _
          rw [decide_eq_false (p := k = s.length) (by omega), decide_eq_false (fun h => by have := h k hkl; rw [hNK] at this; simp at this)]
        have Q1 : Hid _ := q1
        have Q2 : Hid _ := q2
        clear q1 q2 hNK HJ h6 h1 h4 h5
        go_wp2_with fail
        refine Calls.mono (Q1.out _) ?_
        rintro e w1 ⟨rfl, rfl⟩
        go_wp2_with fail
        refine Calls.mono (Q2.out _) ?_
        rintro e w1 ⟨rfl, rfl⟩
        go_wp2
        simp only [Exit.noGoto]
        go_ret
        exact ⟨k, rfl, by omega, E.out, (Below.refl _ _).alloc (Nat.le_refl _) _⟩
    · obtain rfl : k = s.length := by omega
      have hnx : ∀ ty, (Instr.next (.pointer (some ⟨w.heap.size, 0, none⟩)) true ty).run Tryd.prog (w.iter S s.length) = _ := fun ty => run_next_end w S s.length ty (by omega)
      have E : Hid (decide (∀ i, i < s.length → nok s i = true) = true) := decide_eq_true HJ.out
      clear HJ
      go_wp2
      simp only [Exit.noGoto]
      go_ret
      exact ⟨s.length, rfl, by omega, by rw [E.out, decide_eq_true rfl], (Below.refl _ _).alloc (Nat.le_refl _) _⟩

set_option maxHeartbeats 1000000 in
theorem pident_any (s : List Int) (w : World) (hT : Hid (NTab w)) (hz : Hid (∀ i, 0 ≤ s.getD i 0 ∧ s.getD i 0 ≤ 255)) (hlen : (s.length : Int) ≤ 9223372036854775807) :
    Calls Tryd.prog 47 #[.string (strOfNums s)] w fun e w' => e = .returned (.bool (nident s)) ∧ Below w.heap.size w w' := by
  have hsz := strOfNums_size s
  by_cases h0 : s = []
  · have hne : ((strOfNums s).toList == []) = true := by rw [h0, str_list]; rfl
    have E : Hid (nident s = false) := nident_big s (.inr (by rw [h0]; rfl))
    generalize strOfNums s = S at hsz hne
    go_enter Tryd.func47, Tryd.ntmps47
    go_wp2
    go_ret
    exact ⟨by rw [E.out]; first | rfl | exact ret_bool (by simp [hne]), Below.refl _ _⟩
  · have hne : ((strOfNums s).toList == []) = false := by
      cases s with
      | nil => exact absurd rfl h0
      | cons c r => exact str_ne c r
    have hl : 0 < s.length := List.length_pos_iff.2 h0
    by_cases h2 : s.length ≤ 200
    · have h2' : (s.length : Int) ≤ 200 := by omega
      have E := nident_nok s hl h2
      have q := fun W => pnrun_any s W hz hlen
      rw [← E] at q
      have Q : Hid _ := q
      clear q E
      generalize nident s = b at Q
      generalize strOfNums s = S at hsz hne Q
      go_enter Tryd.func47, Tryd.ntmps47
      go_wp2_with fail
      refine Calls.mono (Q.out _) ?_
      rintro e w1 ⟨m, rfl, hm, hb, hB⟩
      by_cases e : m = s.length
      · subst e
        rw [decide_eq_true rfl] at hb
        have heq : ((s.length : Int) == (s.length : Int)) = true := by simp
        go_wp2
        go_ret
        exact ⟨by rw [hb]; first | rfl | exact ret_bool (by simp), hB⟩
      · rw [decide_eq_false e] at hb
        have heq : ((m : Int) == (s.length : Int)) = false := by simp; omega
        go_wp2
        go_ret
        exact ⟨by rw [hb]; first | rfl | exact ret_bool (by simp; omega), hB⟩
    · have h2' : ¬ (s.length : Int) ≤ 200 := by omega
      have E : Hid (nident s = false) := nident_big s (.inl (by omega))
      generalize strOfNums s = S at hsz hne
      go_enter Tryd.func47, Tryd.ntmps47
      go_wp2
      go_ret
      exact ⟨by rw [E.out]; first | rfl | exact ret_bool (by simp [hne]; omega), Below.refl _ _⟩

end Go.Proofs.YtgkablmglkagfaaDoor

/- The program's own Full. -/
namespace Go.Proofs.YtgkablmglkagfaaDoor
open Go.RowKit
set_option linter.unusedVariables false
set_option linter.unusedSimpArgs false

theorem nsp_skip (s : List Int) (f : Nat) : ∀ (d p : Nat), f ≤ p → p + d ≤ s.length → (∀ j, p ≤ j → j < p + d → s.getD j 0 ≠ 46) → nsp (lpc s f p) (s.drop p) = nsp (lpc s f (p + d)) (s.drop (p + d))
  | 0, p, _, _, _ => rfl
  | d + 1, p, h1, h2, h3 => by
    rw [drop_at (show p < s.length by omega), nsp, if_neg (h3 p (by omega) (by omega)), ← lpc_more s f p h1 (by omega), nsp_skip s f d (p + 1) (by omega) (by omega) (fun j a b => h3 j (by omega) (by omega))]
    rw [show p + 1 + d = p + (d + 1) by omega]

theorem lpc_tail (s : List Int) (i : Nat) : lpc s i s.length = s.drop i := by unfold lpc; rw [List.take_length]

set_option maxHeartbeats 2000000 in
theorem pfull_any (s : List Int) (w : World) (hT : Hid (NTab w)) (hz : Hid (∀ i, 0 ≤ s.getD i 0 ∧ s.getD i 0 ≤ 255)) (hlen : (s.length : Int) ≤ 100000) :
    Calls Tryd.prog 49 #[.string (strOfNums s)] w fun e w' => e = .returned (.bool (nfull s)) ∧ Below w.heap.size w w' := by
  by_cases hb : 1000 < s.length
  · have hsz := strOfNums_size s
    have hb' : (1000 : Int) < (s.length : Int) := by omega
    have E : Hid (nfull s = false) := by show _ = _; unfold nfull; rw [decide_eq_false (by omega)]; rfl
    generalize strOfNums s = S at hsz
    go_enter Tryd.func49, Tryd.ntmps49
    go_wp2
    go_ret
    exact ⟨by rw [E.out]; rfl, Below.refl _ _⟩
  · have hb' : ¬ (1000 : Int) < (s.length : Int) := by omega
    obtain ⟨R, hR⟩ : ∃ R, R = nfull s := ⟨_, rfl⟩
    have HR : Hid (R = (nsp (lpc s 0 0) (s.drop 0)).all nident) := by show _ = _; rw [hR]; unfold nfull nparts; rw [decide_eq_true (by omega), lpc_none, List.drop_zero]; rfl
    obtain ⟨X, hX⟩ : ∃ X, X = strOfNums s := ⟨_, rfl⟩
    have hsz : X.size = s.length := by rw [hX]; exact strOfNums_size s
    have HP : Hid (∀ i k, i ≤ k → k ≤ s.length → ∀ W, (Instr.slice 9 (.string X) (some (.int .i64 (i : Int))) (some (.int .i64 (k : Int))) none).run Tryd.prog W = .ok (.string (strOfNums (lpc s i k))) W) := fun i k h1 h2 => by subst hX; exact run_piece s i k h1 h2
    have HTl : Hid (∀ i, i ≤ s.length → ∀ W, (Instr.slice 9 (.string X) (some (.int .i64 (i : Int))) none none).run Tryd.prog W = .ok (.string (strOfNums (s.drop i))) W) := fun i h1 => by subst hX; exact run_tail s i h1 _ rfl
    have HD : Hid _ := dec_at s hz.out
    rw [← hX] at HD
    rw [← hR, ← hX]
    have HBy : Hid (byts s) := mem_bd hz.out
    clear hX hR
    go_enter Tryd.func49, Tryd.ntmps49
    go_wp2
    go_loopw [3] (fun v wr => ∃ p f : Nat, v = .int .i64 (f : Int) ∧ wr.heap[w.heap.size]? = some (.stringIter X p) ∧ f ≤ p ∧ p ≤ s.length ∧ Hid (R = (nsp (lpc s f p) (s.drop p)).all nident) ∧ Hid (Below w.heap.size w wr)) (fun _ wr => s.length - wr.iterPos w.heap.size)
    case atStart => exact ⟨0, 0, rfl, by have := World.iter_heap w X 0; simpa using this, by omega, by omega, HR, (Below.refl _ _).alloc (Nat.le_refl _) _⟩
    case round =>
      obtain ⟨p, f, rfl, hit, hfp, hp, HJ, HB⟩ := hrel
      have hsz1 : w.heap.size < wr.heap.size := (Array.getElem?_eq_some_iff.1 hit).1
      by_cases hpl : p < s.length
      · have hnx : ∀ ty, (Instr.next (.pointer (some ⟨w.heap.size, 0, none⟩)) true ty).run Tryd.prog wr = _ := fun ty => Lib.run_next_any_at wr w.heap.size X p ty hit (by omega)
        have HC := HD.out p hpl
        have HI2 := fun q => Lib.iterAt_heap wr w.heap.size X p q hit
        have HB2 := fun q => Lib.below_iterAt HB.out (Nat.le_refl _) X q
        have hc0 := (hz.out p).1
        have hc1 := (hz.out p).2
        by_cases h46 : s.getD p 0 = 46
        · have hc : ((Utf8.decode X p).1 : Int) = 46 ∧ (Utf8.decode X p).2 = 1 := by
            rcases HC with ⟨_, h2, h3⟩ | ⟨h1, _⟩
            · exact ⟨by omega, h3⟩
            · omega
          rw [hc.1, hc.2] at hnx
          have hI := HI2 (p + 1)
          have HB3 : Hid _ := HB2 (p + 1)
          have hcut := HP.out f p hfp hp
          have HJ' := HJ.out
          rw [drop_at hpl, nsp, if_pos h46, List.all_cons] at HJ'
          have hll : (lpc s f p).length ≤ s.length := by unfold lpc; simp; omega
          have q := fun W => pident_any (lpc s f p) W trivial (getD_bd (lpc_bd s f p HBy.out)) (by omega)
          obtain ⟨L, hL⟩ : ∃ L, L = strOfNums (lpc s f p) := ⟨_, rfl⟩
          rw [← hL] at hcut q
          clear hL
          have hio : (wr.iterAt w.heap.size X (p + 1)).iterPos w.heap.size = p + 1 := by simp [World.iterPos, hI]
          obtain ⟨wi, hwi⟩ : ∃ wi, wi = wr.iterAt w.heap.size X (p + 1) := ⟨_, rfl⟩
          rw [← hwi] at hnx hI HB3
          have hsz2 : w.heap.size < wi.heap.size := (Array.getElem?_eq_some_iff.1 hI).1
          clear hc HC HI2 HB2 hwi h46 HJ hio
          cases hid : nident (lpc s f p) with
          | true =>
            rw [hid, Bool.true_and] at HJ'
            rw [hid] at q
            have Q : Hid _ := q
            have HJ2 : Hid (R = (nsp (lpc s (p + 1) (p + 1)) (s.drop (p + 1))).all nident) := by show _ = _; rw [HJ', lpc_none]
            clear q HJ' hid
            go_wp2_with fail
            refine Calls.mono (Q.out _) ?_
            rintro e w1 ⟨rfl, hB1⟩
            have hI1 : w1.heap[w.heap.size]? = some (.stringIter X (p + 1)) := (hB1.block _ hsz2).trans hI
            have HB4 : Hid (Below w.heap.size w w1) := HB3.out.trans (hB1.mono HB3.out.size)
            go_wp2
            go_roundw
            case rel => first | exact ⟨p + 1, p + 1, by go_num, hI1, by omega, by omega, HJ2, HB4⟩ | ((repeat apply Exists.intro); exact ⟨⟨p + 1, p + 1, by go_num, hI1, by omega, by omega, HJ2, HB4⟩, rfl⟩)
            case measure => simp only [World.iterPos, hI1, hit]; omega
          | false =>
            rw [hid, Bool.false_and] at HJ'
            rw [hid] at q
            have Q : Hid _ := q
            have E : Hid (R = false) := HJ'
            clear q HJ' hid
            go_wp2_with fail
            refine Calls.mono (Q.out _) ?_
            rintro e w1 ⟨rfl, hB1⟩
            have HB4 : Hid (Below w.heap.size w w1) := HB3.out.trans (hB1.mono HB3.out.size)
            go_wp2
            go_ret
            exact ⟨by rw [E.out]; rfl, HB4.out⟩
        · have hc : ∃ (c : Int) (d : Nat), ((Utf8.decode X p).1 : Int) = c ∧ (Utf8.decode X p).2 = d ∧ c ≠ 46 ∧ 0 ≤ c ∧ c ≤ 2147483647 ∧ 1 ≤ d ∧ p + d ≤ s.length ∧ ∀ j, p ≤ j → j < p + d → s.getD j 0 ≠ 46 := by
            rcases HC with ⟨h1, h2, h3⟩ | ⟨h1, h2, h3, h4, h5, h6⟩
            · exact ⟨_, _, rfl, rfl, by omega, by omega, by omega, by omega, by omega, fun j a b => by rw [show j = p by omega]; exact h46⟩
            · exact ⟨_, _, rfl, rfl, by omega, by omega, by omega, h4, h5, fun j a b => by have := h6 j a b; omega⟩
          obtain ⟨c, d, h1, h2, h3, h4, h5, h6, h7, h8⟩ := hc
          rw [h1, h2] at hnx
          have hI := HI2 (p + d)
          have HB3 : Hid _ := HB2 (p + d)
          have HJ2 : Hid (R = (nsp (lpc s f (p + d)) (s.drop (p + d))).all nident) := by show _ = _; rw [HJ.out, nsp_skip s f d p hfp h7 h8]
          obtain ⟨wi, hwi⟩ : ∃ wi, wi = wr.iterAt w.heap.size X (p + d) := ⟨_, rfl⟩
          rw [← hwi] at hnx hI HB3
          have e46 : (c != 46) = true := by simpa using h3
          clear HC HI2 HB2 hwi h46 HJ h8 h1 h2 hc0 hc1 h3
          go_wp2
          go_roundw
          case rel => first | exact ⟨p + d, f, by go_num, hI, by omega, by omega, HJ2, HB3⟩ | ((repeat apply Exists.intro); exact ⟨⟨p + d, f, by go_num, hI, by omega, by omega, HJ2, HB3⟩, rfl⟩)
          case measure => simp only [World.iterPos, hI, hit]; omega
      · obtain rfl : p = s.length := by omega
        have hnx : ∀ ty, (Instr.next (.pointer (some ⟨w.heap.size, 0, none⟩)) true ty).run Tryd.prog wr = _ := fun ty => Lib.run_next_end_at wr w.heap.size X s.length ty hit (by omega)
        have hcut := HTl.out f hfp
        have HJ' := HJ.out
        rw [List.drop_length, nsp, List.all_cons, List.all_nil, Bool.and_true, lpc_tail] at HJ'
        have q := fun W => pident_any (s.drop f) W trivial (getD_bd (fun c hc => HBy.out c (List.mem_of_mem_drop hc))) (by simp; omega)
        rw [← HJ'] at q
        have Q : Hid _ := q
        obtain ⟨L, hL⟩ : ∃ L, L = strOfNums (s.drop f) := ⟨_, rfl⟩
        rw [← hL] at hcut Q
        clear hL q HJ' HJ
        go_wp2_with fail
        refine Calls.mono (Q.out _) ?_
        rintro e w1 ⟨rfl, hB1⟩
        have HB4 : Hid (Below w.heap.size w w1) := HB.out.trans (hB1.mono HB.out.size)
        go_wp2
        go_ret
        exact ⟨rfl, HB4.out⟩

end Go.Proofs.YtgkablmglkagfaaDoor
