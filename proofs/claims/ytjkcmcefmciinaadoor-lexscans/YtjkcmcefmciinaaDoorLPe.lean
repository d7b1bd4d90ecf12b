/- The contract of the program's own Scan. -/
import Derived.Test.YtjkcmcefmciinaaDoorLPd
namespace Go.Proofs.YtjkcmcefmciinaaDoor
open Go.RowKit
set_option linter.unusedVariables false
set_option linter.unusedSimpArgs false

set_option maxHeartbeats 400000 in
theorem pclaim2 {w : World} {g base : Nat} {v o : Value} {D : List Int} {U O : Bool} {out : List Tk} (hA : Hid (Ah w g base v D U O)) (ho : Hid (To w base o out)) (HD : Hid (∀ c ∈ D, 0 ≤ c ∧ c ≤ 255)) :
    Calls Tryd.prog 20 #[.pointer (some ⟨g, 0, none⟩)] w fun e w' => e = .returned (.string (strOfNums (if U = true then [] else D))) ∧ Ah w' g base v D true O ∧ To w' base o out ∧ Below base w w' ∧ w'.heap.size = w.heap.size ∧ ∀ b, b ≠ g → w'.heap[b]? = w.heap[b]? := by
  obtain ⟨c0, c1, c2, f0, f1, f2⟩ := hA.out.cells
  have hg := hA.out.2.1
  cases U with
  | true =>
    go_enter Tryd.func20, Tryd.ntmps20
    go_wp2
    go_ret
    exact ⟨rfl, hA.out, ho.out, Below.refl _ _, rfl, fun _ _ => rfl⟩
  | false =>
    obtain ⟨a, c, rfl⟩ := own_slice hA.out.2.2
    have h1 : Ah (w.setCell ⟨g, 1, none⟩ (.bool true)) g base (.slice a D.length c) D true O := hA.out.set 1 _ rfl hA.out.2.2
    have hcv := (Bs.of_owns h1.2.2 HD.out).conv
    have H1 : Hid _ := h1
    clear h1
    go_enter Tryd.func20, Tryd.ntmps20
    go_wp2
    go_ret
    exact ⟨rfl, H1.out, ho.out.set hA.out 1 _, (Below.refl base w).setCell (p := ⟨g, 1, none⟩) hg _, by simp [World.setCell], fun b hb => Below.heap_setCell w ⟨g, 1, none⟩ _ b hb⟩

/-- A store into a block that is not the row's. -/
theorem own_set_ne {w : World} {base : Nat} {e : TypeId} {z n : Nat} {v : Value} {xs : List Value} (h : w.ownsRow base e z v n xs) (p : Addr) (hne : v.ownBlock ≠ some p.block) (u : Value) : (w.setCell p u).ownsRow base e z v n xs := by
  refine ⟨h.1, ?_⟩
  rcases h.2 with hn | ⟨a, c2, cur, rfl, ha, hh, hr⟩
  · exact .inl hn
  · refine .inr ⟨a, c2, cur, rfl, ha, ?_, hr⟩
    rw [Below.heap_setCell w p u a ?_]
    · exact hh
    · rintro rfl
      exact hne rfl

theorem ltok_doc (s : List Int) (i : Nat) (doc : List Int) : ltok s i doc = match ltok s i [] with
    | .inl (t, k) => .inl ({ t with doc := doc }, k)
    | .inr x => .inr x := by
  unfold ltok
  split
  · simp only
    split
    · split <;> rfl
    · rfl
  · split
    · split <;> rfl
    · split <;> rfl

theorem lsc_end (s : List Int) (f : Nat) (out : List Tk) (ms : List Nat) : lsc s (f + 1) s.length out ms = (out ++ [⟨0, [], 0, s.length, ldoc s s.length ms⟩], 0, 0) := by
  rw [lsc, Nat.sub_self, lrun]
  simp only
  rw [if_pos trivial]

theorem lsc_tok (s : List Int) (f k : Nat) (out : List Tk) (ms : List Nat) (hk : k < s.length) (hb : lblank (s.getD k 0) = false) (h1 : ¬ (k + 1 < s.length ∧ s.getD k 0 = 47 ∧ s.getD (k + 1) 0 = 47)) (h2 : ¬ (k + 1 < s.length ∧ s.getD k 0 = 47 ∧ s.getD (k + 1) 0 = 42)) :
    lsc s (f + 1) k out ms = match ltok s k (ldoc s k ms) with
      | .inl (t, j) => lsc s f j (out ++ [t]) ms
      | .inr (p, e) => ([], p, e) := by
  rw [lsc, lrun_here s k hb]
  simp only
  rw [if_neg (by omega), if_neg h1, if_neg h2]
  rfl

theorem ltok_err (s : List Int) (i : Nat) (d : List Int) (p e : Int) (h : ltok s i d = .inr (p, e)) : e ≠ 0 := by
  unfold ltok at h
  by_cases k1 : lletter (s.getD i 0) = true
  · rw [if_pos k1] at h
    simp only at h
    by_cases k2 : lnumb (s.getD i 0) = true
    · rw [if_pos k2] at h
      split at h
      · simp at h
      · simp only [Sum.inr.injEq, Prod.mk.injEq] at h; omega
    · rw [if_neg k2] at h; simp at h
  · rw [if_neg k1] at h
    by_cases k2 : s.getD i 0 = 34 ∨ s.getD i 0 = 39
    · rw [if_pos k2] at h
      by_cases k3 : (qtake (s.drop i)).2.2 = 0
      · rw [if_pos k3] at h; simp at h
      · rw [if_neg k3] at h
        simp only [Sum.inr.injEq, Prod.mk.injEq] at h
        rw [← h.2]; exact k3
    · rw [if_neg k2] at h
      split at h
      · simp at h
      · simp only [Sum.inr.injEq, Prod.mk.injEq] at h; omega

theorem ltok_ok (s : List Int) (i : Nat) (d : List Int) (t : Tk) (k : Nat) (hi : i < s.length) (hz : ∀ c ∈ s, 0 ≤ c ∧ c ≤ 255) (h : ltok s i d = .inl (t, k)) : t.kind ≠ 0 ∧ t.pos = i ∧ i < k ∧ k ≤ s.length ∧ (∀ p, i ≤ p → p < k → s.getD p 0 ≠ 10) ∧ ∀ c ∈ t.text, 0 ≤ c ∧ c ≤ 255 := by
  unfold ltok at h
  have hpc : ∀ a b, ∀ c ∈ lpc s a b, 0 ≤ c ∧ c ≤ 255 := fun a b c hc => hz c (List.mem_of_mem_take (List.mem_of_mem_drop hc))
  by_cases k1 : lletter (s.getD i 0) = true
  · rw [if_pos k1] at h
    simp only at h
    have hge := lrun_ge lletter s s.length (s.length - (i + 1)) (i + 1)
    have hle := lrun_le lletter s s.length (s.length - (i + 1)) (i + 1) (by omega)
    have hno : ∀ p, i ≤ p → p < lrun lletter s s.length (s.length - (i + 1)) (i + 1) → s.getD p 0 ≠ 10 := by
      intro p h1 h2 h10
      have : lletter (s.getD p 0) = true := by
        by_cases e : p = i
        · rw [e]; exact k1
        · exact (lrun_holds lletter s s.length _ _ p (by omega) h2).1
      rw [h10] at this
      exact absurd this (by decide)
    by_cases k2 : lnumb (s.getD i 0) = true
    · rw [if_pos k2] at h
      split at h
      · simp only [Sum.inl.injEq, Prod.mk.injEq] at h
        obtain ⟨rfl, rfl⟩ := h
        exact ⟨(by decide : (2 : Int) ≠ 0), rfl, by omega, hle, hno, by simp⟩
      · simp at h
    · rw [if_neg k2] at h
      simp only [Sum.inl.injEq, Prod.mk.injEq] at h
      obtain ⟨rfl, rfl⟩ := h
      exact ⟨(by decide : (1 : Int) ≠ 0), rfl, by omega, hle, hno, hpc _ _⟩
  · rw [if_neg k1] at h
    by_cases k2 : s.getD i 0 = 34 ∨ s.getD i 0 = 39
    · rw [if_pos k2] at h
      by_cases k3 : (qtake (s.drop i)).2.2 = 0
      · rw [if_pos k3] at h
        simp only [Sum.inl.injEq, Prod.mk.injEq] at h
        obtain ⟨rfl, rfl⟩ := h
        obtain ⟨n, h1, h2, h3, h4⟩ := qtake_no10 (s.drop i) k3
        rw [List.length_drop] at h2
        rw [h1, Int.toNat_natCast]
        refine ⟨(by decide : (3 : Int) ≠ 0), rfl, by omega, by omega, fun p g1 g2 => ?_, qtake_bd _ (fun c hc => hz c (List.mem_of_mem_drop hc))⟩
        have := h4 (p - i) (by omega)
        rw [getD_drop', show i + (p - i) = p by omega] at this
        exact this
      · rw [if_neg k3] at h; simp at h
    · rw [if_neg k2] at h
      by_cases k3 : lsign (s.getD i 0) = true
      · rw [if_pos k3] at h
        simp only [Sum.inl.injEq, Prod.mk.injEq] at h
        obtain ⟨rfl, rfl⟩ := h
        refine ⟨(by decide : (4 : Int) ≠ 0), rfl, by omega, by omega, fun p g1 g2 h10 => ?_, hpc _ _⟩
        rw [show p = i by omega] at h10
        rw [h10] at k3
        exact absurd k3 (by decide)
      · rw [if_neg k3] at h; simp at h

theorem tok_facts {w : World} {g : Nat} {v0 v1 v2 v3 v4 : Value} {e : TypeId} (h : w.heap[g]? = some (.cells #[v0, v1, v2, v3, v4] e (0, 0))) :
    w.cell? ⟨g, 0, none⟩ = some v0 ∧ w.cell? ⟨g, 1, none⟩ = some v1 ∧ w.cell? ⟨g, 2, none⟩ = some v2 ∧ w.cell? ⟨g, 3, none⟩ = some v3 ∧ w.cell? ⟨g, 4, none⟩ = some v4 ∧ w.frozen? ⟨g, 4, none⟩ = false := by
  refine ⟨?_, ?_, ?_, ?_, ?_, ?_⟩ <;> simp [World.cell?, World.frozen?, h]

/-- What stands behind the claim, ahead of the append: the token's own block is filled, what is remembered and the tokens so far stand. -/
theorem claimed {w w2 w3 : World} {v1 o : Value} {D1 doc : List Int} {O1 : Bool} {out : List Tk} {kd n : Int} {tx : List Int} {ps : Nat} (hB2 : Below w.heap.size w w2) (ho2 : To w2 w.heap.size o out) (hlt : w.heap.size < w2.heap.size)
    (hA3 : Ah w3 w.heap.size w.heap.size v1 D1 true O1) (hTo3 : To w3 w.heap.size o out) (hb3 : Below w.heap.size (w2.alloc (.cells #[.int .i64 kd, .string (strOfNums tx), .int .u64 n, .int .i64 (ps : Int), .string { data := #[] }] 40)) w3)
    (hs3 : w3.heap.size = w2.heap.size + 1) (hh3 : w3.heap[w2.heap.size]? = some (.cells #[.int .i64 kd, .string (strOfNums tx), .int .u64 n, .int .i64 (ps : Int), .string { data := #[] }] 40 (0, 0))) :
    Ah (w3.setCell ⟨w2.heap.size, 4, none⟩ (.string (strOfNums doc))) w.heap.size w.heap.size v1 D1 true O1 ∧ To (w3.setCell ⟨w2.heap.size, 4, none⟩ (.string (strOfNums doc))) w.heap.size o out ∧
    Below w.heap.size w (w3.setCell ⟨w2.heap.size, 4, none⟩ (.string (strOfNums doc))) ∧ (w3.setCell ⟨w2.heap.size, 4, none⟩ (.string (strOfNums doc))).heap.size = w2.heap.size + 1 ∧
    (w3.setCell ⟨w2.heap.size, 4, none⟩ (.string (strOfNums doc))).heap[w2.heap.size]? = some (.cells #[.int .i64 kd, .string (strOfNums tx), .int .u64 n, .int .i64 (ps : Int), .string (strOfNums doc)] 40 (0, 0)) := by
  have hne : o.ownBlock ≠ some w2.heap.size := fun h => by have := (ho2.1.lt _ h).2; omega
  refine ⟨⟨?_, Nat.le_refl _, own_set hA3.2.2 hh3 (by decide) 4 _⟩, ⟨own_set_ne hTo3.1 ⟨w2.heap.size, 4, none⟩ hne _, hTo3.2⟩, ?_, ?_, set_heap hh3 4 _⟩
  · rw [Below.heap_setCell w3 ⟨w2.heap.size, 4, none⟩ _ w.heap.size (by simp only; omega)]
    exact hA3.1
  · exact (((hB2.alloc (by omega) _).trans hb3).setCell (p := ⟨w2.heap.size, 4, none⟩) (Nat.le_of_lt hlt) _)
  · simp only [World.setCell, Array.size_modify]; exact hs3

/-- What stands behind the append. -/
theorem appended {w w4 w5 : World} {v1 o : Value} {D1 : List Int} {O1 : Bool} {out : List Tk} {tb : Nat} {cs : Array Value} {ob : Obj} (hlt : w.heap.size < tb) (htb : w4.heap.size = tb + 1) (hA : Ah w4 w.heap.size w.heap.size v1 D1 true O1) (hTo : To w4 w.heap.size o out) (hB : Below w.heap.size w w4)
    (hne : o.ownBlock ≠ some tb) (hh : w4.heap[tb]? = some (.cells cs 40 (0, 0))) (hg : (w4.alloc ob).grownBy w5 o.ownBlock) :
    Ah w5 w.heap.size w.heap.size v1 D1 true O1 ∧ Below w.heap.size w w5 ∧ w5.heap[tb]? = some (.cells cs 40 (0, 0)) := by
  have hA' := hA.below ((Below.refl w4.heap.size w4).alloc (Nat.le_refl _) ob)
  have hTo' := hTo.below ((Below.refl w4.heap.size w4).alloc (Nat.le_refl _) ob)
  refine ⟨⟨blk_grown hA'.1 hTo'.1 (by decide) hg, Nat.le_refl _, own_other hA'.2.2 hTo'.1 (by decide) hg⟩, ?_, ?_⟩
  · exact (hB.alloc (by omega) ob).grown hg (by simp; omega) (fun k hk => (hTo'.1.lt k hk).1)
  · rw [hg.block tb (by simp; omega) (fun h => hne h.symm), Below.heap_alloc w4 ob tb (by omega)]
    exact hh

/-- What holds at Scan's label. -/
def NJ (w : World) (S : ByteArray) (s : List Int) (R : List Tk × Int × Int) (a' : Act) (wr : World) : Prop :=
  ∃ (i f : Nat) (ms : List Nat) (v o : Value) (D : List Int) (U O : Bool) (out : List Tk) (us : Nat → Value), a' = { tmps := #[.string S, undef, .slice none 0 0, .int .i64 0, .int .i64 0, o, .pointer (some ⟨w.heap.size, 0, none⟩), .int .i64 (i : Int), us 8, us 9, us 10, us 11, us 12, us 13, us 14, us 15, us 16, us 17, us 18, us 19, us 20, us 21, us 22, us 23, us 24, us 25, us 26, us 27, us 28, us 29, us 30, us 31, us 32, us 33, us 34, us 35, us 36, us 37, us 38, us 39, us 40, us 41, us 42, us 43, us 44, us 45, us 46], defers := [] } ∧
    i ≤ s.length ∧ s.length < i + f ∧ Hid (R = lsc s f i out ms) ∧ Hid (Rel s ms i D U O) ∧ Hid (∀ c ∈ D, 0 ≤ c ∧ c ≤ 255) ∧ D.length ≤ i ∧ out.length ≤ i ∧ Hid (Ah wr w.heap.size w.heap.size v D U O) ∧ Hid (To wr w.heap.size o out) ∧ Hid (Below w.heap.size w wr)

theorem NJ.mk {w : World} {S : ByteArray} {s : List Int} {R : List Tk × Int × Int} {a' : Act} {wr : World} (i f : Nat) (ms : List Nat) (v o : Value) (D : List Int) (U O : Bool) (out : List Tk) (us : Nat → Value) (_hu : us = fun k => a'.tmps.getD k undef)
    (h1 : a' = { tmps := #[.string S, undef, .slice none 0 0, .int .i64 0, .int .i64 0, o, .pointer (some ⟨w.heap.size, 0, none⟩), .int .i64 (i : Int), us 8, us 9, us 10, us 11, us 12, us 13, us 14, us 15, us 16, us 17, us 18, us 19, us 20, us 21, us 22, us 23, us 24, us 25, us 26, us 27, us 28, us 29, us 30, us 31, us 32, us 33, us 34, us 35, us 36, us 37, us 38, us 39, us 40, us 41, us 42, us 43, us 44, us 45, us 46], defers := [] })
    (h2 : i ≤ s.length) (h3 : s.length < i + f) (h4 : R = lsc s f i out ms) (h5 : Rel s ms i D U O) (h6 : ∀ c ∈ D, 0 ≤ c ∧ c ≤ 255) (h7 : D.length ≤ i) (h7' : out.length ≤ i) (h8 : Ah wr w.heap.size w.heap.size v D U O) (h9 : To wr w.heap.size o out) (h10 : Below w.heap.size w wr) : NJ w S s R a' wr :=
  ⟨i, f, ms, v, o, D, U, O, out, us, h1, h2, h3, h4, h5, h6, h7, h7', h8, h9, h10⟩

set_option maxRecDepth 10000 in
set_option maxHeartbeats 2000000 in
theorem pscan_go (S : ByteArray) (s : List Int) (w : World) (hT : Hid (LTab w)) (HS : Hid (Src S s)) (HL : Hid (s.length ≤ 100000)) (R : List Tk × Int × Int) (HR : Hid (R = lsc s (s.length + 1) 0 [] [])) :
    Calls Tryd.prog 10 #[.string S] w fun e w' => ScanEnd w R e w' := by
  have hsz := HS.out.sz
  have hlen : (s.length : Int) ≤ 100000 := by have := HL.out; omega
  have hlen2 : decide ((100000 : Int) < (s.length : Int)) = false := by have := HL.out; simp; omega
  have HTB : Hid (∀ W, Below w.heap.size w W → LTab W) := fun W hW => hT.out.below hW (Nat.le_refl _)
  go_enter Tryd.func10, Tryd.ntmps10
  go_wp2
  refine wp_scope_loop 0 (NJ w S s R) (fun a' _ => s.length - (intOf (a'.tmps.getD 7 undef)).toNat) rfl ?_ ?_
  · intro HJ
    go_wp2
    go_step3
    rename_i hK
    refine hK _ _ ?_
    refine HJ.out _ _ ?_
    exact NJ.mk 0 (s.length + 1) [] (.slice none 0 0) (.slice none 0 0) [] false false [] _ rfl rfl (by omega) (by omega) HR.out (Rel.start s) (by simp) (by simp) (by simp) ⟨heap_alloc_new w _, Nat.le_refl _, World.ownsRow_nil _ _ _ _⟩ (To.nil _ _) ((Below.refl _ _).alloc (Nat.le_refl _) _)
  · rintro a' wr ⟨i, f, ms, v, o, D, U, O, out, us, rfl, hi, hf, HR, HRel, HD, hD, hol, HA, HTo, HB⟩
    have Q := fun (hb : Hid (∀ W, Below w.heap.size wr W → LTab W)) => pskip_any S s R i f w.heap.size w.heap.size out ms v o D U O wr HS HL hi hf HR HRel HD hD HA HTo hb HB.out.size
    have HTr : Hid (∀ W, Below w.heap.size wr W → LTab W) := fun W hW => HTB.out W (HB.out.trans hW)
    have QS : Hid _ := Q HTr
    clear Q
    go_wp2_with fail
    refine Calls.mono QS.out ?_
    rintro e w1 (⟨k, f1, ms1, v1, D1, U1, O1, rfl, hik, hk, hf1, HR1, HK, HRel1, HD1, hD1, HA1, HTo1, hb1⟩ | ⟨k, rfl, hE, hb1⟩)
    · obtain ⟨f2, rfl⟩ : ∃ f2, f1 = f2 + 1 := ⟨f1 - 1, by omega⟩
      have q := ptake_any S s k w1 HS HL hk (HTr.out w1 hb1).1
      have HB1 : Hid (Below w.heap.size w w1) := HB.out.trans hb1
      have hdoc := HRel1.out.doc
      obtain ⟨doc, hdc⟩ : ∃ doc, doc = if U1 = true then [] else D1 := ⟨_, rfl⟩
      have HDC : Hid (doc = if U1 = true then [] else D1) := hdc
      have HDB : Hid (∀ c ∈ doc, 0 ≤ c ∧ c ≤ 255) := by
        show ∀ c ∈ doc, 0 ≤ c ∧ c ≤ 255
        rw [hdc]
        split
        · simp
        · exact HD1.out
      rw [← hdc] at hdoc
      clear hdc HR HRel HD HA HTo QS HTr
      by_cases hkl : k = s.length
      · subst hkl
        rw [if_pos rfl] at q
        rw [tkv] at q
        have E := HR1.out
        rw [lsc_end, hdoc] at E
        have QT : Hid _ := q
        have HE : Hid _ := E
        have HTX : Hid (∀ c ∈ ([] : List Int), 0 ≤ c ∧ c ≤ 255) := fun c hc => by simp at hc
        have hn1 : out.length + 1 ≤ 1000000 := by omega
        clear q E
        go_wp2_with fail
        refine Calls.mono QT.out ?_
        rintro e w2 ⟨rfl, hb2⟩
        have hB2 : Below w.heap.size w w2 := HB1.out.trans (hb2.mono HB1.out.size)
        have HA2 : Hid (Ah (w2.alloc (.cells #[.int .i64 0, .string (strOfNums []), .int .u64 0, .int .i64 (s.length : Int), .string { data := #[] }] 40)) w.heap.size w.heap.size v1 D1 U1 O1) := (HA1.out.below hb2).below ((Below.refl _ _).alloc (Nat.le_refl _) _)
        have HTo2 : Hid (To (w2.alloc (.cells #[.int .i64 0, .string (strOfNums []), .int .u64 0, .int .i64 (s.length : Int), .string { data := #[] }] 40)) w.heap.size o out) := (HTo1.out.below hb2).below ((Below.refl _ _).alloc (Nat.le_refl _) _)
        have qc := pclaim2 HA2 HTo2 HD1
        rw [← HDC.out] at qc
        have QC : Hid _ := qc
        clear qc
        go_wp2_with fail
        refine Calls.mono QC.out ?_
        rintro e w3 ⟨rfl, hA3, hTo3, hb3, hs3, hk3⟩
        have hlt2 : w.heap.size < w2.heap.size := Nat.lt_of_lt_of_le HA1.out.lt hb2.size
        have hh3 := (hk3 w2.heap.size (by omega)).trans (heap_alloc_new w2 _)
        have hs3' : w3.heap.size = w2.heap.size + 1 := by rw [hs3]; simp
        obtain ⟨hA4, hTo4, hB4, hs4, hh4⟩ := claimed (kd := 0) (tx := []) (n := 0) (ps := s.length) (doc := doc) hB2 (HTo1.out.below hb2) hlt2 hA3 hTo3 hb3 hs3' hh3
        have hne4 : o.ownBlock ≠ some w2.heap.size := fun h => by have := ((HTo1.out.below hb2).1.lt _ h).2; omega
        obtain ⟨d0, d1, d2, d3, d4, e4⟩ := tok_facts hh3
        obtain ⟨g0, g1, g2, g3, g4, _⟩ := tok_facts hh4
        have HTA : Hid (To ((w3.setCell ⟨w2.heap.size, 4, none⟩ (.string (strOfNums doc))).alloc (.cells #[.int .i64 0, .string (strOfNums []), .int .u64 0, .int .i64 ((s.length : Nat) : Int), .string (strOfNums doc)] 40)) w.heap.size o out) := hTo4.below ((Below.refl _ _).alloc (Nat.le_refl _) _)
        have hcl := tok_cells (w3.setCell ⟨w2.heap.size, 4, none⟩ (.string (strOfNums doc))) ⟨0, [], 0, s.length, doc⟩ #[.int .i64 0, .string (strOfNums []), .int .u64 0, .int .i64 ((s.length : Nat) : Int), .string (strOfNums doc)] rfl
        rw [hs4] at hcl
        have HCL : Hid _ := hcl
        have HOK : Hid (Tk.ok ⟨0, [], 0, s.length, doc⟩) := ⟨HTX.out, HDB.out⟩
        have HBA : Hid (w.heap.size ≤ ((w3.setCell ⟨w2.heap.size, 4, none⟩ (.string (strOfNums doc))).alloc (.cells #[.int .i64 0, .string (strOfNums []), .int .u64 0, .int .i64 ((s.length : Nat) : Int), .string (strOfNums doc)] 40)).heap.size) := (hB4.alloc hB4.size _).size
        have HA4 : Hid (Ah _ _ _ _ _ _ _) := hA4
        have HTo4 : Hid (To _ _ _ _) := hTo4
        have HB4 : Hid (Below _ _ _) := hB4
        have HH4 : Hid _ := hh4
        have HS4 : Hid _ := hs4
        clear hA3 hTo3 hb3 hs3 hk3 hh3 hA4 hTo4 hB4 hh4 hcl
        go_wp2_with (at_builtin; refine wpList_append_tok rfl _ _ rfl w.heap.size _ out ⟨0, [], 0, s.length, doc⟩ (w2.heap.size + 1) 1 rfl rfl HTA.out HOK.out HCL.out hn1 HBA.out ?_; intro o2 w5 hTo5 hgrow5; obtain ⟨hA5, hB5, hh5⟩ := appended hlt2 HS4.out HA4.out HTo4.out HB4.out hne4 HH4.out hgrow5; obtain ⟨y0, y1, y2, y3, y4, y5⟩ := tok_facts hh5; have HA5 : Hid (Ah _ _ _ _ _ _ _) := hA5; have HTo5 : Hid (To _ _ _ _) := hTo5; have HB5 : Hid (Below _ _ _) := hB5; clear hA5 hB5 hh5 hgrow5 hTo5)
        simp only [Exit.jump]
        go_ret3
        exact ⟨o2, by rw [HE.out]; rfl, by rw [HE.out]; exact HTo5.out, HB5.out⟩
      · rw [if_neg hkl] at q
        have hkl' : k < s.length := by omega
        obtain ⟨hbl, n1, n2⟩ := HK.out.resolve_left hkl
        have E := HR1.out
        rw [lsc_tok s f2 k out ms1 hkl' hbl n1 n2, ltok_doc, hdoc] at E
        cases hX : ltok s k [] with
        | inr x =>
          obtain ⟨p, e⟩ := x
          rw [hX] at q E
          simp only at E
          have he : (e != 0) = true := by simpa using ltok_err s k [] p e hX
          rw [tkv] at q
          have QT : Hid _ := q
          have HE : Hid (R = ([], p, e)) := E
          clear q E hX n1 n2 hbl
          go_wp2_with fail
          refine Calls.mono QT.out ?_
          rintro e w2 ⟨rfl, hb2⟩
          go_wp2
          simp only [Exit.jump]
          go_ret3
          have hB2 : Below w.heap.size w w2 := HB1.out.trans (hb2.mono HB1.out.size)
          exact ScanEnd_no _ _ HE.out (hB2.alloc hB2.size _)
        | inl x =>
          obtain ⟨t, k2⟩ := x
          rw [hX] at q E
          simp only at E
          obtain ⟨hkd, hps, hlt, hle, h10, htx⟩ := ltok_ok s k [] t k2 hkl' (mem_bd HS.out.bd) hX
          have HRel2 : Hid (Rel s ms1 k2 D1 true O1) := HRel1.out.tok hkl' hlt h10 hbl (fun h => n1 ⟨by
            rcases Nat.lt_or_ge (k + 1) s.length with g | g
            · exact g
            · have h2 := h.2; rw [List.getD, List.getElem?_eq_none g] at h2; simp at h2, h⟩)
          obtain ⟨kd, tx, n, ps, dd⟩ := t
          simp only at hkd hps htx E
          subst hps
          have hkd' : (kd != 0) = true := by simpa using hkd
          rw [tkv] at q
          have QT : Hid _ := q
          have HE : Hid _ := E
          have HTX : Hid _ := htx
          have hn1 : out.length + 1 ≤ 1000000 := by omega
          clear q E hX n1 n2 hbl h10 hkd htx
          go_wp2_with fail
          refine Calls.mono QT.out ?_
          rintro e w2 ⟨rfl, hb2⟩
          have hB2 : Below w.heap.size w w2 := HB1.out.trans (hb2.mono HB1.out.size)
          have HA2 : Hid (Ah (w2.alloc (.cells #[.int .i64 kd, .string (strOfNums tx), .int .u64 n, .int .i64 (ps : Int), .string { data := #[] }] 40)) w.heap.size w.heap.size v1 D1 U1 O1) := (HA1.out.below hb2).below ((Below.refl _ _).alloc (Nat.le_refl _) _)
          have HTo2 : Hid (To (w2.alloc (.cells #[.int .i64 kd, .string (strOfNums tx), .int .u64 n, .int .i64 (ps : Int), .string { data := #[] }] 40)) w.heap.size o out) := (HTo1.out.below hb2).below ((Below.refl _ _).alloc (Nat.le_refl _) _)
          have qc := pclaim2 HA2 HTo2 HD1
          rw [← HDC.out] at qc
          have QC : Hid _ := qc
          clear qc
          go_wp2_with fail
          refine Calls.mono QC.out ?_
          rintro e w3 ⟨rfl, hA3, hTo3, hb3, hs3, hk3⟩
          have hlt2 : w.heap.size < w2.heap.size := Nat.lt_of_lt_of_le HA1.out.lt hb2.size
          have hh3 := (hk3 w2.heap.size (by omega)).trans (heap_alloc_new w2 _)
          have hs3' : w3.heap.size = w2.heap.size + 1 := by rw [hs3]; simp
          obtain ⟨hA4, hTo4, hB4, hs4, hh4⟩ := claimed (kd := kd) (tx := tx) (n := n) (ps := ps) (doc := doc) hB2 (HTo1.out.below hb2) hlt2 hA3 hTo3 hb3 hs3' hh3
          have hne4 : o.ownBlock ≠ some w2.heap.size := fun h => by have := ((HTo1.out.below hb2).1.lt _ h).2; omega
          obtain ⟨d0, d1, d2, d3, d4, e4⟩ := tok_facts hh3
          obtain ⟨g0, g1, g2, g3, g4, _⟩ := tok_facts hh4
          have HTA : Hid (To ((w3.setCell ⟨w2.heap.size, 4, none⟩ (.string (strOfNums doc))).alloc (.cells #[.int .i64 kd, .string (strOfNums tx), .int .u64 n, .int .i64 ((ps : Nat) : Int), .string (strOfNums doc)] 40)) w.heap.size o out) := hTo4.below ((Below.refl _ _).alloc (Nat.le_refl _) _)
          have hcl := tok_cells (w3.setCell ⟨w2.heap.size, 4, none⟩ (.string (strOfNums doc))) ⟨kd, tx, n, ps, doc⟩ #[.int .i64 kd, .string (strOfNums tx), .int .u64 n, .int .i64 ((ps : Nat) : Int), .string (strOfNums doc)] rfl
          rw [hs4] at hcl
          have HCL : Hid _ := hcl
          have HOK : Hid (Tk.ok ⟨kd, tx, n, ps, doc⟩) := ⟨HTX.out, HDB.out⟩
          have HBA : Hid (w.heap.size ≤ ((w3.setCell ⟨w2.heap.size, 4, none⟩ (.string (strOfNums doc))).alloc (.cells #[.int .i64 kd, .string (strOfNums tx), .int .u64 n, .int .i64 ((ps : Nat) : Int), .string (strOfNums doc)] 40)).heap.size) := (hB4.alloc hB4.size _).size
          have HA4 : Hid (Ah _ _ _ _ _ _ _) := hA4
          have HTo4 : Hid (To _ _ _ _) := hTo4
          have HB4 : Hid (Below _ _ _) := hB4
          have HH4 : Hid _ := hh4
          have HS4 : Hid _ := hs4
          clear hA3 hTo3 hb3 hs3 hk3 hh3 hA4 hTo4 hB4 hh4 hcl
          go_wp2_with (at_builtin; refine wpList_append_tok rfl _ _ rfl w.heap.size _ out ⟨kd, tx, n, ps, doc⟩ (w2.heap.size + 1) 1 rfl rfl HTA.out HOK.out HCL.out hn1 HBA.out ?_; intro o2 w5 hTo5 hgrow5; obtain ⟨hA5, hB5, hh5⟩ := appended hlt2 HS4.out HA4.out HTo4.out HB4.out hne4 HH4.out hgrow5; obtain ⟨y0, y1, y2, y3, y4, y5⟩ := tok_facts hh5; have HA5 : Hid (Ah _ _ _ _ _ _ _) := hA5; have HTo5 : Hid (To _ _ _ _) := hTo5; have HB5 : Hid (Below _ _ _) := hB5; clear hA5 hB5 hh5 hgrow5 hTo5)
          go_step3
          refine ⟨rfl, NJ.mk k2 f2 ms1 v1 o2 D1 true O1 (out ++ [⟨kd, tx, n, ps, doc⟩]) _ rfl rfl (by omega) (by omega) HE.out HRel2.out HD1.out (by omega) (by simp; omega) HA5.out HTo5.out HB5.out, ?_⟩
          simp [intOf]
          omega
    · go_wp2
      simp only [Exit.jump]
      go_ret3
      exact ScanEnd_no _ _ hE (HB.out.trans hb1)

theorem pscan_any (s : List Int) (w : World) (hT : Hid (LTab w)) (hz : Hid (∀ i, 0 ≤ s.getD i 0 ∧ s.getD i 0 ≤ 255)) (hlen : s.length ≤ 100000) :
    Calls Tryd.prog 10 #[.string (strOfNums s)] w fun e w' => ScanEnd w (lscan s) e w' := by
  rw [lscan, if_neg (by omega)]
  exact pscan_go (strOfNums s) s w hT ⟨strOfNums_size s, hz.out, rfl⟩ hlen _ rfl

end Go.Proofs.YtjkcmcefmciinaaDoor
