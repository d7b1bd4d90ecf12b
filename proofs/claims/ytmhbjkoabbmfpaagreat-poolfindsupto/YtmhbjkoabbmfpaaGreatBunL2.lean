/- Put together by a program out of these texts of mine: NPe, HMath, HMem, JMap. -/
import Derived.Deep.RegionWith
import Derived.SliceStrings
import Derived.Maps.AppendAt
import Derived.Maps.Own
import Derived.Test.YtmhbjkoabbmfpaaGreatBunL1

namespace Go.Proofs.YtmhbjkoabbmfpaaGreat
open Go.RowKit
set_option linter.unusedVariables false
set_option linter.unusedSimpArgs false

theorem nul_of (l : List Int) : (⟨(l.map fun n => UInt8.ofNat n.toNat).toArray⟩ : ByteArray) = strOfNums l := by
  apply ByteArray.ext
  apply Array.ext'
  rw [strOfNums_data]

set_option maxHeartbeats 400000 in
theorem pnclone_any (S : ByteArray) (w : World) (hlen : S.size ≤ 1000000) :
    Calls Tryz.prog 45 #[.string S] w fun e w' => e = .returned (.string S) ∧ Below w.heap.size w w' := by
  have Q : Hid _ := Sh.stringslite_Clone S w (by omega)
  go_enter Tryz.func45, Tryz.ntmps45
  go_wp2_with fail
  refine Calls.mono Q.out ?_
  rintro e w1 ⟨rfl, hb⟩
  go_wp2
  go_ret
  exact ⟨rfl, hb⟩

set_option maxHeartbeats 1000000 in
theorem pjoin_any (a b : List Int) (w : World) (hT : Hid (NTab w)) (ha : Hid (byts a)) (hb : Hid (byts b)) (hl : a.length ≤ 10000) (hl2 : b.length ≤ 10000) :
    Calls Tryz.prog 57 #[.string (strOfNums a), .string (strOfNums b)] w fun e w' => e = .returned (.string (strOfNums (njoin a b))) ∧ Below w.heap.size w w' := by
  unfold njoin
  by_cases h : a = []
  · rw [if_pos h]
    have hne : ((strOfNums a).toList == []) = true := by rw [h, str_list]; rfl
    have Q : Hid _ := fun W => pnclone_any (strOfNums b) W (by rw [strOfNums_size]; omega)
    generalize strOfNums a = A at hne
    generalize strOfNums b = B at Q
    go_enter Tryz.func57, Tryz.ntmps57
    go_wp2_with fail
    refine Calls.mono (Q.out _) ?_
    rintro e w1 ⟨rfl, hb1⟩
    go_wp2
    go_ret
    exact ⟨rfl, hb1⟩
  · rw [if_neg h]
    have hne : ((strOfNums a).toList == []) = false := by
      cases a with
      | nil => exact absurd rfl h
      | cons c r => exact str_ne c r
    have h1 : ∀ W, (Op.stringOp .add (strOfNums a) { data := #[46] }).run Tryz.prog W = .ok (.string (strOfNums (a ++ [46]))) W := fun W => run_add W a [46] (by simp; omega)
    have h2 : ∀ W, (Op.stringOp .add (strOfNums (a ++ [46])) (strOfNums b)).run Tryz.prog W = .ok (.string (strOfNums (a ++ [46] ++ b))) W := fun W => run_add W (a ++ [46]) b (by simp; omega)
    clear h
    generalize strOfNums (a ++ [46] ++ b) = R at h2
    generalize strOfNums (a ++ [46]) = AP at h1 h2
    generalize strOfNums a = A at hne h1
    generalize strOfNums b = B at h2
    go_enter Tryz.func57, Tryz.ntmps57
    go_wp2
    go_ret
    exact ⟨rfl, Below.refl _ _⟩

theorem str_bang (s : List Int) (hz : ∀ i, 0 ≤ s.getD i 0 ∧ s.getD i 0 ≤ 255) (j : Nat) (hj : j < s.length) : (((strOfNums s).data[j]!).toNat : Int) = s.getD j 0 := by
  have hj' : j < (strOfNums s).size := by rw [strOfNums_size]; exact hj
  have := str_at s hz j hj'
  rw [← this]
  have e := get_at (strOfNums s) j hj'
  rw [Nat.add_zero] at e
  rw [← e]
  rfl

theorem last_dot (s : List Int) (hz : ∀ i, 0 ≤ s.getD i 0 ∧ s.getD i 0 ≤ 255) : ∀ k, k ≤ s.length → Lib.lastIdx (strOfNums s) 46 k = (nlast s k : Int) - 1
  | 0, _ => rfl
  | k + 1, h => by
    rw [Lib.lastIdx, str_bang s hz k (by omega), nlast]
    by_cases e : s.getD k 0 = 46
    · rw [if_pos e, if_pos e]; omega
    · rw [if_neg e, if_neg e, last_dot s hz k (by omega)]

set_option maxHeartbeats 1000000 in
theorem pncut_any (s : List Int) (w : World) (hz : Hid (∀ i, 0 ≤ s.getD i 0 ∧ s.getD i 0 ≤ 255)) (hlen : (s.length : Int) ≤ 100000) :
    Calls Tryz.prog 104 #[.string (strOfNums s)] w fun e w' => e = .returned (.tuple #[.string (strOfNums (nparent s).1), .string (strOfNums (nparent s).2)]) ∧ Below w.heap.size w w' := by
  have hsz := strOfNums_size s
  have q := fun W => Sh.strings_LastIndex_one (strOfNums s) { data := #[46] } rfl (by omega) W
  have he : Lib.lastIndexByte (strOfNums s) (((({ data := #[46] } : ByteArray)[0]'(by decide)).toNat : Nat) : Int) = (nlast s s.length : Int) - 1 := by
    show Lib.lastIdx (strOfNums s) 46 (strOfNums s).size = _
    rw [hsz]
    exact last_dot s hz.out s.length (Nat.le_refl _)
  have q' : ∀ W, Calls Tryz.prog 64 #[.string (strOfNums s), .string { data := #[46] }] W fun e w' => e = .returned (.int .i64 ((nlast s s.length : Int) - 1)) ∧ w' = W := fun W => by rw [← he]; exact q W
  clear q he
  have hle := nlast_le s s.length
  by_cases h0 : nlast s s.length = 0
  · have E : Hid (nparent s = ([], s)) := by show _ = _; unfold nparent; rw [if_pos h0]
    rw [h0] at q'
    have Q : Hid (∀ W, Calls Tryz.prog 64 #[.string (strOfNums s), .string { data := #[46] }] W fun e w' => e = .returned (.int .i64 (-1)) ∧ w' = W) := q'
    have h1 := run_head s 0 (by omega) (by omega)
    have h2 := run_tail s 0 (by omega) 0 rfl
    rw [E.out]
    simp only [List.take_zero, List.drop_zero, Int.ofNat_zero] at h1 h2 ⊢
    have HE : Hid ((strOfNums s).extract 0 0 = strOfNums []) := by show _ = _; rw [str_cut]; simp
    obtain ⟨A, hA⟩ : ∃ A, A = strOfNums [] := ⟨_, rfl⟩
    rw [← hA] at h1 HE ⊢
    clear q' E hle h0 hA h1
    generalize strOfNums s = S at *
    go_enter Tryz.func104, Tryz.ntmps104
    go_wp2_with fail
    refine Calls.mono (Q.out _) ?_
    rintro e w1 ⟨rfl, rfl⟩
    go_wp2
    go_region
    go_wp2
    go_ret2
    refine ⟨?_, (Below.refl _ _).drew⟩
    show Ending.returned (Value.tuple #[.string (S.extract 0 0), .string S]) = _
    rw [HE.out]
  · obtain ⟨m, hm⟩ : ∃ m, nlast s s.length = m + 1 := ⟨nlast s s.length - 1, by omega⟩
    have E : Hid (nparent s = (s.take m, s.drop (m + 1))) := by show _ = _; unfold nparent; rw [if_neg h0, hm, Nat.add_sub_cancel]
    rw [hm, show (((m + 1 : Nat) : Int) - 1) = (m : Int) by omega] at q'
    have Q : Hid _ := q'
    have h1 := run_head s m (by omega) (by omega)
    have h2 := run_tail s (m + 1) (by omega) ((m : Int) + 1) (by omega)
    have hm1 : m + 1 ≤ s.length := by omega
    have hmx : ¬ (m : Int) < 0 := by omega
    have hmx2 : (0 : Int) ≤ (m : Int) := by omega
    rw [E.out]
    obtain ⟨A, hA⟩ : ∃ A, A = strOfNums (s.take m) := ⟨_, rfl⟩
    obtain ⟨B, hB⟩ : ∃ B, B = strOfNums (s.drop (m + 1)) := ⟨_, rfl⟩
    simp only []
    rw [← hA] at h1 ⊢
    rw [← hB] at h2 ⊢
    clear q' E hle h0 hA hB hm
    generalize strOfNums s = S at *
    go_enter Tryz.func104, Tryz.ntmps104
    go_wp2_with fail
    refine Calls.mono (Q.out _) ?_
    rintro e w1 ⟨rfl, rfl⟩
    go_wp2
    go_region
    go_wp2
    go_ret2
    exact ⟨rfl, (Below.refl _ _).drew⟩

set_option maxHeartbeats 1000000 in
theorem pparent_any (s : List Int) (w : World) (hT : Hid (NTab w)) (hz : Hid (∀ i, 0 ≤ s.getD i 0 ∧ s.getD i 0 ≤ 255)) (hlen : (s.length : Int) ≤ 100000) :
    Calls Tryz.prog 56 #[.string (strOfNums s)] w fun e w' => e = .returned (.tuple #[.string (strOfNums (nparent s).1), .string (strOfNums (nparent s).2)]) ∧ Below w.heap.size w w' := by
  have Q : Hid _ := pncut_any s w hz hlen
  have hl : (nparent s).1.length ≤ s.length ∧ (nparent s).2.length ≤ s.length := by unfold nparent; split <;> simp <;> omega
  have Q1 : Hid _ := fun W => pnclone_any (strOfNums (nparent s).1) W (by rw [strOfNums_size]; omega)
  have Q2 : Hid _ := fun W => pnclone_any (strOfNums (nparent s).2) W (by rw [strOfNums_size]; omega)
  clear hl
  generalize strOfNums (nparent s).1 = A at *
  generalize strOfNums (nparent s).2 = B at *
  go_enter Tryz.func56, Tryz.ntmps56
  go_wp2_with fail
  refine Calls.mono Q.out ?_
  rintro e w1 ⟨rfl, hb1⟩
  go_wp2_with fail
  refine Calls.mono (Q1.out _) ?_
  rintro e w2 ⟨rfl, hb2⟩
  go_wp2_with fail
  refine Calls.mono (Q2.out _) ?_
  rintro e w3 ⟨rfl, hb3⟩
  go_wp2
  go_ret2
  exact ⟨rfl, (hb1.trans (hb2.mono hb1.size)).trans (hb3.mono (Nat.le_trans hb1.size hb2.size))⟩

theorem pre_dot (s : List Int) (hs : byts s) : Lib.hasPrefix (strOfNums s).data.toList [46] = decide (s.getD 0 0 = 46) := by
  rw [strOfNums_data]
  unfold Lib.hasPrefix
  cases s with
  | nil => rfl
  | cons c r =>
    have hc := hs c (by simp)
    rw [Bool.eq_iff_iff, decide_eq_true_eq]
    simp only [List.map_cons, List.isPrefixOf, Bool.and_true, beq_iff_eq, List.getD_cons_zero]
    constructor
    · intro e
      exact u8_inj hc (by omega) (by rw [← e]; rfl)
    · rintro rfl; rfl

theorem pcutpre_any (s : List Int) (w : World) (hs : Hid (byts s)) :
    Calls Tryz.prog 105 #[.string (strOfNums s), .string { data := #[46] }] w fun e w' => e = .returned (.tuple #[.string (strOfNums (if s.getD 0 0 = 46 then s.drop 1 else s)), .bool (decide (s.getD 0 0 = 46))]) ∧ w' = w := by
  have q := Sh.strings_CutPrefix (strOfNums s) { data := #[46] } w
  have e1 : Lib.hasPrefix (strOfNums s).data.toList ({ data := #[46] } : ByteArray).data.toList = decide (s.getD 0 0 = 46) := pre_dot s hs.out
  unfold Lib.trimPrefix at q
  rw [e1] at q
  have e2 : (⟨(if decide (s.getD 0 0 = 46) = true then (strOfNums s).data.toList.drop ({ data := #[46] } : ByteArray).data.toList.length else (strOfNums s).data.toList).toArray⟩ : ByteArray) = strOfNums (if s.getD 0 0 = 46 then s.drop 1 else s) := by
    rw [strOfNums_data]
    by_cases h : s.getD 0 0 = 46
    · rw [if_pos (decide_eq_true h), if_pos h, ← nul_of, List.map_drop]; rfl
    · rw [if_neg (by simpa using h), if_neg h, ← nul_of]
  rw [e2] at q
  exact q

set_option maxHeartbeats 2000000 in
theorem pplaces_any (scope name : List Int) (w : World) (hT : Hid (NTab w)) (hsb : Hid (byts scope)) (hnb : Hid (byts name)) (hs : scope.length ≤ 10000) (hn : name.length ≤ 10000) :
    Calls Tryz.prog 58 #[.string (strOfNums scope), .string (strOfNums name)] w fun e w' => ∃ v, e = .returned v ∧ So w' w.heap.size v (nplaces scope name) ∧ Below w.heap.size w w' := by
  have q := fun W => pcutpre_any name W hnb
  by_cases hpt : name.getD 0 0 = 46
  · rw [if_pos hpt, decide_eq_true hpt] at q
    have E : Hid (nplaces scope name = [name.drop 1]) := by show _ = _; unfold nplaces; rw [if_pos hpt]
    have HB1 : Hid (byts (name.drop 1)) := fun c hc => hnb.out c (List.mem_of_mem_drop hc)
    have Q2 : Hid _ := fun W => pnclone_any (strOfNums (name.drop 1)) W (by rw [strOfNums_size, List.length_drop]; omega)
    have Q : Hid _ := q
    obtain ⟨T, hTT⟩ : ∃ T, T = strOfNums (name.drop 1) := ⟨_, rfl⟩
    rw [← hTT] at Q Q2
    have HTT : Hid (T = strOfNums (name.drop 1)) := hTT
    clear q hTT hpt
    generalize strOfNums scope = A
    generalize strOfNums name = N at Q
    go_enter Tryz.func58, Tryz.ntmps58
    go_wp2_with fail
    refine Calls.mono (Q.out _) ?_
    rintro e w1 ⟨rfl, rfl⟩
    go_wp2_with fail
    refine Calls.mono (Q2.out _) ?_
    rintro e w2 ⟨rfl, hb2⟩
    go_wp2
    go_ret
    refine ⟨_, rfl, ?_, hb2.alloc hb2.size _⟩
    rw [E.out]
    refine ⟨?_, fun z hz => by simp only [List.mem_cons, List.not_mem_nil, or_false] at hz; subst hz; exact HB1.out⟩
    have := World.ownsRow_lit (base := w1.heap.size) (e := 9) (size := 1) w2 #[.string T] 1 hb2.size (by decide) rfl
    simpa [scell, HTT.out] using this
  · rw [if_neg hpt, decide_eq_false hpt] at q
    have Q0 : Hid _ := q
    clear q
    have E : Hid (nplaces scope name = nplc name scope.length scope) := by show _ = _; unfold nplaces; rw [if_neg hpt]
    obtain ⟨R, hR⟩ : ∃ R, R = nplaces scope name := ⟨_, rfl⟩
    rw [← hR]
    have HR : Hid (R = [] ++ nplc name scope.length scope) := by show _ = _; rw [hR, E.out]; rfl
    clear hR E hpt
    go_enter Tryz.func58, Tryz.ntmps58
    go_wp2_with fail
    refine Calls.mono (Q0.out _) ?_
    rintro e w1 ⟨rfl, rfl⟩
    go_wp2
    go_loopw [0, 7] (fun sv v wr => ∃ (sc : List Int) (o : List (List Int)), sv = .string (strOfNums sc) ∧ o.length + sc.length ≤ 10000 ∧ Hid (byts sc) ∧ Hid (R = o ++ nplc name sc.length sc) ∧ Hid (So wr w1.heap.size v o) ∧ Hid (Below w1.heap.size w1 wr)) (fun sv _ _ => txtLen sv)
    case atStart => exact ⟨scope, [], rfl, by simp; omega, hsb, HR, So.nil _ _, Below.refl _ _⟩
    case round =>
      obtain ⟨sc, o, rfl, hol, HSb, HJ, HO, HB⟩ := hrel
      have hbs := HB.out.size
      have hn1 : o.length + 1 ≤ 1000000 := by omega
      have q1 := fun W => pjoin_any sc name W trivial HSb hnb (by omega) hn
      have HJb : Hid (byts (njoin sc name)) := njoin_bd sc name HSb.out hnb.out
      by_cases hsc : sc = []
      · have hs0 : ((strOfNums sc).toList == []) = true := by rw [hsc, str_list]; rfl
        have HE : Hid (R = o ++ [njoin sc name]) := by show _ = _; rw [HJ.out, hsc]; rfl
        generalize njoin sc name = J at HE q1 HJb
        have Q1 : Hid _ := q1
        generalize strOfNums sc = A at hs0 Q1 q1
        generalize strOfNums name = N at Q1 q1 Q0
        clear HJ HR hsc q1
        go_wp2_with fail
        refine Calls.mono (Q1.out _) ?_
        rintro e w2 ⟨rfl, hb2⟩
        have HB2 : Hid (Below w1.heap.size w1 w2) := HB.out.trans (hb2.mono hbs)
        have HOA : Hid (So (w2.alloc (.cells #[.string (strOfNums J)] 9)) w1.heap.size _ o) := (HO.out.below hb2).below ((Below.refl _ _).alloc (Nat.le_refl _) _)
        have HBA : Hid (Below w1.heap.size w1 (w2.alloc (.cells #[.string (strOfNums J)] 9))) := HB2.out.alloc HB2.out.size _
        have HCL : Hid ((w2.alloc (.cells #[.string (strOfNums J)] 9)).cell? ⟨w2.heap.size, 0, none⟩ = some (scell J)) := str_cell w2 _
        clear hb2
        go_wp2_with (at_builtin; refine wpList_append_s rfl _ _ rfl w1.heap.size _ o J w2.heap.size 1 rfl rfl HOA.out HJb.out HCL.out hn1 HBA.out.size ?_; intro v2 w3 hO2 hgrow2)
        go_ret
        exact ⟨_, rfl, by rw [HE.out]; exact hO2, HOA.out.grown HBA.out HBA.out.size hgrow2⟩
      · have hs0 : ((strOfNums sc).toList == []) = false := by
          cases sc with
          | nil => exact absurd rfl hsc
          | cons c r => exact str_ne c r
        have hlt := nparent_lt sc hsc
        have HE : Hid (R = (o ++ [njoin sc name]) ++ nplc name (nparent sc).1.length (nparent sc).1) := by show _ = _; rw [HJ.out, nplc_more name sc hsc]; simp
        have q2 := fun W => pncut_any sc W (getD_bd HSb.out) (by omega)
        have HPb : Hid (byts (nparent sc).1) := (nparent_bd sc HSb.out).1
        have HML : Hid (txtLen (.string (strOfNums (nparent sc).1)) < txtLen (.string (strOfNums sc))) := by show (strOfNums (nparent sc).1).size < (strOfNums sc).size; rw [strOfNums_size, strOfNums_size]; exact hlt
        generalize njoin sc name = J at HE q1 HJb
        generalize (nparent sc).2 = P2 at q2
        generalize (nparent sc).1 = P1 at HE q2 HPb HML hlt
        have Q1 : Hid _ := q1
        have Q2 : Hid _ := q2
        generalize strOfNums sc = A at hs0 Q1 Q2 q1 q2 HML
        generalize strOfNums name = N at Q1 q1 Q0
        clear HJ HR hsc q1 q2
        go_wp2_with fail
        refine Calls.mono (Q1.out _) ?_
        rintro e w2 ⟨rfl, hb2⟩
        have HB2 : Hid (Below w1.heap.size w1 w2) := HB.out.trans (hb2.mono hbs)
        have HOA : Hid (So (w2.alloc (.cells #[.string (strOfNums J)] 9)) w1.heap.size _ o) := (HO.out.below hb2).below ((Below.refl _ _).alloc (Nat.le_refl _) _)
        have HBA : Hid (Below w1.heap.size w1 (w2.alloc (.cells #[.string (strOfNums J)] 9))) := HB2.out.alloc HB2.out.size _
        have HCL : Hid ((w2.alloc (.cells #[.string (strOfNums J)] 9)).cell? ⟨w2.heap.size, 0, none⟩ = some (scell J)) := str_cell w2 _
        clear hb2
        go_wp2_with (at_builtin; refine wpList_append_s rfl _ _ rfl w1.heap.size _ o J w2.heap.size 1 rfl rfl HOA.out HJb.out HCL.out hn1 HBA.out.size ?_; intro v2 w3 hO2 hgrow2; have HB3 : Hid (Below w1.heap.size w1 w3) := HOA.out.grown HBA.out HBA.out.size hgrow2; clear hgrow2)
        refine Calls.mono (Q2.out _) ?_
        rintro e w4 ⟨rfl, hb4⟩
        have HO4 : Hid (So w4 w1.heap.size v2 (o ++ [J])) := hO2.below hb4
        have HB4 : Hid (Below w1.heap.size w1 w4) := HB3.out.trans (hb4.mono HB3.out.size)
        clear hO2 hb4
        go_wp2
        go_roundw
        case rel => first | exact ⟨P1, o ++ [J], rfl, by simp; omega, HPb, HE, HO4, HB4⟩ | ((repeat apply Exists.intro); exact ⟨⟨P1, o ++ [J], rfl, by simp; omega, HPb, HE, HO4, HB4⟩, rfl⟩)
        case measure => exact HML.out

end Go.Proofs.YtmhbjkoabbmfpaaGreat

namespace Go.Proofs.YtmhbjkoabbmfpaaGreat
set_option linter.unusedVariables false
set_option linter.unusedSimpArgs false

def slt (x y : ByteArray) : Bool := Op.bytesLess x.toList y.toList

end Go.Proofs.YtmhbjkoabbmfpaaGreat

namespace Go.Proofs.YtmhbjkoabbmfpaaGreat
open Go.RowKit
set_option linter.unusedVariables false
set_option linter.unusedSimpArgs false

structure Sb (w : World) (a : Option Addr) (len cap : Nat) (zs : List ByteArray) : Prop where
  hlen : zs.length = len
  h63 : (len : Int) ≤ 9223372036854775807
  hcap : len ≤ cap
  hnil : a = none → cap = 0
  hmem : 0 < len → ∃ b off, a = some ⟨b, off, none⟩ ∧ b < w.heap.size ∧ ∀ (i : Nat) (z : ByteArray), zs[i]? = some z → w.cell? ⟨b, off + i, none⟩ = some (.string z)

theorem Sb.below {w w' : World} {a : Option Addr} {len cap : Nat} {zs : List ByteArray} (h : Sb w a len cap zs) (hb : Below w.heap.size w w') : Sb w' a len cap zs := by
  refine ⟨h.hlen, h.h63, h.hcap, h.hnil, fun hp => ?_⟩
  obtain ⟨b, off, h1, hlt, hc⟩ := h.hmem hp
  exact ⟨b, off, h1, Nat.lt_of_lt_of_le hlt hb.size, fun i z hi => (hb.cell hlt).trans (hc i z hi)⟩

end Go.Proofs.YtmhbjkoabbmfpaaGreat

namespace Go.Proofs.YtmhbjkoabbmfpaaGreat
open Go.RowKit
open Go.ChangeMaps (setBlock heap_setBlock_same heap_setBlock_other modify_eq_set)
set_option linter.unusedVariables false
set_option linter.unusedSimpArgs false

theorem strKeyed : Maps.Keyed Tryz.prog 9 := Maps.string_keyed Tryz.underlying9

def Mg (w : World) (b n : Nat) (g : ByteArray → Option Value) : Prop :=
  ∃ es clock, w.heap[b]? = some (.map es clock) ∧ MapKept.Stamped es clock ∧ (∀ e ∈ es.toList, ∃ k : ByteArray, e.key = .string k ∧ k.size ≤ maxLen) ∧ es.size = n ∧ ∀ k v, g k = some v ↔ ∃ e ∈ es.toList, e.key = .string k ∧ e.val = v

theorem keyStr {k : ByteArray} (h : k.size ≤ maxLen) : keyOf Tryz.prog 9 (.string k) = some (.string k.data.toList) := by
  have h1 := Tryz.underlying9
  simp [keyOf, h1, mapKey, h]

theorem Mg.lt {w : World} {b n : Nat} {g : ByteArray → Option Value} (h : Mg w b n g) : b < w.heap.size := by
  obtain ⟨es, clock, hb, _⟩ := h
  exact (Array.getElem?_eq_some_iff.1 hb).1

theorem Mg.made (w : World) : Mg (w.alloc (.map #[] 0)) w.heap.size 0 (fun _ => none) :=
  ⟨#[], 0, heap_alloc_new w _, MapKept.stamped_empty 0, by simp, rfl, by simp⟩

theorem Mg.kept {w w' : World} {b n : Nat} {g : ByteArray → Option Value} {row : Option Nat} (h : Mg w b n g) (hg : w.grownBy w' row) (hne : some b ≠ row) : Mg w' b n g := by
  have hlt := h.lt
  obtain ⟨es, clock, hb, r⟩ := h
  exact ⟨es, clock, (hg.block b hlt hne).trans hb, r⟩

theorem Mg.below {w w' : World} {b n : Nat} {g : ByteArray → Option Value} (h : Mg w b n g) {m : Nat} (hb : Below m w w') (hm : b < m) : Mg w' b n g := by
  obtain ⟨es, clock, h1, r⟩ := h
  exact ⟨es, clock, (hb.block b hm).trans h1, r⟩

def mlook (z : Value) : Option Value → Bool → Value
  | some v, true => .tuple #[v, .bool true]
  | none, true => .tuple #[z, .bool false]
  | some v, false => v
  | none, false => z

theorem Mg.look {w : World} {b n : Nat} {g : ByteArray → Option Value} (h : Mg w b n g) {t e : TypeId} (ht : Tryz.prog.underlying t = some (.map 9 e)) {z : Value} (hz : (zeroValue e).run Tryz.prog w = .ok z w) (k : ByteArray) (hk : k.size ≤ maxLen) (c : Bool) :
    (Instr.lookup t (.map (some b)) (.string k) c).run Tryz.prog w = .ok (mlook z (g k) c) w := by
  obtain ⟨es, clock, hb, hst, hkeys, hn, hg⟩ := h
  have hkey := keyStr hk
  rcases strKeyed.find w hkey es.toList (fun e he => by obtain ⟨x, hx, hxs⟩ := hkeys e he; rw [hx]; exact ⟨_, keyStr hxs⟩) with ⟨h1, h2⟩ | ⟨j, e0, h1, h2, h3⟩
  · have hgn : g k = none := by
      cases hq : g k with
      | none => rfl
      | some v => obtain ⟨e, he, hek, _⟩ := (hg k v).1 hq; exact absurd hek (h2 e he)
    rw [hgn]
    cases c <;> simp [Instr.lookup, run_underlying ht, MapKept.run_getObj_map hb, strKeyed.check w _ hkey, h1, hz, Result.andThen, mlook]
  · have hgs : g k = some e0.val := (hg k _).2 ⟨e0, List.mem_of_getElem? h2, h3, rfl⟩
    rw [hgs]
    cases c <;> simp [Instr.lookup, run_underlying ht, MapKept.run_getObj_map hb, strKeyed.check w _ hkey, h1, Result.andThen, mlook]

theorem Mg.put {w : World} {b n : Nat} {g : ByteArray → Option Value} (h : Mg w b n g) {t e : TypeId} (ht : Tryz.prog.underlying t = some (.map 9 e)) (k : ByteArray) (hk : k.size ≤ maxLen) (v : Value) :
    ∃ w', (Instr.mapUpdate t (.map (some b)) (.string k) v).run Tryz.prog w = .ok () w' ∧ Mg w' b (match g k with | none => n + 1 | some _ => n) (fun x => if x = k then some v else g x) ∧ w.grownBy w' (some b) := by
  obtain ⟨es, clock, hb, hst, hkeys, hn, hg⟩ := h
  have hkey := keyStr hk
  have grown : ∀ o : Obj, w.grownBy (setBlock w b o) (some b) := fun o => ⟨rfl, rfl, rfl, by simp [setBlock], fun i _ hi => heap_setBlock_other hb _ (fun e => hi (by rw [e]))⟩
  have sinj : ∀ {x y : ByteArray}, Value.string x = .string y → x = y := fun e => by simpa using e
  rcases strKeyed.find w hkey es.toList (fun e he => by obtain ⟨x, hx, hxs⟩ := hkeys e he; rw [hx]; exact ⟨_, keyStr hxs⟩) with ⟨h1, h2⟩ | ⟨j, e0, h1, h2, h3⟩
  · have hgn : g k = none := by
      cases hq : g k with
      | none => rfl
      | some v => obtain ⟨e, he, hek, _⟩ := (hg k v).1 hq; exact absurd hek (h2 e he)
    rw [hgn]
    refine ⟨setBlock w b (.map (es.push ⟨.string k, v, clock⟩) (clock + 1)), ?_, ⟨_, _, heap_setBlock_same hb _, MapKept.stamped_push hst h2, ?_, by simp [hn], ?_⟩, grown _⟩
    · simp [Instr.mapUpdate, run_underlying ht, MapKept.run_getObj_map hb, strKeyed.check w false hkey, h1, MapKept.run_setObj_map _ hb, Result.andThen, setBlock]
    · intro x hx
      simp only [Array.toList_push, List.mem_append, List.mem_singleton] at hx
      rcases hx with hx | rfl
      · exact hkeys x hx
      · exact ⟨k, rfl, hk⟩
    · intro x u
      simp only [Array.toList_push, List.mem_append, List.mem_singleton]
      by_cases hx : x = k
      · subst hx
        rw [if_pos rfl]
        constructor
        · intro hu
          exact ⟨_, .inr rfl, rfl, by simpa using hu⟩
        · rintro ⟨y, hy | rfl, hyk, hyv⟩
          · exact absurd hyk (h2 y hy)
          · simpa using hyv
      · rw [if_neg hx, hg]
        constructor
        · rintro ⟨y, hy, r⟩
          exact ⟨y, .inl hy, r⟩
        · rintro ⟨y, hy | rfl, hyk, hyv⟩
          · exact ⟨y, hy, hyk, hyv⟩
          · exact absurd (sinj hyk).symm hx
  · have hgs : g k = some e0.val := (hg k _).2 ⟨e0, List.mem_of_getElem? h2, h3, rfl⟩
    rw [hgs]
    have hj : es[j]? = some e0 := by simpa using h2
    have hjl : j < es.toList.length := (List.getElem?_eq_some_iff.1 h2).1
    have hlist : (es.modify j (fun e' => { e' with key := .string k, val := v })).toList = es.toList.set j { e0 with key := .string k, val := v } := by rw [Array.toList_modify, modify_eq_set _ _ _ _ h2]
    have hkeyf : ∀ e', es[j]? = some e' → ({ e' with key := .string k, val := v } : MapEntry).key = e'.key := fun e' he' => by rw [hj] at he'; cases he'; exact h3.symm
    have hpw := (MapKept.stamped_iff _ _).1 hst
    have other : ∀ (i : Nat) (e : MapEntry), es.toList[i]? = some e → i ≠ j → e.key ≠ .string k := by
      intro i e hi hne hek
      have hi' := (List.getElem?_eq_some_iff.1 hi)
      have hj' := (List.getElem?_eq_some_iff.1 h2)
      obtain ⟨hi1, hi2⟩ := hi'
      obtain ⟨hj1, hj2⟩ := hj'
      have pw := List.pairwise_iff_getElem.1 hpw.2.2
      rcases Nat.lt_or_gt_of_ne hne with hlt | hlt
      · exact pw i j hi1 hj1 hlt (by rw [hi2, hj2, hek, h3])
      · exact pw j i hj1 hi1 hlt (by rw [hi2, hj2, hek, h3])
    have who : ∀ x, x ∈ es.toList.set j { e0 with key := .string k, val := v } ↔ x = { e0 with key := .string k, val := v } ∨ (x ∈ es.toList ∧ x.key ≠ .string k) := by
      intro x
      constructor
      · intro hx
        obtain ⟨i, hi, ex⟩ := List.getElem_of_mem hx
        rw [List.getElem_set] at ex
        split at ex
        · exact Or.inl ex.symm
        · rename_i hne
          have hi' : i < es.toList.length := by simpa using hi
          exact Or.inr ⟨ex ▸ List.getElem_mem hi', other i x (by rw [List.getElem?_eq_getElem hi', ex]) (fun e => hne e.symm)⟩
      · rintro (rfl | ⟨hx, hxk⟩)
        · exact List.mem_iff_getElem.2 ⟨j, by simpa using hjl, by simp⟩
        · obtain ⟨i, hi⟩ := List.getElem?_of_mem hx
          have hij : i ≠ j := fun e => by subst e; rw [h2] at hi; cases hi; exact hxk h3
          have hi' := (List.getElem?_eq_some_iff.1 hi)
          obtain ⟨hi1, hi2⟩ := hi'
          exact List.mem_iff_getElem.2 ⟨i, by simpa using hi1, by rw [List.getElem_set_ne (fun e => hij e.symm)]; exact hi2⟩
    refine ⟨setBlock w b (.map (es.modify j (fun e' => { e' with key := .string k, val := v })) clock), ?_, ⟨_, _, heap_setBlock_same hb _, MapKept.stamped_modify hst _ _ (fun _ _ => rfl) (fun e' _ he' => hkeyf e' he'), ?_, by simp [hn], ?_⟩, grown _⟩
    · simp [Instr.mapUpdate, run_underlying ht, MapKept.run_getObj_map hb, strKeyed.check w false hkey, h1, hj, h3, strKeyed.stays w hkey, MapKept.run_setObj_map _ hb, Result.andThen, setBlock]
    · intro x hx
      have hx := hlist.subst (motive := fun l => x ∈ l) hx
      rcases (who x).1 hx with rfl | ⟨hx, _⟩
      · exact ⟨k, rfl, hk⟩
      · exact hkeys x hx
    · intro x u
      show (if x = k then some v else g x) = some u ↔ ∃ e ∈ (es.modify j (fun e' => { e' with key := .string k, val := v })).toList, e.key = .string x ∧ e.val = u
      rw [hlist]
      by_cases hx : x = k
      · subst hx
        rw [if_pos rfl]
        constructor
        · intro hu
          exact ⟨_, (who _).2 (.inl rfl), rfl, by simpa using hu⟩
        · rintro ⟨y, hy, hyk, hyv⟩
          rcases (who y).1 hy with rfl | ⟨_, h⟩
          · simpa using hyv
          · exact absurd hyk h
      · rw [if_neg hx, hg]
        constructor
        · rintro ⟨y, hy, hyk, r⟩
          exact ⟨y, (who y).2 (.inr ⟨hy, fun e => hx (sinj (hyk.symm.trans e))⟩), hyk, r⟩
        · rintro ⟨y, hy, hyk, hyv⟩
          rcases (who y).1 hy with rfl | ⟨hy, _⟩
          · exact absurd (sinj hyk).symm hx
          · exact ⟨y, hy, hyk, hyv⟩

end Go.Proofs.YtmhbjkoabbmfpaaGreat
