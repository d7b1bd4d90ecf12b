/- The contract of the reference's own Places. -/
import Derived.Test.YtfkhocmbhnigeaaGreatNStr2
namespace Go.Proofs.YtfkhocmbhnigeaaGreat
open Go.RowKit
set_option linter.unusedVariables false
set_option linter.unusedSimpArgs false

def txtLen : Value → Nat
  | .string s => s.size
  | _ => 0

theorem njoin_len (a b : List Int) : (njoin a b).length ≤ a.length + b.length + 1 := by
  unfold njoin
  split
  · omega
  · simp; omega

theorem njoin_bd (a b : List Int) (ha : byts a) (hb : byts b) : byts (njoin a b) := by
  unfold njoin
  split
  · exact hb
  · intro c hc
    simp only [List.mem_append, List.mem_cons, List.not_mem_nil, or_false] at hc
    rcases hc with (hc | rfl) | hc
    · exact ha c hc
    · omega
    · exact hb c hc

theorem nparent_bd (s : List Int) (h : byts s) : byts (nparent s).1 ∧ byts (nparent s).2 := by
  unfold nparent
  split
  · exact ⟨fun c hc => by simp at hc, h⟩
  · exact ⟨fun c hc => h c (List.mem_of_mem_take hc), fun c hc => h c (List.mem_of_mem_drop hc)⟩

theorem nplc_more (name scope : List Int) (h : scope ≠ []) : nplc name scope.length scope = njoin scope name :: nplc name (nparent scope).1.length (nparent scope).1 := by
  have hl := nparent_lt scope h
  obtain ⟨m, hm⟩ : ∃ m, scope.length = m + 1 := ⟨scope.length - 1, by omega⟩
  rw [hm, nplc, if_neg h, nplc_fuel name m (nparent scope).1.length _ (by omega) (Nat.le_refl _)]

set_option maxHeartbeats 2000000 in
theorem rplaces_any (scope name : List Int) (w : World) (hsb : Hid (byts scope)) (hnb : Hid (byts name)) (hs : scope.length ≤ 10000) (hn : name.length ≤ 10000) :
    Calls Tryz.prog 54 #[.string (strOfNums scope), .string (strOfNums name)] w fun e w' => ∃ v, e = .returned v ∧ So w' w.heap.size v (nplaces scope name) ∧ Below w.heap.size w w' := by
  by_cases hpt : name.getD 0 0 = 46
  · have hne0 : name ≠ [] := fun h => by rw [h] at hpt; simp at hpt
    have hne : ((strOfNums name).toList == []) = false := by
      cases name with
      | nil => exact absurd rfl hne0
      | cons c r => exact str_ne c r
    have hl : 0 < name.length := List.length_pos_iff.2 hne0
    obtain ⟨X, hX⟩ : ∃ X, X = strOfNums name := ⟨_, rfl⟩
    have hsz : X.size = name.length := by rw [hX]; exact strOfNums_size name
    have hat : ((X[0]'(hsz ▸ hl)).toNat : Int) = 46 := by subst hX; rw [← hpt]; exact str_at name (getD_bd hnb.out) 0 _
    have h1 : ∀ W, (Instr.slice 9 (.string X) (some (.int .i64 1)) none none).run Tryz.prog W = .ok (.string (strOfNums (name.drop 1))) W := by subst hX; exact run_tail name 1 (by omega) _ rfl
    have E : Hid (nplaces scope name = [name.drop 1]) := by show _ = _; unfold nplaces; rw [if_pos hpt]
    have HB1 : Hid (byts (name.drop 1)) := fun c hc => hnb.out c (List.mem_of_mem_drop hc)
    rw [← hX] at hne ⊢
    obtain ⟨T, hT⟩ : ∃ T, T = strOfNums (name.drop 1) := ⟨_, rfl⟩
    rw [← hT] at h1
    have HT : Hid (T = strOfNums (name.drop 1)) := hT
    clear hX hpt hne0 hT
    generalize strOfNums scope = A
    go_enter Tryz.func54, Tryz.ntmps54
    go_wp2
    go_ret
    refine ⟨_, rfl, ?_, (Below.refl _ _).alloc (Nat.le_refl _) _⟩
    rw [E.out]
    refine ⟨?_, fun z hz => by simp only [List.mem_cons, List.not_mem_nil, or_false] at hz; subst hz; exact HB1.out⟩
    have := World.ownsRow_lit (base := w.heap.size) (e := 9) (size := 1) w #[.string T] 1 (Nat.le_refl _) (by decide) rfl
    simpa [scell, HT.out] using this
  · have E : Hid (nplaces scope name = nplc name scope.length scope) := by show _ = _; unfold nplaces; rw [if_neg hpt]
    obtain ⟨X, hX⟩ : ∃ X, X = strOfNums name := ⟨_, rfl⟩
    have HX : Hid (X = strOfNums name) := hX
    obtain ⟨R, hR⟩ : ∃ R, R = nplaces scope name := ⟨_, rfl⟩
    rw [← hR, ← hX]
    have HR : Hid (R = [] ++ nplc name scope.length scope) := by show _ = _; rw [hR, E.out]; rfl
    have hsz : X.size = name.length := by rw [hX]; exact strOfNums_size name
    by_cases hn0 : name = []
    · have hne : (X.toList == []) = true := by rw [hX, hn0, str_list]; rfl
      clear hX hR hpt hn0 E
      go_enter Tryz.func54, Tryz.ntmps54
      go_wp2
      go_loopw [0, 5] (fun sv v wr => ∃ (sc : List Int) (o : List (List Int)), sv = .string (strOfNums sc) ∧ o.length + sc.length ≤ 10000 ∧ Hid (byts sc) ∧ Hid (R = o ++ nplc name sc.length sc) ∧ Hid (So wr w.heap.size v o) ∧ Hid (Below w.heap.size w wr)) (fun sv _ _ => txtLen sv)
      case atStart => exact ⟨scope, [], rfl, by simp; omega, hsb, HR, So.nil _ _, Below.refl _ _⟩
      case round =>
        obtain ⟨sc, o, rfl, hol, HSb, HJ, HO, HB⟩ := hrel
        have hbs := HB.out.size
        have hn1 : o.length + 1 ≤ 1000000 := by omega
        by_cases hsc : sc = []
        · have hs0 : ((strOfNums sc).toList == []) = true := by rw [hsc, str_list]; rfl
          have HE : Hid (R = o ++ [name]) := by show _ = _; rw [HJ.out, hsc]; rfl
          have HOA : Hid (So (wr.alloc (.cells #[.string X] 9)) w.heap.size _ o) := HO.out.below ((Below.refl _ _).alloc (Nat.le_refl _) _)
          have HBA : Hid (Below w.heap.size w (wr.alloc (.cells #[.string X] 9))) := HB.out.alloc hbs _
          have HCL : Hid ((wr.alloc (.cells #[.string X] 9)).cell? ⟨wr.heap.size, 0, none⟩ = some (scell name)) := by show _ = some (Value.string (strOfNums name)); rw [← HX.out]; exact str_cell wr X
          generalize strOfNums sc = A at hs0
          clear HJ HR hsc
          go_wp2_with (at_builtin; refine wpList_append_s rfl _ _ rfl w.heap.size _ o name wr.heap.size 1 rfl rfl HOA.out hnb.out HCL.out hn1 HBA.out.size ?_; intro v2 w2 hO2 hgrow2)
          go_ret
          exact ⟨_, rfl, by rw [HE.out]; exact hO2, HOA.out.grown HBA.out HBA.out.size hgrow2⟩
        · have hs0 : ((strOfNums sc).toList == []) = false := by
            cases sc with
            | nil => exact absurd rfl hsc
            | cons c r => exact str_ne c r
          have hlt := nparent_lt sc hsc
          have HE : Hid (R = (o ++ [njoin sc name]) ++ nplc name (nparent sc).1.length (nparent sc).1) := by show _ = _; rw [HJ.out, nplc_more name sc hsc]; simp
          have q1 := fun W => rjoin_any sc name W (by omega)
          rw [← HX.out] at q1
          have q2 := fun W => rparent_any sc W (getD_bd HSb.out) (by omega)
          have HJb : Hid (byts (njoin sc name)) := njoin_bd sc name HSb.out hnb.out
          have HPb : Hid (byts (nparent sc).1) := (nparent_bd sc HSb.out).1
          have HML : Hid (txtLen (.string (strOfNums (nparent sc).1)) < txtLen (.string (strOfNums sc))) := by show (strOfNums (nparent sc).1).size < (strOfNums sc).size; rw [strOfNums_size, strOfNums_size]; exact hlt
          generalize njoin sc name = J at HE q1 HJb
          generalize (nparent sc).2 = P2 at q2
          generalize (nparent sc).1 = P1 at HE q2 HPb HML hlt
          have Q1 : Hid _ := q1
          have Q2 : Hid _ := q2
          have HOA : Hid (So (wr.alloc (.cells #[.string (strOfNums J)] 9)) w.heap.size _ o) := HO.out.below ((Below.refl _ _).alloc (Nat.le_refl _) _)
          have HBA : Hid (Below w.heap.size w (wr.alloc (.cells #[.string (strOfNums J)] 9))) := HB.out.alloc hbs _
          have HCL : Hid ((wr.alloc (.cells #[.string (strOfNums J)] 9)).cell? ⟨wr.heap.size, 0, none⟩ = some (scell J)) := str_cell wr _
          generalize strOfNums sc = A at hs0 Q1 Q2 q1 q2 HML
          clear HJ HR hsc q1 q2
          go_wp2_with fail
          refine Calls.mono (Q1.out _) ?_
          rintro e w1 ⟨rfl, rfl⟩
          go_wp2_with (at_builtin; refine wpList_append_s rfl _ _ rfl w.heap.size _ o J wr.heap.size 1 rfl rfl HOA.out HJb.out HCL.out hn1 HBA.out.size ?_; intro v2 w2 hO2 hgrow2; have HB2 : Hid (Below w.heap.size w w2) := HOA.out.grown HBA.out HBA.out.size hgrow2; clear hgrow2)
          refine Calls.mono (Q2.out _) ?_
          rintro e w3 ⟨rfl, hb3⟩
          have HO3 : Hid (So w3 w.heap.size v2 (o ++ [J])) := hO2.below hb3
          have HB3 : Hid (Below w.heap.size w w3) := HB2.out.trans (hb3.mono HB2.out.size)
          clear hO2 hb3
          go_wp2
          go_roundw
          case rel => first | exact ⟨P1, o ++ [J], rfl, by simp; omega, HPb, HE, HO3, HB3⟩ | ((repeat apply Exists.intro); exact ⟨⟨P1, o ++ [J], rfl, by simp; omega, HPb, HE, HO3, HB3⟩, rfl⟩)
          case measure => exact HML.out
    · have hne : (X.toList == []) = false := by
        rw [hX]
        cases name with
        | nil => exact absurd rfl hn0
        | cons c r => exact str_ne c r
      have hl : 0 < name.length := List.length_pos_iff.2 hn0
      have hat : ((X[0]'(hsz ▸ hl)).toNat : Int) = name.getD 0 0 := by subst hX; exact str_at name (getD_bd hnb.out) 0 _
      generalize name.getD 0 0 = c0 at hat hpt
      have e46 : (c0 == 46) = false := by simpa using hpt
      clear hX hR hpt hn0 E
      go_enter Tryz.func54, Tryz.ntmps54
      go_wp2
      go_loopw [0, 5] (fun sv v wr => ∃ (sc : List Int) (o : List (List Int)), sv = .string (strOfNums sc) ∧ o.length + sc.length ≤ 10000 ∧ Hid (byts sc) ∧ Hid (R = o ++ nplc name sc.length sc) ∧ Hid (So wr w.heap.size v o) ∧ Hid (Below w.heap.size w wr)) (fun sv _ _ => txtLen sv)
      case atStart => exact ⟨scope, [], rfl, by simp; omega, hsb, HR, So.nil _ _, Below.refl _ _⟩
      case round =>
        obtain ⟨sc, o, rfl, hol, HSb, HJ, HO, HB⟩ := hrel
        have hbs := HB.out.size
        have hn1 : o.length + 1 ≤ 1000000 := by omega
        by_cases hsc : sc = []
        · have hs0 : ((strOfNums sc).toList == []) = true := by rw [hsc, str_list]; rfl
          have HE : Hid (R = o ++ [name]) := by show _ = _; rw [HJ.out, hsc]; rfl
          have HOA : Hid (So (wr.alloc (.cells #[.string X] 9)) w.heap.size _ o) := HO.out.below ((Below.refl _ _).alloc (Nat.le_refl _) _)
          have HBA : Hid (Below w.heap.size w (wr.alloc (.cells #[.string X] 9))) := HB.out.alloc hbs _
          have HCL : Hid ((wr.alloc (.cells #[.string X] 9)).cell? ⟨wr.heap.size, 0, none⟩ = some (scell name)) := by show _ = some (Value.string (strOfNums name)); rw [← HX.out]; exact str_cell wr X
          generalize strOfNums sc = A at hs0
          clear HJ HR hsc
          go_wp2_with (at_builtin; refine wpList_append_s rfl _ _ rfl w.heap.size _ o name wr.heap.size 1 rfl rfl HOA.out hnb.out HCL.out hn1 HBA.out.size ?_; intro v2 w2 hO2 hgrow2)
          go_ret
          exact ⟨_, rfl, by rw [HE.out]; exact hO2, HOA.out.grown HBA.out HBA.out.size hgrow2⟩
        · have hs0 : ((strOfNums sc).toList == []) = false := by
            cases sc with
            | nil => exact absurd rfl hsc
            | cons c r => exact str_ne c r
          have hlt := nparent_lt sc hsc
          have HE : Hid (R = (o ++ [njoin sc name]) ++ nplc name (nparent sc).1.length (nparent sc).1) := by show _ = _; rw [HJ.out, nplc_more name sc hsc]; simp
          have q1 := fun W => rjoin_any sc name W (by omega)
          rw [← HX.out] at q1
          have q2 := fun W => rparent_any sc W (getD_bd HSb.out) (by omega)
          have HJb : Hid (byts (njoin sc name)) := njoin_bd sc name HSb.out hnb.out
          have HPb : Hid (byts (nparent sc).1) := (nparent_bd sc HSb.out).1
          have HML : Hid (txtLen (.string (strOfNums (nparent sc).1)) < txtLen (.string (strOfNums sc))) := by show (strOfNums (nparent sc).1).size < (strOfNums sc).size; rw [strOfNums_size, strOfNums_size]; exact hlt
          generalize njoin sc name = J at HE q1 HJb
          generalize (nparent sc).2 = P2 at q2
          generalize (nparent sc).1 = P1 at HE q2 HPb HML hlt
          have Q1 : Hid _ := q1
          have Q2 : Hid _ := q2
          have HOA : Hid (So (wr.alloc (.cells #[.string (strOfNums J)] 9)) w.heap.size _ o) := HO.out.below ((Below.refl _ _).alloc (Nat.le_refl _) _)
          have HBA : Hid (Below w.heap.size w (wr.alloc (.cells #[.string (strOfNums J)] 9))) := HB.out.alloc hbs _
          have HCL : Hid ((wr.alloc (.cells #[.string (strOfNums J)] 9)).cell? ⟨wr.heap.size, 0, none⟩ = some (scell J)) := str_cell wr _
          generalize strOfNums sc = A at hs0 Q1 Q2 q1 q2 HML
          clear HJ HR hsc q1 q2
          go_wp2_with fail
          refine Calls.mono (Q1.out _) ?_
          rintro e w1 ⟨rfl, rfl⟩
          go_wp2_with (at_builtin; refine wpList_append_s rfl _ _ rfl w.heap.size _ o J wr.heap.size 1 rfl rfl HOA.out HJb.out HCL.out hn1 HBA.out.size ?_; intro v2 w2 hO2 hgrow2; have HB2 : Hid (Below w.heap.size w w2) := HOA.out.grown HBA.out HBA.out.size hgrow2; clear hgrow2)
          refine Calls.mono (Q2.out _) ?_
          rintro e w3 ⟨rfl, hb3⟩
          have HO3 : Hid (So w3 w.heap.size v2 (o ++ [J])) := hO2.below hb3
          have HB3 : Hid (Below w.heap.size w w3) := HB2.out.trans (hb3.mono HB2.out.size)
          clear hO2 hb3
          go_wp2
          go_roundw
          case rel => first | exact ⟨P1, o ++ [J], rfl, by simp; omega, HPb, HE, HO3, HB3⟩ | ((repeat apply Exists.intro); exact ⟨⟨P1, o ++ [J], rfl, by simp; omega, HPb, HE, HO3, HB3⟩, rfl⟩)
          case measure => exact HML.out

end Go.Proofs.YtfkhocmbhnigeaaGreat
