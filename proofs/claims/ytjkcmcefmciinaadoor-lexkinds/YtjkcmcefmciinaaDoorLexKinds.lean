/- LexKinds, proved for every text: tokens stand in order, each where it begins, the last one is the end; no condition. -/
import Derived.Test.YtjkcmcefmciinaaDoorCards
import Derived.Test.YtjkcmcefmciinaaDoorTie
import Derived.Test.YtjkcmcefmciinaaDoorLAwake
import Derived.Deep.RegionWith
import Derived.Deep.QuietTactic
import Derived.BigQuiet
import Derived.ProofKit
import Derived.OpenShut
import Derived.ShutString
import Derived.ChangeOld
import Derived.Below
import Derived.Deep.DeepHandedRow
import Derived.Lib.LaidTab
import Derived.Stop.LaidErr
import Derived.Shelf.Vars
namespace Go.Proofs.YtjkcmcefmciinaaDoor.lexKinds
open Go.ChangeShapes Go.WideShapes Go.ChangeAt Go.RowKit
open Go.ChangeMaps (open_string shut_string)
set_option linter.unusedVariables false

theorem own : ownKnob Tryd.prog.godebug = none := by kernel_rfl
theorem laidOut : laidOutB Tryd.prog = true := by kernel_rfl

theorem gHd : Tryd.prog.globalNamed "glossary/utf.heads" = some 1 := by kernel_rfl
theorem gHdT : (Tryd.prog.globals[1]?).map (·.type) = some 90 := by kernel_rfl

/-- WHAT THE ROW's LIST AND THE WORLD's SHAPE GIVE: the table's cells hold its numbers; internal/bytealg.MaxLen holds some number. -/
theorem table {W : World} (h : laidMetH Tryd.prog Rows.lexKindsRow.laid W) (hs : W.ShapedOpen Tryd.prog) : LTab W := by
  refine ⟨?_, cell_of_shapedOpen_int (zero := #[.int .i64 0]) (t := 3) hs (of_decide_eq_true (by kernel_rfl)) (by kernel_rfl) rfl (by kernel_rfl) (by kernel_rfl) Tryd.underlying3⟩
  have h2 : Lib.TabIs Tryd.prog W "glossary/utf.heads" .u8 [0, 0, 192, 224, 240] := Lib.tabIs_of_head (rest := []) gHd gHdT Tryd.underlying90 Tryd.underlying5 (by kernel_rfl) (by kernel_rfl) h
  exact fun i hi => h2.cell gHd i hi

/-- A WORLD FOR THE WITNESS: the settled one, the table holding what its initialiser lays. -/
def layCells (xs : Array Value) : Obj → Obj
  | .cells _ t frozen => .cells xs t frozen
  | o => o
noncomputable def laidWorld (os : Os) : World :=
  { World.holding Tryd.prog os ⟨#[], #[], []⟩ with heap := (World.holding Tryd.prog os ⟨#[], #[], []⟩).heap.modify 1 (layCells (([0, 0, 192, 224, 240] : List Int).map fun z => Value.int .u8 z).toArray) }

set_option maxRecDepth 100000 in
set_option maxHeartbeats 4000000 in
theorem walk (z0 : List Int) (w : World) (hT : Hid (LTab w)) (hz0 : Hid (∀ i, 0 ≤ z0.getD i 0 ∧ z0.getD i 0 ≤ 255)) :
    Calls Tryd.prog 7 #[.string (strOfNums z0)] w fun e w' => e = .returned (.bool true) ∧ Below w.heap.size w w' := by
  have hsz := strOfNums_size z0
  by_cases hbig : 600 < z0.length
  · have hbig' : (600 : Int) < (z0.length : Int) := by omega
    generalize strOfNums z0 = S at hsz
    go_enter Tryd.func7, Tryd.ntmps7
    go_wp2_with fail
    refine (lawake_any _ hT).mono ?_
    rintro e w1 ⟨rfl, hbb1⟩
    go_wp2
    go_ret
    exact ⟨rfl, hbb1⟩
  have hbig' : ¬ (600 : Int) < (z0.length : Int) := by omega
  have q := fun W (hB : Below w.heap.size w W) => pscan_any z0 W (hT.out.below hB (Nat.le_refl _)) hz0 (by omega)
  by_cases hok : (lscan z0).2.2 = 0
  · obtain ⟨out, d, hR, hK⟩ := lscan_kinds z0 hok
    have hll := lscan_len z0
    rw [hR] at hll
    simp only [List.length_append, List.length_cons, List.length_nil] at hll
    have HX : Hid (∀ i k, (strOfNums z0).extract i k = strOfNums (lpc z0 i k)) := str_pc z0
    have HK : Hid (KOk z0 out z0.length) := hK
    obtain ⟨R, hRR⟩ : ∃ R, R = lscan z0 := ⟨_, rfl⟩
    rw [← hRR] at q hok hR
    obtain ⟨ts, p, b⟩ := R
    simp only at hok hR
    subst hok hR
    clear hRR hK
    generalize strOfNums z0 = S at q hsz HX
    have Q : Hid _ := q
    clear q
    obtain ⟨N, hN⟩ : ∃ N, N = out.length := ⟨_, rfl⟩
    have HN : Hid (N = out.length) := hN
    have hN6 : N ≤ 600 := by omega
    clear hN hll
    go_enter Tryd.func7, Tryd.ntmps7
    go_wp2_with fail
    refine (lawake_any _ hT).mono ?_
    rintro e w1 ⟨rfl, hbb1⟩
    go_wp2_with fail
    refine Calls.mono (Q.out _ hbb1) ?_
    rintro e w2 ⟨v2, rfl, hto2, hb2⟩
    have HB2 : Hid (Below w.heap.size w w2) := hbb1.trans (hb2.mono hbb1.size)
    obtain ⟨a2, c2, rfl⟩ := hto2.slice
    have hT2 : Ts w2 a2 _ c2 _ := Ts.of_own hto2
    simp only [List.length_append, List.length_cons, List.length_nil] at hT2 ⊢
    rw [← HN.out] at hT2 ⊢
    obtain ⟨g, off, rfl, hlt, hcells⟩ := hT2.2.2.2.2 (by omega)
    have HC : Hid _ := hcells
    clear hb2 hto2 hT2 hcells
    rw [show 0 + 1 = 1 from rfl] at *
    go_wp2
    go_loopw [26] (fun v wr => ∃ k : Nat, v = .int .i64 (k : Int) ∧ k ≤ N + 1 ∧ Below w2.heap.size w2 wr) (fun v _ => N + 1 - (intOf v).toNat)
    case atStart => exact ⟨0, rfl, by omega, Below.refl _ _⟩
    case round =>
      obtain ⟨k, rfl, hk, hb⟩ := hrel
      have hbs := hb.size
      by_cases hkN : k < N + 1
      · obtain ⟨t, ht⟩ : ∃ t, (out ++ [⟨0, [], 0, z0.length, d⟩])[k]? = some t := by
          rw [List.getElem?_eq_getElem (by simp only [List.length_append, List.length_cons, List.length_nil, ← HN.out]; omega)]
          exact ⟨_, rfl⟩
        obtain ⟨x0, x1, x2, x3, x4⟩ := HC.out k t ht
        replace x0 := (hb.cell hlt).trans x0
        replace x1 := (hb.cell hlt).trans x1
        replace x2 := (hb.cell hlt).trans x2
        replace x3 := (hb.cell hlt).trans x3
        replace x4 := (hb.cell hlt).trans x4
        have hprev : ∀ j, k = j + 1 → ∃ u : Tk, wr.cell? ⟨g, off + j * 5 + 3, none⟩ = some (.int .i64 (u.pos : Int)) ∧ u.pos < t.pos := by
          rintro j rfl
          have hj : j < out.length := by rw [← HN.out]; omega
          have hu : (out ++ [⟨0, [], 0, z0.length, d⟩])[j]? = some out[j] := by rw [List.getElem?_append_left hj, List.getElem?_eq_getElem hj]
          obtain ⟨_, _, _, y3, _⟩ := HC.out j out[j] hu
          refine ⟨out[j], (hb.cell hlt).trans y3, ?_⟩
          by_cases hl : j + 1 < out.length
          · rw [List.getElem?_append_left hl, List.getElem?_eq_getElem hl] at ht
            obtain rfl := Option.some.inj ht
            exact List.pairwise_iff_getElem.1 HK.out.2 j (j + 1) hj hl (by omega)
          · rw [List.getElem?_append_right (by omega), show j + 1 - out.length = 0 by omega] at ht
            simp only [List.getElem?_cons_zero, Option.some.injEq] at ht
            subst ht
            exact (HK.out.1 _ (List.getElem_mem hj)).2.1
        have hsort : (k = N ∧ t.kind = 0 ∧ t.pos = z0.length) ∨ (k < N ∧ t.kind ≠ 0 ∧ t.pos < z0.length ∧ (t.kind = 1 → t.pos + t.text.length ≤ z0.length ∧ lpc z0 t.pos (t.pos + t.text.length) = t.text)) := by
          by_cases hl : k < out.length
          · right
            rw [List.getElem?_append_left hl, List.getElem?_eq_getElem hl] at ht
            obtain rfl := Option.some.inj ht
            exact ⟨by rw [HN.out]; exact hl, HK.out.1 _ (List.getElem_mem hl)⟩
          · left
            rw [List.getElem?_append_right (by omega), show k - out.length = 0 by have := HN.out; omega] at ht
            simp only [List.getElem?_cons_zero, Option.some.injEq] at ht
            subst ht
            exact ⟨by have := HN.out; omega, rfl, rfl⟩
        clear ht
        have htl := strOfNums_size t.text
        obtain ⟨kd, tx, nn, ps, dc⟩ := t
        simp only at x0 x1 x2 x3 x4 hprev hsort htl
        have hwN : IntKind.i64.wrap (N : Int) = (N : Int) := by rw [IntKind.wrap_i64]; omega
        have hgw : g < wr.heap.size := Nat.lt_of_lt_of_le hlt hbs
        have hz0d : decide ((z0.length : Int) < 0) = false := by simp
        have hpsd : decide ((ps : Int) < 0) = false := by simp
        have hzz : decide ((z0.length : Int) < (z0.length : Int)) = false := by simp
        rcases hsort with ⟨hkN2, rfl, rfl⟩ | ⟨hkn, hkd, hps, hname⟩
        · have e1 : ((k : Int) == (N : Int)) = true := by simp; omega
          have hkN3 : (k : Int) ≤ (N : Int) := by omega
          clear hkN2
          by_cases hk0 : k = 0
          · have hk0' : ¬ (0 : Int) < (k : Int) := by omega
            have hk0d : decide ((0 : Int) < (k : Int)) = false := by simp; omega
            have hk0n : decide (0 < k) = false := by simp; omega
            clear hk0
            clear hprev
            go_wp2
            go_quiet (fail)
            rename_i K _ hK
            refine hK _ _ ?_
            go_wp2
            go_quiet (fail)
            rename_i K _ hK
            refine hK _ _ ?_
            go_wp2
            go_roundw
            case rel => first | exact ⟨k + 1, by go_num, by omega, hb.trans (Below.mono (by exact below_drewN ((Below.refl _ _).alloc (Nat.le_refl _) _) _) hbs)⟩ | ((repeat apply Exists.intro); exact ⟨⟨k + 1, by go_num, by omega, hb.trans (Below.mono (by exact below_drewN ((Below.refl _ _).alloc (Nat.le_refl _) _) _) hbs)⟩, rfl⟩)
            case measure => simp [intOf]; omega
          · obtain ⟨j, rfl⟩ : ∃ j, k = j + 1 := ⟨k - 1, by omega⟩
            obtain ⟨u, y3, hup⟩ := hprev j rfl
            clear hprev
            have hle : ¬ (z0.length : Int) ≤ (u.pos : Int) := by omega
            have hled : decide ((z0.length : Int) ≤ (u.pos : Int)) = false := decide_eq_false hle
            have hledn : decide (z0.length ≤ u.pos) = false := by simp; omega
            rw [show (((j + 1 : Nat)) : Int) = (j : Int) + 1 by omega] at *
            have hj0 : (0 : Int) < (j : Int) + 1 := by omega
            have hj0d : decide ((0 : Int) < (j : Int) + 1) = true := decide_eq_true hj0
            have hjN : (j : Int) < (N : Int) + 1 := by omega
            have hjp : (0 : Int) ≤ (j : Int) := by omega
            have hwj : IntKind.i64.wrap (j : Int) = (j : Int) := by rw [IntKind.wrap_i64]; omega
            go_wp2
            go_quiet (fail)
            rename_i K _ hK
            refine hK _ _ ?_
            go_wp2
            go_quiet (fail)
            rename_i K _ hK
            refine hK _ _ ?_
            go_wp2
            go_roundw
            case rel => first | exact ⟨(j + 1) + 1, by go_num, by omega, hb.trans (Below.mono (by exact below_drewN ((Below.refl _ _).alloc (Nat.le_refl _) _) _) hbs)⟩ | ((repeat apply Exists.intro); exact ⟨⟨(j + 1) + 1, by go_num, by omega, hb.trans (Below.mono (by exact below_drewN ((Below.refl _ _).alloc (Nat.le_refl _) _) _) hbs)⟩, rfl⟩)
            case measure => simp [intOf]; omega
        · have e1 : ((k : Int) == (N : Int)) = false := by simp; omega
          have e0 : (kd == 0) = false := by simpa using hkd
          have h1 : ¬ (z0.length : Int) < (ps : Int) := by omega
          have h1d : decide ((z0.length : Int) < (ps : Int)) = false := by simp; omega
          have h1n : decide (z0.length < ps) = false := by simp; omega
          by_cases hk1 : kd = 1
          · subst hk1
            obtain ⟨hn1, hn2⟩ := hname rfl
            have hcut := run_cut S ps (ps + tx.length) (ps : Int) ((ps : Int) + (tx.length : Int)) rfl (by omega) (by omega) (by omega)
            rw [HX.out, hn2] at hcut
            have h2 : ¬ (z0.length : Int) - (tx.length : Int) < (ps : Int) := by omega
            have h2d : decide ((z0.length : Int) - (tx.length : Int) < (ps : Int)) = false := by simp; omega
            have hw1 : IntKind.i64.wrap ((z0.length : Int) - (tx.length : Int)) = (z0.length : Int) - (tx.length : Int) := by rw [IntKind.wrap_i64]; omega
            have hw2 : IntKind.i64.wrap ((ps : Int) + (tx.length : Int)) = (ps : Int) + (tx.length : Int) := by rw [IntKind.wrap_i64]; omega
            have hse : ((strOfNums tx).toList == (strOfNums tx).toList) = true := by simp
            clear hname hn2
            by_cases hk0 : k = 0
            · have hk0' : ¬ (0 : Int) < (k : Int) := by omega
              have hk0d : decide ((0 : Int) < (k : Int)) = false := by simp; omega
              have hk0n : decide (0 < k) = false := by simp; omega
              clear hk0
              clear hprev
              go_wp2
              go_quiet (fail)
              rename_i K _ hK
              refine hK _ _ ?_
              go_wp2
              go_quiet (fail)
              rename_i K _ hK
              refine hK _ _ ?_
              go_wp2
              go_roundw
              case rel => first | exact ⟨k + 1, by go_num, by omega, hb.trans (Below.mono (by exact below_drewN ((Below.refl _ _).alloc (Nat.le_refl _) _) _) hbs)⟩ | ((repeat apply Exists.intro); exact ⟨⟨k + 1, by go_num, by omega, hb.trans (Below.mono (by exact below_drewN ((Below.refl _ _).alloc (Nat.le_refl _) _) _) hbs)⟩, rfl⟩)
              case measure => simp [intOf]; omega
            · obtain ⟨j, rfl⟩ : ∃ j, k = j + 1 := ⟨k - 1, by omega⟩
              obtain ⟨u, y3, hup⟩ := hprev j rfl
              clear hprev
              have hle : ¬ (ps : Int) ≤ (u.pos : Int) := by omega
              have hledp : decide ((ps : Int) ≤ (u.pos : Int)) = false := decide_eq_false hle
              have hledpn : decide (ps ≤ u.pos) = false := by simp; omega
              rw [show (((j + 1 : Nat)) : Int) = (j : Int) + 1 by omega] at *
              have hj0 : (0 : Int) < (j : Int) + 1 := by omega
              have hj0d : decide ((0 : Int) < (j : Int) + 1) = true := decide_eq_true hj0
              have hjN : (j : Int) < (N : Int) + 1 := by omega
              have hjp : (0 : Int) ≤ (j : Int) := by omega
              have hwj : IntKind.i64.wrap (j : Int) = (j : Int) := by rw [IntKind.wrap_i64]; omega
              go_wp2
              go_quiet (fail)
              rename_i K _ hK
              refine hK _ _ ?_
              go_wp2
              go_quiet (fail)
              rename_i K _ hK
              refine hK _ _ ?_
              go_wp2
              go_roundw
              case rel => first | exact ⟨(j + 1) + 1, by go_num, by omega, hb.trans (Below.mono (by exact below_drewN ((Below.refl _ _).alloc (Nat.le_refl _) _) _) hbs)⟩ | ((repeat apply Exists.intro); exact ⟨⟨(j + 1) + 1, by go_num, by omega, hb.trans (Below.mono (by exact below_drewN ((Below.refl _ _).alloc (Nat.le_refl _) _) _) hbs)⟩, rfl⟩)
              case measure => simp [intOf]; omega
          · have e2 : (kd == 1) = false := by simpa using hk1
            clear hname
            by_cases hk0 : k = 0
            · have hk0' : ¬ (0 : Int) < (k : Int) := by omega
              have hk0d : decide ((0 : Int) < (k : Int)) = false := by simp; omega
              have hk0n : decide (0 < k) = false := by simp; omega
              clear hk0
              clear hprev
              go_wp2
              go_quiet (fail)
              rename_i K _ hK
              refine hK _ _ ?_
              go_wp2
              go_quiet (fail)
              rename_i K _ hK
              refine hK _ _ ?_
              go_wp2
              go_roundw
              case rel => first | exact ⟨k + 1, by go_num, by omega, hb.trans (Below.mono (by exact below_drewN ((Below.refl _ _).alloc (Nat.le_refl _) _) _) hbs)⟩ | ((repeat apply Exists.intro); exact ⟨⟨k + 1, by go_num, by omega, hb.trans (Below.mono (by exact below_drewN ((Below.refl _ _).alloc (Nat.le_refl _) _) _) hbs)⟩, rfl⟩)
              case measure => simp [intOf]; omega
            · obtain ⟨j, rfl⟩ : ∃ j, k = j + 1 := ⟨k - 1, by omega⟩
              obtain ⟨u, y3, hup⟩ := hprev j rfl
              clear hprev
              have hle : ¬ (ps : Int) ≤ (u.pos : Int) := by omega
              have hledp : decide ((ps : Int) ≤ (u.pos : Int)) = false := decide_eq_false hle
              have hledpn : decide (ps ≤ u.pos) = false := by simp; omega
              rw [show (((j + 1 : Nat)) : Int) = (j : Int) + 1 by omega] at *
              have hj0 : (0 : Int) < (j : Int) + 1 := by omega
              have hj0d : decide ((0 : Int) < (j : Int) + 1) = true := decide_eq_true hj0
              have hjN : (j : Int) < (N : Int) + 1 := by omega
              have hjp : (0 : Int) ≤ (j : Int) := by omega
              have hwj : IntKind.i64.wrap (j : Int) = (j : Int) := by rw [IntKind.wrap_i64]; omega
              go_wp2
              go_quiet (fail)
              rename_i K _ hK
              refine hK _ _ ?_
              go_wp2
              go_quiet (fail)
              rename_i K _ hK
              refine hK _ _ ?_
              go_wp2
              go_roundw
              case rel => first | exact ⟨(j + 1) + 1, by go_num, by omega, hb.trans (Below.mono (by exact below_drewN ((Below.refl _ _).alloc (Nat.le_refl _) _) _) hbs)⟩ | ((repeat apply Exists.intro); exact ⟨⟨(j + 1) + 1, by go_num, by omega, hb.trans (Below.mono (by exact below_drewN ((Below.refl _ _).alloc (Nat.le_refl _) _) _) hbs)⟩, rfl⟩)
              case measure => simp [intOf]; omega
      · have hkN1 : ¬ (k : Int) < (N : Int) + 1 := by omega
        have hlast : (out ++ [⟨0, [], 0, z0.length, d⟩])[N]? = some ⟨0, [], 0, z0.length, d⟩ := by
          rw [HN.out, List.getElem?_append_right (Nat.le_refl _), Nat.sub_self]; rfl
        obtain ⟨_, _, _, y3, _⟩ := HC.out N _ hlast
        replace y3 := (hb.cell hlt).trans y3
        simp only at y3
        have hN1 : (0 : Int) < (N : Int) + 1 := by omega
        have hNp : (0 : Int) ≤ (N : Int) := by omega
        have hwN : IntKind.i64.wrap (N : Int) = (N : Int) := by rw [IntKind.wrap_i64]; omega
        clear hlast hkN
        go_wp2
        go_ret
        exact ⟨by simp, HB2.out.trans (hb.mono HB2.out.size)⟩
  · have hbad := lscan_bad z0 hok
    obtain ⟨R, hRR⟩ : ∃ R, R = lscan z0 := ⟨_, rfl⟩
    rw [← hRR] at q hok hbad
    obtain ⟨ts, p, b⟩ := R
    simp only at hok hbad
    subst hbad
    have hb0 : (b != 0) = true := by simpa using hok
    clear hRR hok
    generalize strOfNums z0 = S at q hsz
    have Q : Hid _ := q
    clear q
    go_enter Tryd.func7, Tryd.ntmps7
    go_wp2_with fail
    refine (lawake_any _ hT).mono ?_
    rintro e w1 ⟨rfl, hbb1⟩
    go_wp2_with fail
    refine Calls.mono (Q.out _ hbb1) ?_
    rintro e w2 ⟨v2, rfl, hto2, hb2⟩
    have HB2 : Hid (Below w.heap.size w w2) := hbb1.trans (hb2.mono hbb1.size)
    obtain ⟨a2, c2, rfl⟩ := hto2.slice
    rw [show ([] : List Tk).length = 0 from rfl]
    clear hb2 hto2
    go_wp2
    go_ret
    exact ⟨rfl, HB2.out⟩

theorem contract (H : Type) (enc : TypeId × Value → H) (W : World) (base : Nat) (args : Array Value) (ds gs : List (DataW H)) (before : List MemPlace)
    (hval0 : ∀ (j : Nat) t v, Tryd.f7.params[j]? = some t → args[j]? = some v → Value.okWide Tryd.prog W .any base t v)
    (hW : DataW.Whole enc Tryd.prog Tryd.f7.params.toList Rows.lexKindsSpec.vars false W args.toList ds gs before) (hL : laidMetH Tryd.prog Rows.lexKindsRow.laid W) (hsh : W.ShapedOpen Tryd.prog) :
    Calls Tryd.prog 7 args W fun e W' => ∃ v, e = .returned v ∧ Rows.lexKindsSpec.post enc Tryd.prog Tryd.f7 false true false false W args v W' := by
  have hval : ∀ (j : Nat) t v, Tryd.f7.params[j]? = some t → args[j]? = some v → Value.okWide Tryd.prog W .any base t v := hval0
  have hW' := hW
  obtain ⟨p, q, hA0, hV, rfl, hfz, hnd⟩ := hW
  have hA : DataW.TrodAll enc Tryd.prog W 0 (fun _ => true) true Tryd.f7.params.toList args.toList ds p := hA0
  rw [Tryd.params7] at hA hval
  obtain ⟨v0, vs0, d0, ds0, p0, q0, hargs, rfl, rfl, h0, r0⟩ := trodAll_cons hA
  obtain ⟨rfl, rfl, rfl⟩ := trodAll_nil r0
  obtain rfl : args = #[v0] := by cases args; simp_all
  obtain ⟨rfl, rfl⟩ := trodVars_none hV
  obtain ⟨s0, rfl, rfl, rfl, w0⟩ := open_string Tryd.underlying9 (hval 0 9 v0 rfl rfl) h0
  obtain ⟨z0, rfl, hz0⟩ := str_nums s0
  clear hA0 hval0
  refine (walk z0 W (table hL hsh) hz0).mono fun e W' ⟨he, bel⟩ => ?_
  subst he
  exact ⟨_, rfl, _, _, _, [], _, [], hW', trodAll_mk1 (shut_bool Tryd.underlying4 _), (trodAll_cons_mk (shut_string Tryd.underlying9 w0) trodAll_mk0), rfl, bel.frame _, fun h => by cases h⟩

theorem laid_met (os : Os) : laidMet Tryd.prog Rows.lexKindsRow.laid ((laidWorld os).forCall (fun _ _ => 0) ⟨#[], #[.string ByteArray.empty], []⟩).memory :=
  laidMet_of_run' 8 (by kernel_rfl) (by kernel_rfl)

theorem reads (os : Os) {H : Type} (enc : TypeId × Value → H) : ∃ places, DataW.whole enc Tryd.prog ((laidWorld os).forCall (fun _ _ => 0) ⟨#[], #[.string ByteArray.empty], []⟩).memory Tryd.f7.params.toList Rows.lexKindsSpec.vars false (#[.string ByteArray.empty] : Array Value).toList 8 = some ([.lit (.string [])], [], places) :=
  ⟨[], by kernel_rfl⟩

set_option maxRecDepth 100000 in
theorem lifted (os : Os) (started : os.Started) (H : Type) (enc : TypeId × Value → H) (F : Stop.Interp) :
    ReturnsInHanded {} Tryd.checked os 7 .any ((OpenSpec.ofChange Rows.lexKindsSpec).preRow enc Tryd.prog Tryd.f7 Rows.lexKindsRow.domain false Rows.lexKindsRow.laid) (((OpenSpec.ofChange Rows.lexKindsSpec).at F).post enc Tryd.prog Tryd.f7 false true false false) := by
  obtain ⟨places, hx⟩ := reads os enc
  refine returnsInHanded_of_row (C := Tryd.checked) (s := OpenSpec.ofChange Rows.lexKindsSpec) own started (by kernel_rfl) Tryd.func7
    (witness_row_at (enc := enc) (C := Tryd.checked) false (laidWorld os) #[.string ByteArray.empty] rfl (by kernel_rfl) (by kernel_rfl) (by kernel_rfl)
      (OpenSpec.preRow_of_cond 8 hx (by kernel_rfl) (fun k hk => by cases hk) (by kernel_rfl) (laid_met os))) ?_
  intro W base args ds gs before hval hW _ _ _ hL hsh _
  exact contract H enc W base args ds gs before hval hW hL hsh

theorem said : Rows.LexKindsSaid :=
  OpenClaim.holds_of_cond 7 Tryd.f7 rfl rfl rfl rfl rfl rfl rfl ⟨rfl, rfl, rfl, rfl, rfl⟩ rfl rfl rfl rfl rfl (by kernel_rfl) Tryd.func7 (by kernel_rfl)
    (of_decide_eq_true (by kernel_rfl)) (by unfold Func.isWrapper; first | (rw [if_pos (by decide +kernel)]; kernel_rfl) | (rw [if_neg (by decide +kernel)]; exact ⟨rfl, rfl⟩))
    (fun os started H enc _ F => by rw [OpenClaim.pre_eq_preRow]; exact lifted os started H enc F)

/-- No parameter wants a stand-in; the program's own looks are off: what the card asks. -/
theorem plain (f : FuncId) (fn : Func) (hf : Tryd.pinned.checked.prog.funcNamed "glossary/glossarylaw05.LexKinds" = some f) (hfn : Tryd.pinned.checked.prog.funcs[f]? = some fn) :
    false = Tryd.pinned.checked.prog.looks [] ∧ ∀ (j : Nat) t, fn.params[j]? = some t → Tryd.pinned.checked.prog.wantsStandIn t = false := by
  obtain rfl : f = 7 := Option.some.inj ((show Tryd.prog.funcNamed "glossary/glossarylaw05.LexKinds" = some 7 by kernel_rfl).symm.trans hf) |>.symm
  obtain rfl : fn = Tryd.f7 := (Option.some.inj (Tryd.func7.symm.trans hfn)).symm
  refine ⟨by kernel_rfl, fun j t ht => ?_⟩
  rw [Tryd.params7] at ht
  have hm := Array.mem_of_getElem? ht
  simp only [List.mem_toArray, List.mem_cons, List.not_mem_nil, or_false] at hm
  subst hm
  exact (show Tryd.prog.wantsStandIn 9 = false by kernel_rfl)

end Go.Proofs.YtjkcmcefmciinaaDoor.lexKinds
namespace Go.Proofs.YtjkcmcefmciinaaDoor
theorem lexKinds_holds : Rows.LexKindsCardSaid :=
  Claim7.holds_tied_plain_at .later [] _ _ _ _ lexKinds.said (fun _ h => by cases h) (by kernel_rfl) (fun _ h => by cases h) lexKinds_row_tie rfl ⟨rfl, rfl⟩ (by kernel_rfl) rfl lexKinds.plain (by kernel_rfl)
#print axioms lexKinds_holds
end Go.Proofs.YtjkcmcefmciinaaDoor
