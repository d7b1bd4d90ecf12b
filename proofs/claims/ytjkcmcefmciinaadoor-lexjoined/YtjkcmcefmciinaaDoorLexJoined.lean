/- LexJoined, proved for all texts: the tokens of two sources, a new line between, are those of the one, and then those of the other, but for places and comments; no condition. -/
import Derived.Test.YtjkcmcefmciinaaDoorCards
import Derived.Test.YtjkcmcefmciinaaDoorTie
import Derived.Test.YtjkcmcefmciinaaDoorLAwake
import Derived.Deep.RegionWith
import Derived.Deep.QuietTactic
import Derived.BigQuiet
import Derived.ProofKit
import Derived.OpenShut
import Derived.ShutString
import Derived.ChangeOld
import Derived.Below
import Derived.Deep.DeepHandedRow
import Derived.Lib.LaidTab
import Derived.Stop.LaidErr
import Derived.Shelf.Vars
namespace Go.Proofs.YtjkcmcefmciinaaDoor.lexJoined
open Go.ChangeShapes Go.WideShapes Go.ChangeAt Go.RowKit
open Go.ChangeMaps (open_string shut_string)
set_option linter.unusedVariables false

theorem own : ownKnob Tryd.prog.godebug = none := by kernel_rfl
theorem laidOut : laidOutB Tryd.prog = true := by kernel_rfl

theorem gHd : Tryd.prog.globalNamed "glossary/utf.heads" = some 1 := by kernel_rfl
theorem gHdT : (Tryd.prog.globals[1]?).map (·.type) = some 90 := by kernel_rfl

/-- WHAT THE ROW's LIST AND THE WORLD's SHAPE GIVE: the table's cells hold its numbers; internal/bytealg.MaxLen holds some number. -/
theorem table {W : World} (h : laidMetH Tryd.prog Rows.lexJoinedRow.laid W) (hs : W.ShapedOpen Tryd.prog) : LTab W := by
  refine ⟨?_, cell_of_shapedOpen_int (zero := #[.int .i64 0]) (t := 3) hs (of_decide_eq_true (by kernel_rfl)) (by kernel_rfl) rfl (by kernel_rfl) (by kernel_rfl) Tryd.underlying3⟩
  have h2 : Lib.TabIs Tryd.prog W "glossary/utf.heads" .u8 [0, 0, 192, 224, 240] := Lib.tabIs_of_head (rest := []) gHd gHdT Tryd.underlying90 Tryd.underlying5 (by kernel_rfl) (by kernel_rfl) h
  exact fun i hi => h2.cell gHd i hi

/-- A WORLD FOR THE WITNESS: the settled one, the table holding what its initialiser lays. -/
def layCells (xs : Array Value) : Obj → Obj
  | .cells _ t frozen => .cells xs t frozen
  | o => o
noncomputable def laidWorld (os : Os) : World :=
  { World.holding Tryd.prog os ⟨#[], #[], []⟩ with heap := (World.holding Tryd.prog os ⟨#[], #[], []⟩).heap.modify 1 (layCells (([0, 0, 192, 224, 240] : List Int).map fun z => Value.int .u8 z).toArray) }

theorem co_parts {t u : Tk} (h : t.co = u.co) : t.kind = u.kind ∧ t.text = u.text ∧ t.n = u.n := by
  simp only [Tk.co, Prod.mk.injEq] at h
  exact h

theorem join_len {xs ys zs : List Tk} (h : zs.map Tk.co = (xs.map Tk.co).dropLast ++ ys.map Tk.co) (hx : 0 < xs.length) : zs.length + 1 = xs.length + ys.length := by
  have := congrArg List.length h
  simp only [List.length_map, List.length_append, List.length_dropLast] at this
  omega

theorem join_left {xs ys zs : List Tk} (h : zs.map Tk.co = (xs.map Tk.co).dropLast ++ ys.map Tk.co) (k : Nat) (hk : k + 1 < xs.length) (t : Tk) (ht : zs[k]? = some t) : ∃ u, xs[k]? = some u ∧ t.co = u.co := by
  have e : (zs.map Tk.co)[k]? = (xs.map Tk.co)[k]? := by
    rw [h, List.getElem?_append_left (by simp; omega), List.getElem?_dropLast, if_pos (by simp; omega)]
  simp only [List.getElem?_map, ht, Option.map_some] at e
  rw [List.getElem?_eq_getElem (show k < xs.length by omega)] at e ⊢
  simp only [Option.map_some, Option.some.injEq] at e
  exact ⟨_, rfl, e⟩

theorem join_right {xs ys zs : List Tk} (h : zs.map Tk.co = (xs.map Tk.co).dropLast ++ ys.map Tk.co) (hx : 0 < xs.length) (k j : Nat) (hk : k + 1 = xs.length + j) (t : Tk) (ht : zs[k]? = some t) : ∃ u, ys[j]? = some u ∧ t.co = u.co := by
  have e : (zs.map Tk.co)[k]? = (ys.map Tk.co)[j]? := by
    rw [h, List.getElem?_append_right (by simp; omega)]
    congr 1
    simp
    omega
  simp only [List.getElem?_map, ht, Option.map_some] at e
  cases hy : ys[j]? with
  | none => rw [hy] at e; simp at e
  | some u => rw [hy] at e; exact ⟨u, rfl, by simpa using e⟩

set_option maxRecDepth 100000 in
set_option maxHeartbeats 4000000 in
theorem walk (z0 : List Int) (z1 : List Int) (w : World) (hT : Hid (LTab w)) (hz0 : Hid (∀ i, 0 ≤ z0.getD i 0 ∧ z0.getD i 0 ≤ 255)) (hz1 : Hid (∀ i, 0 ≤ z1.getD i 0 ∧ z1.getD i 0 ≤ 255)) :
    Calls Tryd.prog 8 #[.string (strOfNums z0), .string (strOfNums z1)] w fun e w' => e = .returned (.bool true) ∧ Below w.heap.size w w' := by
  have hsz := strOfNums_size z0
  have hsz1 := strOfNums_size z1
  by_cases hbig : 300 < z0.length
  · have hbig' : (300 : Int) < (z0.length : Int) := by omega
    generalize strOfNums z0 = S at hsz
    generalize strOfNums z1 = S1 at hsz1
    go_enter Tryd.func8, Tryd.ntmps8
    go_wp2_with fail
    refine (lawake_any _ hT).mono ?_
    rintro e w1 ⟨rfl, hbb1⟩
    go_wp2
    go_ret
    exact ⟨rfl, hbb1⟩
  have hbig' : ¬ (300 : Int) < (z0.length : Int) := by omega
  by_cases hbg : 300 < z1.length
  · have hbg' : (300 : Int) < (z1.length : Int) := by omega
    generalize strOfNums z0 = S at hsz
    generalize strOfNums z1 = S1 at hsz1
    go_enter Tryd.func8, Tryd.ntmps8
    go_wp2_with fail
    refine (lawake_any _ hT).mono ?_
    rintro e w1 ⟨rfl, hbb1⟩
    go_wp2
    go_ret
    exact ⟨rfl, hbb1⟩
  have hbg' : ¬ (300 : Int) < (z1.length : Int) := by omega
  have hzz : ∀ c ∈ z0 ++ 10 :: z1, 0 ≤ c ∧ c ≤ 255 := by
    intro c hc
    rcases List.mem_append.1 hc with hc | hc
    · exact mem_bd hz0.out c hc
    · rcases List.mem_cons.1 hc with rfl | hc
      · omega
      · exact mem_bd hz1.out c hc
  have q0 := fun W (hB : Below w.heap.size w W) => pscan_any z0 W (hT.out.below hB (Nat.le_refl _)) hz0 (by omega)
  have q1 := fun W (hB : Below w.heap.size w W) => pscan_any z1 W (hT.out.below hB (Nat.le_refl _)) hz1 (by omega)
  have q2 := fun W (hB : Below w.heap.size w W) => pscan_any (z0 ++ 10 :: z1) W (hT.out.below hB (Nat.le_refl _)) (getD_bd hzz) (by simp only [List.length_append, List.length_cons]; omega)
  have a1 : ∀ W, (Op.stringOp .add (strOfNums z0) { data := #[10] }).run Tryd.prog W = .ok (.string (strOfNums (z0 ++ [10]))) W := fun W => run_add W z0 [10] (by simp only [List.length_cons, List.length_nil]; omega)
  have a2 : ∀ W, (Op.stringOp .add (strOfNums (z0 ++ [10])) (strOfNums z1)).run Tryd.prog W = .ok (.string (strOfNums (z0 ++ 10 :: z1))) W := fun W => by
    rw [run_add W (z0 ++ [10]) z1 (by simp only [List.length_append, List.length_cons, List.length_nil]; omega)]
    simp
  have hl0 := lscan_len z0
  have hl1 := lscan_len z1
  have hl2 := lscan_len (z0 ++ 10 :: z1)
  have hjoin := lscan_join z0 z1 (by omega) (by omega)
  have hk0 := lscan_kinds z0
  rw [List.length_append, List.length_cons] at hl2
  clear hzz
  generalize lscan (z0 ++ 10 :: z1) = R2 at q2 hl2 hjoin
  generalize lscan z0 = R0 at q0 hl0 hjoin hk0
  generalize lscan z1 = R1 at q1 hl1 hjoin
  generalize strOfNums (z0 ++ 10 :: z1) = S2 at q2 a2
  generalize strOfNums (z0 ++ [10]) = S3 at a1 a2
  generalize strOfNums z0 = S at q0 a1 hsz
  generalize strOfNums z1 = S1 at q1 a2 hsz1
  obtain ⟨xs, p0, b0⟩ := R0
  obtain ⟨ys, p1, b1⟩ := R1
  obtain ⟨zs, p2, b2⟩ := R2
  simp only at hl0 hl1 hl2 hjoin hk0
  have Q0 : Hid _ := q0
  have Q1 : Hid _ := q1
  have Q2 : Hid _ := q2
  clear q0 q1 q2
  by_cases hb0 : b0 = 0
  · subst hb0
    by_cases hb1 : b1 = 0
    · subst hb1
      obtain ⟨hj1, hj2⟩ := hjoin rfl rfl
      subst hj1
      obtain ⟨o0, d0, hx0, _⟩ := hk0 rfl
      have hxp : 0 < xs.length := by rw [hx0]; simp
      have hlz := join_len hj2 hxp
      have HJ : Hid _ := hj2
      clear hjoin hk0 hj2 hx0
      go_enter Tryd.func8, Tryd.ntmps8
      go_wp2_with fail
      refine (lawake_any _ hT).mono ?_
      rintro e w1 ⟨rfl, hbb1⟩
      go_wp2_with fail
      refine Calls.mono (Q0.out _ hbb1) ?_
      rintro e w2 ⟨v2, rfl, hto2, hb2⟩
      have HB2 : Hid (Below w.heap.size w w2) := hbb1.trans (hb2.mono hbb1.size)
      obtain ⟨aa2, c2, rfl⟩ := hto2.slice
      have HT2 : Hid (Ts w2 aa2 xs.length c2 xs) := Ts.of_own hto2
      clear hb2 hto2
      simp only
      go_wp2_with fail
      refine Calls.mono (Q1.out _ HB2.out) ?_
      rintro e w3 ⟨v3, rfl, hto3, hb3⟩
      have HB3 : Hid (Below w.heap.size w w3) := HB2.out.trans (hb3.mono HB2.out.size)
      obtain ⟨aa3, c3, rfl⟩ := hto3.slice
      have HT3 : Hid (Ts w3 aa3 ys.length c3 ys) := Ts.of_own hto3
      have HT23 : Hid (Ts w3 aa2 xs.length c2 xs) := HT2.out.below hb3 (Nat.le_refl _)
      clear hb3 hto3 HT2
      simp only
      go_wp2_with fail
      refine Calls.mono (Q2.out _ HB3.out) ?_
      rintro e w4 ⟨v4, rfl, hto4, hb4⟩
      have HB4 : Hid (Below w.heap.size w w4) := HB3.out.trans (hb4.mono HB3.out.size)
      obtain ⟨aa4, c4, rfl⟩ := hto4.slice
      have HT4 : Hid (Ts w4 aa4 zs.length c4 zs) := Ts.of_own hto4
      have HT34 : Hid (Ts w4 aa3 ys.length c3 ys) := HT3.out.below hb4 (Nat.le_refl _)
      have HT24 : Hid (Ts w4 aa2 xs.length c2 xs) := HT23.out.below hb4 (Nat.le_refl _)
      clear hb4 hto4 HT3 HT23
      obtain ⟨lx, hlx⟩ : ∃ lx, lx = xs.length := ⟨_, rfl⟩
      obtain ⟨ly, hly⟩ : ∃ ly, ly = ys.length := ⟨_, rfl⟩
      obtain ⟨lz, hlz'⟩ : ∃ lz, lz = zs.length := ⟨_, rfl⟩
      rw [← hlx] at hl0 hxp hlz HT24 ⊢
      rw [← hly] at hl1 hlz HT34 ⊢
      rw [← hlz'] at hl2 hlz HT4 ⊢
      have HLX : Hid (lx = xs.length) := hlx
      clear hlx hly hlz'
      have hzi : (lx : Int) + (ly : Int) - 1 = (lz : Int) := by omega
      have hzz : ((lz : Int) != (lz : Int)) = false := by simp
      simp only
      go_wp2
      go_loopw [69] (fun v wr => ∃ k : Nat, v = .int .i64 (k : Int) ∧ k ≤ lz ∧ Below w4.heap.size w4 wr) (fun v _ => lz - (intOf v).toNat)
      case atStart => exact ⟨0, rfl, by omega, Below.refl _ _⟩
      case round =>
        obtain ⟨k, rfl, hk, hb⟩ := hrel
        have hbs := hb.size
        by_cases hkz : k < lz
        · obtain ⟨g4, o4, rfl, hlt4, hc4⟩ := HT4.out.2.2.2.2 (by omega)
          obtain ⟨t, ht⟩ : ∃ t, zs[k]? = some t := ⟨zs[k]'(by rw [HT4.out.1]; exact hkz), List.getElem?_eq_getElem (by rw [HT4.out.1]; exact hkz)⟩
          obtain ⟨x0, x1, x2, x3, x4⟩ := hc4 k t ht
          replace x0 := (hb.cell hlt4).trans x0
          replace x1 := (hb.cell hlt4).trans x1
          replace x2 := (hb.cell hlt4).trans x2
          replace x3 := (hb.cell hlt4).trans x3
          replace x4 := (hb.cell hlt4).trans x4
          clear hc4
          have hg4 : g4 < wr.heap.size := Nat.lt_of_lt_of_le hlt4 hbs
          by_cases hkx : k + 1 < lx
          · obtain ⟨g2, o2, rfl, hlt2, hc2⟩ := HT24.out.2.2.2.2 (by omega)
            obtain ⟨u, hu, hco⟩ := join_left HJ.out k (by rw [← HLX.out]; exact hkx) t ht
            obtain ⟨y0, y1, y2, y3, y4⟩ := hc2 k u hu
            replace y0 := (hb.cell hlt2).trans y0
            replace y1 := (hb.cell hlt2).trans y1
            replace y2 := (hb.cell hlt2).trans y2
            replace y3 := (hb.cell hlt2).trans y3
            replace y4 := (hb.cell hlt2).trans y4
            obtain ⟨e1, e2, e3⟩ := co_parts hco
            rw [e1] at x0
            rw [e2] at x1
            rw [e3] at x2
            have hg2 : g2 < wr.heap.size := Nat.lt_of_lt_of_le hlt2 hbs
            have hkx' : (k : Int) < (lx : Int) - 1 := by omega
            clear hc2 hu hco ht e1 e2 e3
            have hse : ((strOfNums u.text).toList == (strOfNums u.text).toList) = true := by simp
            have hse2 : ((strOfNums u.text).toList != (strOfNums u.text).toList) = false := by simp
            have hk2 : (u.kind != u.kind) = false := by simp
            have hn2 : (u.n != u.n) = false := by simp
            go_wp2
            go_roundw
            case rel => first | exact ⟨k + 1, by go_num, by omega, hb.trans ((two_allc wr _ _).mono hb.size)⟩ | ((repeat apply Exists.intro); exact ⟨⟨k + 1, by go_num, by omega, hb.trans ((two_allc wr _ _).mono hb.size)⟩, rfl⟩)
            case measure => simp [intOf]; omega
          · obtain ⟨j, hj⟩ : ∃ j, k + 1 = lx + j := ⟨k + 1 - lx, by omega⟩
            obtain ⟨g3, o3, rfl, hlt3, hc3⟩ := HT34.out.2.2.2.2 (by omega)
            obtain ⟨u, hu, hco⟩ := join_right HJ.out (by rw [← HLX.out]; exact hxp) k j (by rw [← HLX.out]; exact hj) t ht
            obtain ⟨y0, y1, y2, y3, y4⟩ := hc3 j u hu
            replace y0 := (hb.cell hlt3).trans y0
            replace y1 := (hb.cell hlt3).trans y1
            replace y2 := (hb.cell hlt3).trans y2
            replace y3 := (hb.cell hlt3).trans y3
            replace y4 := (hb.cell hlt3).trans y4
            obtain ⟨e1, e2, e3⟩ := co_parts hco
            rw [e1] at x0
            rw [e2] at x1
            rw [e3] at x2
            have hg3 : g3 < wr.heap.size := Nat.lt_of_lt_of_le hlt3 hbs
            have hkx' : ¬ (k : Int) < (lx : Int) - 1 := by omega
            have hji : (k : Int) - (lx : Int) + 1 = (j : Int) := by omega
            have hjy : (j : Int) < (ly : Int) := by omega
            clear hc3 hu hco ht e1 e2 e3 hj hkx
            have hse : ((strOfNums u.text).toList == (strOfNums u.text).toList) = true := by simp
            have hse2 : ((strOfNums u.text).toList != (strOfNums u.text).toList) = false := by simp
            have hk2 : (u.kind != u.kind) = false := by simp
            have hn2 : (u.n != u.n) = false := by simp
            go_wp2
            go_roundw
            case rel => first | exact ⟨k + 1, by go_num, by omega, hb.trans ((two_allc wr _ _).mono hb.size)⟩ | ((repeat apply Exists.intro); exact ⟨⟨k + 1, by go_num, by omega, hb.trans ((two_allc wr _ _).mono hb.size)⟩, rfl⟩)
            case measure => simp [intOf]; omega
        · have hkz' : ¬ (k : Int) < (lz : Int) := by omega
          go_wp2
          go_ret
          exact ⟨rfl, HB4.out.trans (hb.mono HB4.out.size)⟩
    · have hb1' : (b1 != 0) = true := by simpa using hb1
      clear hjoin hk0 hb1
      go_enter Tryd.func8, Tryd.ntmps8
      go_wp2_with fail
      refine (lawake_any _ hT).mono ?_
      rintro e w1 ⟨rfl, hbb1⟩
      go_wp2_with fail
      refine Calls.mono (Q0.out _ hbb1) ?_
      rintro e w2 ⟨v2, rfl, hto2, hb2⟩
      have HB2 : Hid (Below w.heap.size w w2) := hbb1.trans (hb2.mono hbb1.size)
      clear hb2 hto2
      simp only
      go_wp2_with fail
      refine Calls.mono (Q1.out _ HB2.out) ?_
      rintro e w3 ⟨v3, rfl, hto3, hb3⟩
      have HB3 : Hid (Below w.heap.size w w3) := HB2.out.trans (hb3.mono HB2.out.size)
      clear hb3 hto3
      simp only
      go_wp2_with fail
      refine Calls.mono (Q2.out _ HB3.out) ?_
      rintro e w4 ⟨v4, rfl, hto4, hb4⟩
      have HB4 : Hid (Below w.heap.size w w4) := HB3.out.trans (hb4.mono HB3.out.size)
      clear hb4 hto4
      simp only
      go_wp2
      go_ret
      exact ⟨rfl, HB4.out⟩
  · have hb0' : (b0 != 0) = true := by simpa using hb0
    clear hjoin hk0 hb0
    go_enter Tryd.func8, Tryd.ntmps8
    go_wp2_with fail
    refine (lawake_any _ hT).mono ?_
    rintro e w1 ⟨rfl, hbb1⟩
    go_wp2_with fail
    refine Calls.mono (Q0.out _ hbb1) ?_
    rintro e w2 ⟨v2, rfl, hto2, hb2⟩
    have HB2 : Hid (Below w.heap.size w w2) := hbb1.trans (hb2.mono hbb1.size)
    clear hb2 hto2
    simp only
    go_wp2_with fail
    refine Calls.mono (Q1.out _ HB2.out) ?_
    rintro e w3 ⟨v3, rfl, hto3, hb3⟩
    have HB3 : Hid (Below w.heap.size w w3) := HB2.out.trans (hb3.mono HB2.out.size)
    clear hb3 hto3
    simp only
    go_wp2_with fail
    refine Calls.mono (Q2.out _ HB3.out) ?_
    rintro e w4 ⟨v4, rfl, hto4, hb4⟩
    have HB4 : Hid (Below w.heap.size w w4) := HB3.out.trans (hb4.mono HB3.out.size)
    clear hb4 hto4
    simp only
    go_wp2
    go_ret
    exact ⟨rfl, HB4.out⟩

theorem contract (H : Type) (enc : TypeId × Value → H) (W : World) (base : Nat) (args : Array Value) (ds gs : List (DataW H)) (before : List MemPlace)
    (hval0 : ∀ (j : Nat) t v, Tryd.f8.params[j]? = some t → args[j]? = some v → Value.okWide Tryd.prog W .any base t v)
    (hW : DataW.Whole enc Tryd.prog Tryd.f8.params.toList Rows.lexJoinedSpec.vars false W args.toList ds gs before) (hL : laidMetH Tryd.prog Rows.lexJoinedRow.laid W) (hsh : W.ShapedOpen Tryd.prog) :
    Calls Tryd.prog 8 args W fun e W' => ∃ v, e = .returned v ∧ Rows.lexJoinedSpec.post enc Tryd.prog Tryd.f8 false true false false W args v W' := by
  have hval : ∀ (j : Nat) t v, Tryd.f8.params[j]? = some t → args[j]? = some v → Value.okWide Tryd.prog W .any base t v := hval0
  have hW' := hW
  obtain ⟨p, q, hA0, hV, rfl, hfz, hnd⟩ := hW
  have hA : DataW.TrodAll enc Tryd.prog W 0 (fun _ => true) true Tryd.f8.params.toList args.toList ds p := hA0
  rw [Tryd.params8] at hA hval
  obtain ⟨v0, vs0, d0, ds0, p0, q0, hargs, rfl, rfl, h0, r0⟩ := trodAll_cons hA
  obtain ⟨v1, vs1, d1, ds1, p1, q1, rfl, rfl, rfl, h1, r1⟩ := trodAll_cons r0
  obtain ⟨rfl, rfl, rfl⟩ := trodAll_nil r1
  obtain rfl : args = #[v0, v1] := by cases args; simp_all
  obtain ⟨rfl, rfl⟩ := trodVars_none hV
  obtain ⟨s0, rfl, rfl, rfl, w0⟩ := open_string Tryd.underlying9 (hval 0 9 v0 rfl rfl) h0
  obtain ⟨z0, rfl, hz0⟩ := str_nums s0
  obtain ⟨s1, rfl, rfl, rfl, w1⟩ := open_string Tryd.underlying9 (hval 1 9 v1 rfl rfl) h1
  obtain ⟨z1, rfl, hz1⟩ := str_nums s1
  clear hA0 hval0
  refine (walk z0 z1 W (table hL hsh) hz0 hz1).mono fun e W' ⟨he, bel⟩ => ?_
  subst he
  exact ⟨_, rfl, _, _, _, [], _, [], hW', trodAll_mk1 (shut_bool Tryd.underlying4 _), (trodAll_cons_mk (shut_string Tryd.underlying9 w0) (trodAll_cons_mk (shut_string Tryd.underlying9 w1) trodAll_mk0)), rfl, bel.frame _, fun h => by cases h⟩

theorem laid_met (os : Os) : laidMet Tryd.prog Rows.lexJoinedRow.laid ((laidWorld os).forCall (fun _ _ => 0) ⟨#[], #[.string ByteArray.empty, .string ByteArray.empty], []⟩).memory :=
  laidMet_of_run' 8 (by kernel_rfl) (by kernel_rfl)

theorem reads (os : Os) {H : Type} (enc : TypeId × Value → H) : ∃ places, DataW.whole enc Tryd.prog ((laidWorld os).forCall (fun _ _ => 0) ⟨#[], #[.string ByteArray.empty, .string ByteArray.empty], []⟩).memory Tryd.f8.params.toList Rows.lexJoinedSpec.vars false (#[.string ByteArray.empty, .string ByteArray.empty] : Array Value).toList 8 = some ([.lit (.string []), .lit (.string [])], [], places) :=
  ⟨[], by kernel_rfl⟩

set_option maxRecDepth 100000 in
theorem lifted (os : Os) (started : os.Started) (H : Type) (enc : TypeId × Value → H) (F : Stop.Interp) :
    ReturnsInHanded {} Tryd.checked os 8 .any ((OpenSpec.ofChange Rows.lexJoinedSpec).preRow enc Tryd.prog Tryd.f8 Rows.lexJoinedRow.domain false Rows.lexJoinedRow.laid) (((OpenSpec.ofChange Rows.lexJoinedSpec).at F).post enc Tryd.prog Tryd.f8 false true false false) := by
  obtain ⟨places, hx⟩ := reads os enc
  refine returnsInHanded_of_row (C := Tryd.checked) (s := OpenSpec.ofChange Rows.lexJoinedSpec) own started (by kernel_rfl) Tryd.func8
    (witness_row_at (enc := enc) (C := Tryd.checked) false (laidWorld os) #[.string ByteArray.empty, .string ByteArray.empty] rfl (by kernel_rfl) (by kernel_rfl) (by kernel_rfl)
      (OpenSpec.preRow_of_cond 8 hx (by kernel_rfl) (fun k hk => by cases hk) (by kernel_rfl) (laid_met os))) ?_
  intro W base args ds gs before hval hW _ _ _ hL hsh _
  exact contract H enc W base args ds gs before hval hW hL hsh

theorem said : Rows.LexJoinedSaid :=
  OpenClaim.holds_of_cond 8 Tryd.f8 rfl rfl rfl rfl rfl rfl rfl ⟨rfl, rfl, rfl, rfl, rfl⟩ rfl rfl rfl rfl rfl (by kernel_rfl) Tryd.func8 (by kernel_rfl)
    (of_decide_eq_true (by kernel_rfl)) (by unfold Func.isWrapper; first | (rw [if_pos (by decide +kernel)]; kernel_rfl) | (rw [if_neg (by decide +kernel)]; exact ⟨rfl, rfl⟩))
    (fun os started H enc _ F => by rw [OpenClaim.pre_eq_preRow]; exact lifted os started H enc F)

/-- No parameter wants a stand-in; the program's own looks are off: what the card asks. -/
theorem plain (f : FuncId) (fn : Func) (hf : Tryd.pinned.checked.prog.funcNamed "glossary/glossarylaw05.LexJoined" = some f) (hfn : Tryd.pinned.checked.prog.funcs[f]? = some fn) :
    false = Tryd.pinned.checked.prog.looks [] ∧ ∀ (j : Nat) t, fn.params[j]? = some t → Tryd.pinned.checked.prog.wantsStandIn t = false := by
  obtain rfl : f = 8 := Option.some.inj ((show Tryd.prog.funcNamed "glossary/glossarylaw05.LexJoined" = some 8 by kernel_rfl).symm.trans hf) |>.symm
  obtain rfl : fn = Tryd.f8 := (Option.some.inj (Tryd.func8.symm.trans hfn)).symm
  refine ⟨by kernel_rfl, fun j t ht => ?_⟩
  rw [Tryd.params8] at ht
  have hm := Array.mem_of_getElem? ht
  simp only [List.mem_toArray, List.mem_cons, List.not_mem_nil, or_false] at hm
  rcases hm with rfl | rfl
  · exact (show Tryd.prog.wantsStandIn 9 = false by kernel_rfl)
  · exact (show Tryd.prog.wantsStandIn 9 = false by kernel_rfl)

end Go.Proofs.YtjkcmcefmciinaaDoor.lexJoined
namespace Go.Proofs.YtjkcmcefmciinaaDoor
theorem lexJoined_holds : Rows.LexJoinedCardSaid :=
  Claim7.holds_tied_plain_at .later [] _ _ _ _ lexJoined.said (fun _ h => by cases h) (by kernel_rfl) (fun _ h => by cases h) lexJoined_row_tie rfl ⟨rfl, rfl⟩ (by kernel_rfl) rfl lexJoined.plain (by kernel_rfl)
#print axioms lexJoined_holds
end Go.Proofs.YtjkcmcefmciinaaDoor
