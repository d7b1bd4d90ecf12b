/- Put together by a program out of these texts of mine: VEn2, VSe, VPk. -/
import Derived.Test.YtafmoceinamcdaaGreatBunS6

namespace Go.Proofs.YtafmoceinamcdaaGreat
open Go.RowKit
set_option linter.unusedVariables false
set_option linter.unusedSimpArgs false

theorem en_next {H : ByteArray} {h hk h' : Sy} {sc : List Int} {ms m1 : List Md} {k n1 : Nat} {s0 : ByteArray} (hI : insl H h (enumL sc ms k) = .ok hk) (ex : strAt ms (k * 4) = s0 ∧ lsN ms (k * 4 + 1) = n1 ∧ lsM ms (k * 4 + 1) = m1) (hF : hk (jn sc s0) = none)
    (hv : insl H (syPut hk (jn sc s0) (3, H)) (valL sc 4 4 m1 n1) = .ok h') : insl H h (enumL sc ms (k + 1)) = .ok h' := by
  rw [enumL_succ, insl_append, hI, ex.1, ex.2.1, ex.2.2]
  show insl H hk _ = _
  rw [insl_one H hk _ 3 _ hF]
  exact hv

theorem en_err1 {H : ByteArray} {h hk : Sy} {sc : List Int} {ms : List Md} {k n : Nat} {s0 : ByteArray} (hkn : k < n) (hI : insl H h (enumL sc ms k) = .ok hk) (ex : strAt ms (k * 4) = s0) (hF : hk (jn sc s0) ≠ none) : insl H h (enumL sc ms n) = .error (jn sc s0) := by
  obtain ⟨r, hr⟩ := enumL_split sc ms hkn
  rw [hr, enumL_succ, insl_append, insl_append, hI, ex]
  show (match insl H hk ((jn sc s0, 3) :: _) with | .ok h' => insl H h' r | .error F => .error F) = _
  rw [insl_dup H hk _ 3 _ hF]

theorem en_err2 {H : ByteArray} {h hk hj : Sy} {sc : List Int} {ms m1 : List Md} {k n n1 j : Nat} {s0 s1 : ByteArray} (hkn : k < n) (hjn : j < n1) (hI : insl H h (enumL sc ms k) = .ok hk) (ex : strAt ms (k * 4) = s0 ∧ lsN ms (k * 4 + 1) = n1 ∧ lsM ms (k * 4 + 1) = m1) (hF : hk (jn sc s0) = none)
    (hv : insl H (syPut hk (jn sc s0) (3, H)) (valL sc 4 4 m1 j) = .ok hj) (e1 : strAt m1 (j * 4) = s1) (hF1 : hj (jn sc s1) ≠ none) : insl H h (enumL sc ms n) = .error (jn sc s1) := by
  obtain ⟨r, hr⟩ := enumL_split sc ms hkn
  obtain ⟨r2, hr2⟩ := valL_split sc 4 4 m1 hjn
  rw [hr, enumL_succ, insl_append, insl_append, hI, ex.1, ex.2.1, ex.2.2]
  show (match insl H hk ((jn sc s0, 3) :: _) with | .ok h' => insl H h' r | .error F => .error F) = _
  rw [insl_one H hk _ 3 _ hF, hr2, valL_succ, insl_append, insl_append, hv, e1]
  show (match (match insl H hj [(jn sc s1, 4)] with | .ok h' => insl H h' r2 | .error F => .error F) with | .ok h' => insl H h' r | .error F => .error F) = _
  rw [insl_dup H hj _ 4 _ hF1]

theorem va_next {H : ByteArray} {h hj : Sy} {sc : List Int} {m1 : List Md} {j : Nat} {s1 : ByteArray} (hv : insl H h (valL sc 4 4 m1 j) = .ok hj) (e1 : strAt m1 (j * 4) = s1) (hF1 : hj (jn sc s1) = none) : insl H h (valL sc 4 4 m1 (j + 1)) = .ok (syPut hj (jn sc s1) (4, H)) := by
  rw [valL_succ, insl_append, hv, e1]
  show insl H hj [(jn sc s1, 4)] = _
  rw [insl_one H hj _ 4 _ hF1]
  rfl

theorem pend_err {R : Option Addr → Prop} {W W' : World} {bp bs be : Nat} {vf v : Value} {r : Except ByteArray Sy} {F : ByteArray} (hg : W.grownBy W' (some bs)) (hr : r = .error F) : Pend R W bp bs be vf r v (.panicked [twi F]) W' := by
  subst hr
  exact ⟨hg, rfl⟩

theorem pend_ok {R : Option Addr → Prop} {W W' : World} {bp bs be : Nat} {vf v : Value} {r : Except ByteArray Sy} {h' : Sy} (hg : W.grownBy W' (some bs)) (hr : r = .ok h') (hp : Px R W' bp bs be vf h') : Pend R W bp bs be vf r v (.returned v) W' := by
  subst hr
  exact ⟨hg, rfl, hp⟩

set_option maxRecDepth 100000 in
set_option maxHeartbeats 8000000 in
theorem qenums (H : ByteArray) (sc : List Int) (hsb : Hid (byts sc)) (hsl : Hid (sc.length ≤ 400000000)) (a : Option Addr) (n c : Nat) (ms : List Md) (lo : Nat) (A : TypeId → Prop) (W : World) (hE : Hid (Own Tryz.prog W lo A 35 (.ls a n c ms))) (hN : Hid (Nm (.ls a n c ms))) {R : Option Addr → Prop} {bp bs be : Nat} {vf : Value} {h : Sy} (hP : Hid (Px R W bp bs be vf h)) :
    Calls Tryz.prog 148 #[.agg #[.pointer (some ⟨bp, 0, none⟩), .string H], .string (strOfNums sc), .slice a n c] W fun e W' => Pend R W bp bs be vf (insl H h (enumL sc ms n)) (.tuple #[]) e W' := by
  obtain ⟨W1, hW1⟩ : ∃ W1, W.alloc (.cells #[.pointer (some ⟨bp, 0, none⟩), .string H] 204) = W1 := ⟨_, rfl⟩
  have hb1 : Below W.heap.size W W1 := by rw [← hW1]; exact (Below.refl _ _).alloc (Nat.le_refl _) _
  have ob1 : Ob W1 W.heap.size #[.pointer (some ⟨bp, 0, none⟩), .string H] 204 := by rw [← hW1]; exact Ob.new _ _ _
  have HW1 : Hid _ := hW1
  have OB1 : Hid _ := ob1
  have HB1 : Hid _ := hb1
  have P1 : Hid (Px R W1 bp bs be vf h) := hP.out.below hb1 (Nat.le_refl _)
  have E1 : Hid (Own Tryz.prog W1 lo A 35 (.ls a n c ms)) := hE.out.under hb1
  have HMP : Hid _ := P1.out.map
  have hbsne : Hid (W.heap.size ≠ bs) := by
    obtain ⟨_, _, hq, _⟩ := hP.out
    have := hq.sym.lt
    exact fun e => by omega
  have hn63 : (n : Int) ≤ 9223372036854775807 := (hE.out.at Tryz.underlying35 (by rw [flds_enu]; decide)).1
  clear hW1 hb1 ob1 hP hE
  generalize hS : strOfNums sc = S
  have HS : Hid _ := hS
  clear hS
  go_enter Tryz.func148, Tryz.ntmps148
  go_upto_region 1 with fail
  rw [HW1.out]
  go_wp2
  go_loopw [12] (fun i wr => ∃ (k : Nat) (hk : Sy), k ≤ n ∧ i = .int .i64 (k : Int) ∧ Hid (insl H h (enumL sc ms k) = .ok hk) ∧ Hid (Px R wr bp bs be vf hk) ∧ Hid (W1.grownBy wr (some bs))) (fun i _ => n - (intOf i).toNat)
  case atStart => exact ⟨0, h, Nat.zero_le _, rfl, rfl, P1.out, grown_ofV (Below.refl _ _)⟩
  case round =>
    obtain ⟨k, hk, hkn, rfl, HI, HP, HG⟩ := hrel
    have hwz := HG.out.size
    have obr : Ob wr W.heap.size #[.pointer (some ⟨bp, 0, none⟩), .string H] 204 := OB1.out.grown HG.out (fun e => hbsne.out (Option.some.inj e))
    by_cases hlk : k < n
    · obtain ⟨g, s0, a1, n1, c1, m1, a2, n2, c2, a3, n3, c3, rfl, hlt, d0, d1, d2, d3, z0, ov, nv, ex1, ex2, ex3⟩ := own_enum (E1.out.mapped HG.out HMP.out) hN.out k hlk
      obtain ⟨w2, hw2⟩ : ∃ w2, wr.alloc (.cells #[.string s0, .slice a1 n1 c1, .slice a2 n2 c2, .slice a3 n3 c3] 43) = w2 := ⟨_, rfl⟩
      have hb2 : Below wr.heap.size wr w2 := by rw [← hw2]; exact (Below.refl _ _).alloc (Nat.le_refl _) _
      have ob2' : Ob w2 wr.heap.size #[.string s0, .slice a1 n1 c1, .slice a2 n2 c2, .slice a3 n3 c3] 43 := by rw [← hw2]; exact Ob.new _ _ _
      have obh := obr.below hb2 obr.lt
      have P2 : Hid (Px R w2 bp bs be vf hk) := HP.out.below hb2 (Nat.le_refl _)
      have f0 := fun x : Ext w2 => x.cell (p := ⟨W.heap.size, 0, none⟩) obh.lt (obh.cell 0 rfl)
      have f1 := fun x : Ext w2 => x.cell (p := ⟨W.heap.size, 1, none⟩) obh.lt (obh.cell 1 rfl)
      have g0 := fun x : Ext w2 => x.cell (p := ⟨wr.heap.size, 0, none⟩) ob2'.lt (ob2'.cell 0 rfl)
      have HW2 : Hid _ := hw2
      have HB2 : Hid _ := hb2
      have OBE : Hid _ := ob2'
      have OBH : Hid _ := obh
      have OV : Hid _ := ov
      have NV : Hid _ := nv
      have EX : Hid (strAt ms (k * 4) = s0 ∧ lsN ms (k * 4 + 1) = n1 ∧ lsM ms (k * 4 + 1) = m1) := ⟨ex1, ex2, ex3⟩
      have Z0 : Hid _ := z0
      clear hw2 hb2 ob2' obh ov nv ex1 ex2 ex3 z0 obr
      go_upto_region 4 with fail
      rw [HW2.out]
      clear HW2 d0 d1 d2 d3
      refine wp_region_then w2 8 1 rfl (Below.refl _ _) (by kernel_rfl) (by kernel_rfl) (by kernel_rfl) (by kernel_rfl) ?_
      simp only [List.take]
      repeat (go_big_quiet_step (fail))
      refine wpQuiet_nil ?_
      rintro w3 ⟨⟨_, hb3⟩, rfl⟩
      have HB3 : Hid _ := hb3
      have Q3 : Hid _ := qput H sc s0 hsb hsl.out (by have := Z0.out; omega) 3 none (some ⟨g, k * 4, none⟩) none w3 (show Hid _ from P2.out.below hb3 (Nat.le_refl _))
      rw [HS.out] at Q3
      clear hb3 f0 f1 g0
      refine wpAny_force (i := 8) (by kernel_rfl) rfl ?_
      intro Q' hQ' hPn
      have HQ : Hid _ := hQ'
      have HN : Hid _ := hPn
      clear hQ' hPn
      go_wp2_with fail
      refine Calls.mono Q3.out ?_
      rintro e w4 ⟨hg4, ⟨hn4, rfl, hp4⟩ | ⟨hn4, rfl⟩⟩
      · have HP4 : Hid (Px R w4 bp bs be vf (syPut hk (jn sc s0) (3, H))) := hp4
        have HG4 : Hid (W1.grownBy w4 (some bs)) := grown_transV (grown_transV HG.out (grown_transV (grown_ofV HB2.out) (grown_ofV HB3.out))) hg4
        have HGE : Hid (wr.grownBy w4 (some bs)) := grown_transV (grown_transV (grown_ofV HB2.out) (grown_ofV HB3.out)) hg4
        have obh4 : Ob w4 W.heap.size #[.pointer (some ⟨bp, 0, none⟩), .string H] 204 := (OBH.out.below HB3.out OBH.out.lt).grown hg4 (fun e => hbsne.out (Option.some.inj e))
        have hne2 : wr.heap.size ≠ bs := by
          obtain ⟨_, _, hq, _⟩ := HP.out
          have := hq.sym.lt
          omega
        have obe4 : Ob w4 wr.heap.size #[.string s0, .slice a1 n1 c1, .slice a2 n2 c2, .slice a3 n3 c3] 43 := (OBE.out.below HB3.out OBE.out.lt).grown hg4 (fun e => hne2 (Option.some.inj e))
        have OV4 : Hid (Own Tryz.prog w4 lo A 41 (.ls a1 n1 c1 m1)) := Own.mapped HGE.out HP.out.map OV.out
        have HN4 : Hid (hk (jn sc s0) = none) := hn4
        have OH4 : Hid _ := obh4
        have OE4 : Hid _ := obe4
        have hl1 := obe4.lt
        have hn163 : (n1 : Int) ≤ 9223372036854775807 := (OV4.out.at Tryz.underlying41 (by rw [flds_val]; decide)).1
        have y1 : w4.cell? ⟨wr.heap.size, 1, none⟩ = some (.slice a1 n1 c1) := obe4.cell 1 rfl
        clear hg4 hn4 hp4 obh4 obe4 Q3 HB2 HB3 OBE OBH OV P2
        go_wp2
        refine HQ.out _ _ ?_
        clear HQ HN
        refine wpAny_end (by kernel_rfl) ?_
        go_wp2
        obtain ⟨we, hwe⟩ : ∃ we, we = wr := ⟨_, rfl⟩
        subst hwe
        clear y1
        have HMV : Hid _ := HP4.out.map
        go_loopw [29] (fun i wr => ∃ (j : Nat) (hj : Sy), j ≤ n1 ∧ i = .int .i64 (j : Int) ∧ Hid (insl H (syPut hk (jn sc s0) (3, H)) (valL sc 4 4 m1 j) = .ok hj) ∧ Hid (Px R wr bp bs be vf hj) ∧ Hid (w4.grownBy wr (some bs))) (fun i _ => n1 - (intOf i).toNat)
        case atStart => exact ⟨0, _, Nat.zero_le _, rfl, rfl, HP4.out, grown_ofV (Below.refl _ _)⟩
        case round =>
          obtain ⟨j, hj, hjn, rfl, HJ, HPj, HGj⟩ := hrel
          have hwzj := HGj.out.size
          have obj : Ob wr W.heap.size #[.pointer (some ⟨bp, 0, none⟩), .string H] 204 := OH4.out.grown HGj.out (fun e => hbsne.out (Option.some.inj e))
          obtain ⟨⟨hx0, hx1⟩, _, hxl⟩ := ob2 obj
          by_cases hlj : j < n1
          · obtain ⟨gv, s1, x1, b2, e2, k2, b3, e3, k3, rfl, hltv, v0, v1, v2, v3, zv, exv⟩ := own_value (OV4.out.mapped HGj.out HMV.out) NV.out j hlj
            have ZV : Hid _ := zv
            have EXV : Hid _ := exv
            obtain ⟨w5, hw5⟩ : ∃ w5, wr.alloc (.cells #[.string s1, .int .i64 x1, .slice b2 e2 k2, .slice b3 e3 k3] 146) = w5 := ⟨_, rfl⟩
            have hb5 : Below wr.heap.size wr w5 := by rw [← hw5]; exact (Below.refl _ _).alloc (Nat.le_refl _) _
            have HW5 : Hid _ := hw5
            have HB5 : Hid _ := hb5
            have Q5 : Hid _ := qput H sc s1 hsb hsl.out (by omega) 4 none none none w5 (show Hid _ from HPj.out.below hb5 (Nat.le_refl _))
            rw [HS.out] at Q5
            clear zv exv hw5 hb5
            go_wp2_with fail
            rw [HW5.out]
            refine Calls.mono Q5.out ?_
            rintro e w6 ⟨hg6, ⟨hn6, rfl, hp6⟩ | ⟨hn6, rfl⟩⟩
            · have HJ6 : Hid _ := va_next HJ.out EXV.out hn6
              have HP6 : Hid _ := hp6
              have HG6 : Hid (w4.grownBy w6 (some bs)) := grown_transV HGj.out (grown_transV (grown_ofV HB5.out) hg6)
              clear hn6 hp6 hg6 Q5 HW5 HB5
              go_wp2
              go_roundw
              case rel => exact ⟨j + 1, _, by omega, by go_num, HJ6.out, HP6.out, HG6.out⟩
              case measure => simp [intOf]; omega
            · have HE6 : Hid (insl H h (enumL sc ms n) = .error (jn sc s1)) := en_err2 hlk hlj HI.out EX.out HN4.out HJ.out EXV.out hn6
              have HG6 : Hid (W.grownBy w6 (some bs)) := grown_transV (grown_ofV HB1.out) (grown_transV HG4.out (grown_transV HGj.out (grown_transV (grown_ofV HB5.out) hg6)))
              exact ⟨rfl, pend_err HG6.out HE6.out⟩
          · have hjj : j = n1 := by omega
            subst hjj
            have HI2 : Hid (insl H h (enumL sc ms (k + 1)) = .ok hj) := en_next HI.out EX.out HN4.out HJ.out
            have HG7 : Hid (W1.grownBy wr (some bs)) := grown_transV HG4.out HGj.out
            go_wp2
            go_roundw
            case rel => exact ⟨k + 1, _, by omega, by go_num, HI2.out, HPj.out, HG7.out⟩
            case measure => simp [intOf]; omega
      · have HE4 : Hid (insl H h (enumL sc ms n) = .error (jn sc s0)) := en_err1 hlk HI.out EX.out.1 hn4
        have HG4 : Hid (W.grownBy w4 (some bs)) := grown_transV (grown_ofV HB1.out) (grown_transV (grown_transV HG.out (grown_transV (grown_ofV HB2.out) (grown_ofV HB3.out))) hg4)
        refine HN.out _ _ _ ?_
        exact ⟨rfl, pend_err HG4.out HE4.out⟩
    · have hkk : k = n := by omega
      subst hkk
      go_wp2
      go_end0
      exact pend_ok (grown_transV (grown_ofV HB1.out) HG.out) HI.out HP.out

noncomputable def servL (sc : List Int) (ms : List Md) (n : Nat) : List (ByteArray × Int) := (List.range n).flatMap fun i => (jn sc (strAt ms (i * 4)), 8) :: valL (njoin sc (numsOf (strAt ms (i * 4)))) 9 7 (lsM ms (i * 4 + 1)) (lsN ms (i * 4 + 1))

theorem servL_succ (sc : List Int) (ms : List Md) (n : Nat) : servL sc ms (n + 1) = servL sc ms n ++ ((jn sc (strAt ms (n * 4)), 8) :: valL (njoin sc (numsOf (strAt ms (n * 4)))) 9 7 (lsM ms (n * 4 + 1)) (lsN ms (n * 4 + 1))) := by
  unfold servL
  rw [List.range_succ, List.flatMap_append]
  simp

theorem servL_split (sc : List Int) (ms : List Md) {n k : Nat} (h : k < n) : ∃ r, servL sc ms n = servL sc ms (k + 1) ++ r := by
  unfold servL
  rw [range_split (show k + 1 ≤ n by omega), List.flatMap_append]
  exact ⟨_, rfl⟩

theorem flds_ser : flds Tryz.prog 159 = [9, 157, 38, 38] := by kernel_rfl

theorem flds_met : flds Tryz.prog 161 = [9, 9, 9, 4, 4, 38, 38] := by kernel_rfl

theorem njoin_bytsP {a b : List Int} (ha : byts a) (hb : byts b) : byts (njoin a b) := by
  unfold njoin
  split
  · exact hb
  · intro x hx
    simp only [List.mem_append, List.mem_singleton] at hx
    rcases hx with (hx | hx) | hx
    · exact ha x hx
    · subst hx; omega
    · exact hb x hx

theorem njoin_lenP (a b : List Int) : (njoin a b).length ≤ a.length + 1 + b.length := by
  unfold njoin
  split <;> simp <;> omega

theorem obs4 {w : World} {b : Nat} {T : TypeId} {x0 x1 x2 x3 : Value} (h : Ob w b #[x0, x1, x2, x3] T) :
    (w.cell? ⟨b, 0, none⟩ = some x0 ∧ w.cell? ⟨b, 1, none⟩ = some x1 ∧ w.cell? ⟨b, 2, none⟩ = some x2 ∧ w.cell? ⟨b, 3, none⟩ = some x3) ∧ (w.frozen? ⟨b, 0, none⟩ = false ∧ w.frozen? ⟨b, 1, none⟩ = false ∧ w.frozen? ⟨b, 2, none⟩ = false ∧ w.frozen? ⟨b, 3, none⟩ = false) ∧ b < w.heap.size :=
  ⟨⟨h.cell 0 rfl, h.cell 1 rfl, h.cell 2 rfl, h.cell 3 rfl⟩, ⟨h.frozen 0, h.frozen 1, h.frozen 2, h.frozen 3⟩, h.lt⟩

theorem own_service {w : World} {lo : Nat} {A : TypeId → Prop} {a : Option Addr} {n c : Nat} {ms : List Md} (h : Own Tryz.prog w lo A 60 (.ls a n c ms)) (hn : Nm (.ls a n c ms)) (i : Nat) (hi : i < n) :
    ∃ g s0 a1 n1 c1 m1 a2 n2 c2 a3 n3 c3, a = some ⟨g, 0, none⟩ ∧ g < w.heap.size ∧ w.cell? ⟨g, i * 4, none⟩ = some (.string s0) ∧ w.cell? ⟨g, i * 4 + 1, none⟩ = some (.slice a1 n1 c1) ∧ w.cell? ⟨g, i * 4 + 2, none⟩ = some (.slice a2 n2 c2) ∧ w.cell? ⟨g, i * 4 + 3, none⟩ = some (.slice a3 n3 c3) ∧
      s0.size ≤ 2000000 ∧ Own Tryz.prog w lo A 157 (.ls a1 n1 c1 m1) ∧ Nm (.ls a1 n1 c1 m1) ∧ strAt ms (i * 4) = s0 ∧ lsN ms (i * 4 + 1) = n1 ∧ lsM ms (i * 4 + 1) = m1 := by
  obtain ⟨_, hl, hm, hk⟩ := h.at Tryz.underlying60 (by rw [flds_ser]; decide)
  rw [flds_ser] at hl hk
  obtain ⟨g, rfl, hg, _, hc⟩ := hm (by omega)
  have hq : ∀ j, j < 4 → ∃ m, ms[i * 4 + j]? = some m := fun j hj => ⟨_, List.getElem?_eq_getElem (by simp at hl; omega)⟩
  have hmod : ∀ j, j < 4 → (i * 4 + j) % 4 = j := fun j hj => by omega
  obtain ⟨q0, h0⟩ := hq 0 (by omega)
  obtain ⟨q1, h1⟩ := hq 1 (by omega)
  obtain ⟨q2, h2⟩ := hq 2 (by omega)
  obtain ⟨q3, h3⟩ := hq 3 (by omega)
  have o0 := hk _ _ 9 h0 (by rw [show ([9, 157, 38, 38] : List TypeId).length = 4 from rfl, hmod 0 (by omega)]; rfl)
  have o1 := hk _ _ 157 h1 (by rw [show ([9, 157, 38, 38] : List TypeId).length = 4 from rfl, hmod 1 (by omega)]; rfl)
  have o2 := hk _ _ 38 h2 (by rw [show ([9, 157, 38, 38] : List TypeId).length = 4 from rfl, hmod 2 (by omega)]; rfl)
  have o3 := hk _ _ 38 h3 (by rw [show ([9, 157, 38, 38] : List TypeId).length = 4 from rfl, hmod 3 (by omega)]; rfl)
  obtain ⟨s0, rfl⟩ := own_str Tryz.underlying9 o0
  obtain ⟨a1, n1, c1, m1, rfl⟩ := own_ls Tryz.underlying157 o1
  obtain ⟨a2, n2, c2, m2, rfl⟩ := own_ls Tryz.underlying38 o2
  obtain ⟨a3, n3, c3, m3, rfl⟩ := own_ls Tryz.underlying38 o3
  refine ⟨g, s0, a1, n1, c1, m1, a2, n2, c2, a3, n3, c3, rfl, hg, by simpa [Md.val] using hc _ _ h0, by simpa [Md.val] using hc _ _ h1, by simpa [Md.val] using hc _ _ h2, by simpa [Md.val] using hc _ _ h3, nm_str (nm_at hn h0), o1, nm_at hn h1, ?_, ?_, ?_⟩
  · have : ms[i * 4]? = some (.str s0) := h0
    simp [strAt, this]
  · simp [lsN, h1]
  · simp [lsM, h1]

theorem own_method {w : World} {lo : Nat} {A : TypeId → Prop} {a : Option Addr} {n c : Nat} {ms : List Md} (h : Own Tryz.prog w lo A 157 (.ls a n c ms)) (hn : Nm (.ls a n c ms)) (i : Nat) (hi : i < n) :
    ∃ g s0 s1 s2 y3 y4 a5 n5 c5 a6 n6 c6, a = some ⟨g, 0, none⟩ ∧ g < w.heap.size ∧ w.cell? ⟨g, i * 7, none⟩ = some (.string s0) ∧ w.cell? ⟨g, i * 7 + 1, none⟩ = some (.string s1) ∧ w.cell? ⟨g, i * 7 + 2, none⟩ = some (.string s2) ∧ w.cell? ⟨g, i * 7 + 3, none⟩ = some (.bool y3) ∧ w.cell? ⟨g, i * 7 + 4, none⟩ = some (.bool y4) ∧ w.cell? ⟨g, i * 7 + 5, none⟩ = some (.slice a5 n5 c5) ∧ w.cell? ⟨g, i * 7 + 6, none⟩ = some (.slice a6 n6 c6) ∧ s0.size ≤ 2000000 ∧ strAt ms (i * 7) = s0 := by
  obtain ⟨_, hl, hm, hk⟩ := h.at Tryz.underlying157 (by rw [flds_met]; decide)
  rw [flds_met] at hl hk
  obtain ⟨g, rfl, hg, _, hc⟩ := hm (by omega)
  have hq : ∀ j, j < 7 → ∃ m, ms[i * 7 + j]? = some m := fun j hj => ⟨_, List.getElem?_eq_getElem (by simp at hl; omega)⟩
  have hmod : ∀ j, j < 7 → (i * 7 + j) % 7 = j := fun j hj => by omega
  obtain ⟨q0, h0⟩ := hq 0 (by omega)
  have o0 := hk _ _ 9 h0 (by rw [show ([9, 9, 9, 4, 4, 38, 38] : List TypeId).length = 7 from rfl, hmod 0 (by omega)]; rfl)
  obtain ⟨q1, h1⟩ := hq 1 (by omega)
  have o1 := hk _ _ 9 h1 (by rw [show ([9, 9, 9, 4, 4, 38, 38] : List TypeId).length = 7 from rfl, hmod 1 (by omega)]; rfl)
  obtain ⟨q2, h2⟩ := hq 2 (by omega)
  have o2 := hk _ _ 9 h2 (by rw [show ([9, 9, 9, 4, 4, 38, 38] : List TypeId).length = 7 from rfl, hmod 2 (by omega)]; rfl)
  obtain ⟨q3, h3⟩ := hq 3 (by omega)
  have o3 := hk _ _ 4 h3 (by rw [show ([9, 9, 9, 4, 4, 38, 38] : List TypeId).length = 7 from rfl, hmod 3 (by omega)]; rfl)
  obtain ⟨q4, h4⟩ := hq 4 (by omega)
  have o4 := hk _ _ 4 h4 (by rw [show ([9, 9, 9, 4, 4, 38, 38] : List TypeId).length = 7 from rfl, hmod 4 (by omega)]; rfl)
  obtain ⟨q5, h5⟩ := hq 5 (by omega)
  have o5 := hk _ _ 38 h5 (by rw [show ([9, 9, 9, 4, 4, 38, 38] : List TypeId).length = 7 from rfl, hmod 5 (by omega)]; rfl)
  obtain ⟨q6, h6⟩ := hq 6 (by omega)
  have o6 := hk _ _ 38 h6 (by rw [show ([9, 9, 9, 4, 4, 38, 38] : List TypeId).length = 7 from rfl, hmod 6 (by omega)]; rfl)
  obtain ⟨s0, rfl⟩ := own_str Tryz.underlying9 o0
  obtain ⟨s1, rfl⟩ := own_str Tryz.underlying9 o1
  obtain ⟨s2, rfl⟩ := own_str Tryz.underlying9 o2
  obtain ⟨y3, rfl⟩ := own_tru Tryz.underlying4 o3
  obtain ⟨y4, rfl⟩ := own_tru Tryz.underlying4 o4
  obtain ⟨a5, n5, c5, m5, rfl⟩ := own_ls Tryz.underlying38 o5
  obtain ⟨a6, n6, c6, m6, rfl⟩ := own_ls Tryz.underlying38 o6
  refine ⟨g, s0, s1, s2, y3, y4, a5, n5, c5, a6, n6, c6, rfl, hg, by simpa [Md.val] using hc _ _ h0, by simpa [Md.val] using hc _ _ h1, by simpa [Md.val] using hc _ _ h2, by simpa [Md.val] using hc _ _ h3, by simpa [Md.val] using hc _ _ h4, by simpa [Md.val] using hc _ _ h5, by simpa [Md.val] using hc _ _ h6, nm_str (nm_at hn h0), ?_⟩
  have : ms[i * 7]? = some (.str s0) := h0
  simp [strAt, this]

theorem se_next {H : ByteArray} {h hk h' : Sy} {sc : List Int} {ms m1 : List Md} {k n1 : Nat} {s0 : ByteArray} (hI : insl H h (servL sc ms k) = .ok hk) (ex : strAt ms (k * 4) = s0 ∧ lsN ms (k * 4 + 1) = n1 ∧ lsM ms (k * 4 + 1) = m1) (hF : hk (jn sc s0) = none)
    (hv : insl H (syPut hk (jn sc s0) (8, H)) (valL (njoin sc (numsOf s0)) 9 7 m1 n1) = .ok h') : insl H h (servL sc ms (k + 1)) = .ok h' := by
  rw [servL_succ, insl_append, hI, ex.1, ex.2.1, ex.2.2]
  show insl H hk _ = _
  rw [insl_one H hk _ 8 _ hF]
  exact hv

theorem se_err1 {H : ByteArray} {h hk : Sy} {sc : List Int} {ms : List Md} {k n : Nat} {s0 : ByteArray} (hkn : k < n) (hI : insl H h (servL sc ms k) = .ok hk) (ex : strAt ms (k * 4) = s0) (hF : hk (jn sc s0) ≠ none) : insl H h (servL sc ms n) = .error (jn sc s0) := by
  obtain ⟨r, hr⟩ := servL_split sc ms hkn
  rw [hr, servL_succ, insl_append, insl_append, hI, ex]
  show (match insl H hk ((jn sc s0, 8) :: _) with | .ok h' => insl H h' r | .error F => .error F) = _
  rw [insl_dup H hk _ 8 _ hF]

theorem se_err2 {H : ByteArray} {h hk hj : Sy} {sc : List Int} {ms m1 : List Md} {k n n1 j : Nat} {s0 s1 : ByteArray} (hkn : k < n) (hjn : j < n1) (hI : insl H h (servL sc ms k) = .ok hk) (ex : strAt ms (k * 4) = s0 ∧ lsN ms (k * 4 + 1) = n1 ∧ lsM ms (k * 4 + 1) = m1) (hF : hk (jn sc s0) = none)
    (hv : insl H (syPut hk (jn sc s0) (8, H)) (valL (njoin sc (numsOf s0)) 9 7 m1 j) = .ok hj) (e1 : strAt m1 (j * 7) = s1) (hF1 : hj (jn (njoin sc (numsOf s0)) s1) ≠ none) : insl H h (servL sc ms n) = .error (jn (njoin sc (numsOf s0)) s1) := by
  obtain ⟨r, hr⟩ := servL_split sc ms hkn
  obtain ⟨r2, hr2⟩ := valL_split (njoin sc (numsOf s0)) 9 7 m1 hjn
  rw [hr, servL_succ, insl_append, insl_append, hI, ex.1, ex.2.1, ex.2.2]
  show (match insl H hk ((jn sc s0, 8) :: _) with | .ok h' => insl H h' r | .error F => .error F) = _
  rw [insl_one H hk _ 8 _ hF, hr2, valL_succ, insl_append, insl_append, hv, e1]
  show (match (match insl H hj [(jn (njoin sc (numsOf s0)) s1, 9)] with | .ok h' => insl H h' r2 | .error F => .error F) with | .ok h' => insl H h' r | .error F => .error F) = _
  rw [insl_dup H hj _ 9 _ hF1]

theorem me_next {H : ByteArray} {h hj : Sy} {sc : List Int} {m1 : List Md} {j : Nat} {s1 : ByteArray} (hv : insl H h (valL sc 9 7 m1 j) = .ok hj) (e1 : strAt m1 (j * 7) = s1) (hF1 : hj (jn sc s1) = none) : insl H h (valL sc 9 7 m1 (j + 1)) = .ok (syPut hj (jn sc s1) (9, H)) := by
  rw [valL_succ, insl_append, hv, e1]
  show insl H hj [(jn sc s1, 9)] = _
  rw [insl_one H hj _ 9 _ hF1]
  rfl

set_option maxRecDepth 100000 in
set_option maxHeartbeats 8000000 in
theorem qservices (H : ByteArray) (sc : List Int) (hsb : Hid (byts sc)) (hsl : Hid (sc.length ≤ 200000000)) (a : Option Addr) (n c : Nat) (ms : List Md) (lo : Nat) (A : TypeId → Prop) (W : World) (hE : Hid (Own Tryz.prog W lo A 60 (.ls a n c ms))) (hN : Hid (Nm (.ls a n c ms))) {R : Option Addr → Prop} {bp bs be : Nat} {vf : Value} {h : Sy} (hP : Hid (Px R W bp bs be vf h)) :
    Calls Tryz.prog 150 #[.agg #[.pointer (some ⟨bp, 0, none⟩), .string H], .string (strOfNums sc), .slice a n c] W fun e W' => Pend R W bp bs be vf (insl H h (servL sc ms n)) (.tuple #[]) e W' := by
  obtain ⟨W1, hW1⟩ : ∃ W1, W.alloc (.cells #[.pointer (some ⟨bp, 0, none⟩), .string H] 204) = W1 := ⟨_, rfl⟩
  have hb1 : Below W.heap.size W W1 := by rw [← hW1]; exact (Below.refl _ _).alloc (Nat.le_refl _) _
  have ob1 : Ob W1 W.heap.size #[.pointer (some ⟨bp, 0, none⟩), .string H] 204 := by rw [← hW1]; exact Ob.new _ _ _
  have HW1 : Hid _ := hW1
  have OB1 : Hid _ := ob1
  have HB1 : Hid _ := hb1
  have P1 : Hid (Px R W1 bp bs be vf h) := hP.out.below hb1 (Nat.le_refl _)
  have E1 : Hid (Own Tryz.prog W1 lo A 60 (.ls a n c ms)) := hE.out.under hb1
  have HMP : Hid _ := P1.out.map
  have hbsne : Hid (W.heap.size ≠ bs) := by
    obtain ⟨_, _, hq, _⟩ := hP.out
    have := hq.sym.lt
    exact fun e => by omega
  have hn63 : (n : Int) ≤ 9223372036854775807 := (hE.out.at Tryz.underlying60 (by rw [flds_ser]; decide)).1
  clear hW1 hb1 ob1 hP hE
  generalize hS : strOfNums sc = S
  have HS : Hid _ := hS
  clear hS
  go_enter Tryz.func150, Tryz.ntmps150
  go_upto_region 1 with fail
  rw [HW1.out]
  go_wp2
  go_loopw [13] (fun i wr => ∃ (k : Nat) (hk : Sy), k ≤ n ∧ i = .int .i64 (k : Int) ∧ Hid (insl H h (servL sc ms k) = .ok hk) ∧ Hid (Px R wr bp bs be vf hk) ∧ Hid (W1.grownBy wr (some bs))) (fun i _ => n - (intOf i).toNat)
  case atStart => exact ⟨0, h, Nat.zero_le _, rfl, rfl, P1.out, grown_ofV (Below.refl _ _)⟩
  case round =>
    obtain ⟨k, hk, hkn, rfl, HI, HP, HG⟩ := hrel
    have hwz := HG.out.size
    have obr : Ob wr W.heap.size #[.pointer (some ⟨bp, 0, none⟩), .string H] 204 := OB1.out.grown HG.out (fun e => hbsne.out (Option.some.inj e))
    by_cases hlk : k < n
    · obtain ⟨g, s0, a1, n1, c1, m1, a2, n2, c2, a3, n3, c3, rfl, hlt, d0, d1, d2, d3, z0, ov, nv, ex1, ex2, ex3⟩ := own_service (E1.out.mapped HG.out HMP.out) hN.out k hlk
      obtain ⟨w2, hw2⟩ : ∃ w2, wr.alloc (.cells #[.string s0, .slice a1 n1 c1, .slice a2 n2 c2, .slice a3 n3 c3] 159) = w2 := ⟨_, rfl⟩
      have hb2 : Below wr.heap.size wr w2 := by rw [← hw2]; exact (Below.refl _ _).alloc (Nat.le_refl _) _
      have ob2' : Ob w2 wr.heap.size #[.string s0, .slice a1 n1 c1, .slice a2 n2 c2, .slice a3 n3 c3] 159 := by rw [← hw2]; exact Ob.new _ _ _
      have obh := obr.below hb2 obr.lt
      have P2 : Hid (Px R w2 bp bs be vf hk) := HP.out.below hb2 (Nat.le_refl _)
      obtain ⟨⟨f0, f1⟩, _, _⟩ := ob2 obh
      obtain ⟨⟨g0, g1, g2, g3⟩, _, _⟩ := obs4 ob2'
      have HW2 : Hid _ := hw2
      have HB2 : Hid _ := hb2
      have OBE : Hid _ := ob2'
      have OBH : Hid _ := obh
      have OV : Hid _ := ov
      have NV : Hid _ := nv
      have EX : Hid (strAt ms (k * 4) = s0 ∧ lsN ms (k * 4 + 1) = n1 ∧ lsM ms (k * 4 + 1) = m1) := ⟨ex1, ex2, ex3⟩
      have Z0 : Hid _ := z0
      clear hw2 hb2 ob2' obh ov nv ex1 ex2 ex3 z0 obr
      have HB3 : Hid (Below w2.heap.size w2 w2) := Below.refl _ _
      have Q3 : Hid _ := qput H sc s0 hsb (by have := hsl.out; omega) (by have := Z0.out; omega) 8 none none none w2 P2
      rw [HS.out] at Q3
      go_upto_region 4 with fail
      rw [HW2.out]
      clear HW2 d0 d1 d2 d3
      go_wp2_with fail
      refine Calls.mono Q3.out ?_
      rintro e w4 ⟨hg4, ⟨hn4, rfl, hp4⟩ | ⟨hn4, rfl⟩⟩
      · have HP4 : Hid (Px R w4 bp bs be vf (syPut hk (jn sc s0) (8, H))) := hp4
        have HG4 : Hid (W1.grownBy w4 (some bs)) := grown_transV (grown_transV HG.out (grown_transV (grown_ofV HB2.out) (grown_ofV HB3.out))) hg4
        have HGE : Hid (wr.grownBy w4 (some bs)) := grown_transV (grown_transV (grown_ofV HB2.out) (grown_ofV HB3.out)) hg4
        have obh4 : Ob w4 W.heap.size #[.pointer (some ⟨bp, 0, none⟩), .string H] 204 := (OBH.out.below HB3.out OBH.out.lt).grown hg4 (fun e => hbsne.out (Option.some.inj e))
        have hne2 : wr.heap.size ≠ bs := by
          obtain ⟨_, _, hq, _⟩ := HP.out
          have := hq.sym.lt
          omega
        have obe4 : Ob w4 wr.heap.size #[.string s0, .slice a1 n1 c1, .slice a2 n2 c2, .slice a3 n3 c3] 159 := (OBE.out.below HB3.out OBE.out.lt).grown hg4 (fun e => hne2 (Option.some.inj e))
        have OV4 : Hid (Own Tryz.prog w4 lo A 157 (.ls a1 n1 c1 m1)) := Own.mapped HGE.out HP.out.map OV.out
        have HN4 : Hid (hk (jn sc s0) = none) := hn4
        have HJB : Hid (byts (njoin sc (numsOf s0))) := njoin_bytsP hsb.out (numsOf_byts s0)
        have HJL : Hid ((njoin sc (numsOf s0)).length ≤ 400000000) := by
          have h1 := njoin_lenP sc (numsOf s0)
          have h2 := numsOf_len s0
          have h3 := hsl.out
          have h4 := Z0.out
          show _ ≤ _
          omega
        have OH4 : Hid _ := obh4
        have OE4 : Hid _ := obe4
        have hl1 := obe4.lt
        have hn163 : (n1 : Int) ≤ 9223372036854775807 := (OV4.out.at Tryz.underlying157 (by rw [flds_met]; decide)).1
        have y1 : w4.cell? ⟨wr.heap.size, 1, none⟩ = some (.slice a1 n1 c1) := obe4.cell 1 rfl
        clear hg4 hn4 hp4 obh4 obe4 Q3 HB2 HB3 OBE OBH OV P2
        go_wp2
        obtain ⟨we, hwe⟩ : ∃ we, we = wr := ⟨_, rfl⟩
        subst hwe
        clear y1
        have HMV : Hid _ := HP4.out.map
        go_loopw [26] (fun i wr => ∃ (j : Nat) (hj : Sy), j ≤ n1 ∧ i = .int .i64 (j : Int) ∧ Hid (insl H (syPut hk (jn sc s0) (8, H)) (valL (njoin sc (numsOf s0)) 9 7 m1 j) = .ok hj) ∧ Hid (Px R wr bp bs be vf hj) ∧ Hid (w4.grownBy wr (some bs))) (fun i _ => n1 - (intOf i).toNat)
        case atStart => exact ⟨0, _, Nat.zero_le _, rfl, rfl, HP4.out, grown_ofV (Below.refl _ _)⟩
        case round =>
          obtain ⟨j, hj, hjn, rfl, HJ, HPj, HGj⟩ := hrel
          have hwzj := HGj.out.size
          have obj : Ob wr W.heap.size #[.pointer (some ⟨bp, 0, none⟩), .string H] 204 := OH4.out.grown HGj.out (fun e => hbsne.out (Option.some.inj e))
          obtain ⟨⟨hx0, hx1⟩, _, hxl⟩ := ob2 obj
          by_cases hlj : j < n1
          · obtain ⟨gv, s1, t1, t2, y3, y4, b5, e5, k5, b6, e6, k6, rfl, hltv, v0, v1, v2, v3, v4, v5, v6, zv, exv⟩ := own_method (OV4.out.mapped HGj.out HMV.out) NV.out j hlj
            have ZV : Hid _ := zv
            have EXV : Hid _ := exv
            obtain ⟨w5, hw5⟩ : ∃ w5, wr.alloc (.cells #[.string s1, .string t1, .string t2, .bool y3, .bool y4, .slice b5 e5 k5, .slice b6 e6 k6] 161) = w5 := ⟨_, rfl⟩
            have hb5 : Below wr.heap.size wr w5 := by rw [← hw5]; exact (Below.refl _ _).alloc (Nat.le_refl _) _
            have HW5 : Hid _ := hw5
            have HB5 : Hid _ := hb5
            have Q5 : Hid _ := qput H (njoin sc (numsOf s0)) s1 HJB (by have := HJL.out; omega) (by omega) 9 none none none w5 (show Hid _ from HPj.out.below hb5 (Nat.le_refl _))
            rw [show strOfNums (njoin sc (numsOf s0)) = jn sc s0 from rfl] at Q5
            clear zv exv hw5 hb5
            go_wp2_with fail
            rw [HW5.out]
            refine Calls.mono Q5.out ?_
            rintro e w6 ⟨hg6, ⟨hn6, rfl, hp6⟩ | ⟨hn6, rfl⟩⟩
            · have HJ6 : Hid _ := me_next HJ.out EXV.out hn6
              have HP6 : Hid _ := hp6
              have HG6 : Hid (w4.grownBy w6 (some bs)) := grown_transV HGj.out (grown_transV (grown_ofV HB5.out) hg6)
              clear hn6 hp6 hg6 Q5 HW5 HB5
              go_wp2
              go_roundw
              case rel => exact ⟨j + 1, _, by omega, by go_num, HJ6.out, HP6.out, HG6.out⟩
              case measure => simp [intOf]; omega
            · have HE6 : Hid (insl H h (servL sc ms n) = .error (jn (njoin sc (numsOf s0)) s1)) := se_err2 hlk hlj HI.out EX.out HN4.out HJ.out EXV.out hn6
              have HG6 : Hid (W.grownBy w6 (some bs)) := grown_transV (grown_ofV HB1.out) (grown_transV HG4.out (grown_transV HGj.out (grown_transV (grown_ofV HB5.out) hg6)))
              exact ⟨rfl, pend_err HG6.out HE6.out⟩
          · have hjj : j = n1 := by omega
            subst hjj
            have HI2 : Hid (insl H h (servL sc ms (k + 1)) = .ok hj) := se_next HI.out EX.out HN4.out HJ.out
            have HG7 : Hid (W1.grownBy wr (some bs)) := grown_transV HG4.out HGj.out
            go_wp2
            go_roundw
            case rel => exact ⟨k + 1, _, by omega, by go_num, HI2.out, HPj.out, HG7.out⟩
            case measure => simp [intOf]; omega
      · have HE4 : Hid (insl H h (servL sc ms n) = .error (jn sc s0)) := se_err1 hlk HI.out EX.out.1 hn4
        have HG4 : Hid (W.grownBy w4 (some bs)) := grown_transV (grown_ofV HB1.out) (grown_transV (grown_transV HG.out (grown_transV (grown_ofV HB2.out) (grown_ofV HB3.out))) hg4)
        exact ⟨rfl, pend_err HG4.out HE4.out⟩
    · have hkk : k = n := by omega
      subst hkk
      go_wp2
      go_end0
      exact pend_ok (grown_transV (grown_ofV HB1.out) HG.out) HI.out HP.out

set_option maxHeartbeats 1000000 in
theorem qncut_any (s : List Int) (w : World) (hz : Hid (∀ i, 0 ≤ s.getD i 0 ∧ s.getD i 0 ≤ 255)) (hlen : (s.length : Int) ≤ 400000000) :
    Calls Tryz.prog 104 #[.string (strOfNums s)] w fun e w' => e = .returned (.tuple #[.string (strOfNums (nparent s).1), .string (strOfNums (nparent s).2)]) ∧ Below w.heap.size w w' := by
  have hsz := strOfNums_size s
  have q := fun W => Sh.strings_LastIndex_one (strOfNums s) { data := #[46] } rfl (by omega) W
  have he : Lib.lastIndexByte (strOfNums s) (((({ data := #[46] } : ByteArray)[0]'(by decide)).toNat : Nat) : Int) = (nlast s s.length : Int) - 1 := by
    show Lib.lastIdx (strOfNums s) 46 (strOfNums s).size = _
    rw [hsz]
    exact last_dot s hz.out s.length (Nat.le_refl _)
  have q' : ∀ W, Calls Tryz.prog 64 #[.string (strOfNums s), .string { data := #[46] }] W fun e w' => e = .returned (.int .i64 ((nlast s s.length : Int) - 1)) ∧ w' = W := fun W => by rw [← he]; exact q W
  clear q he
  have hle := nlast_le s s.length
  by_cases h0 : nlast s s.length = 0
  · have E : Hid (nparent s = ([], s)) := by show _ = _; unfold nparent; rw [if_pos h0]
    rw [h0] at q'
    have Q : Hid (∀ W, Calls Tryz.prog 64 #[.string (strOfNums s), .string { data := #[46] }] W fun e w' => e = .returned (.int .i64 (-1)) ∧ w' = W) := q'
    have h1 := run_head s 0 (by omega) (by omega)
    have h2 := run_tail s 0 (by omega) 0 rfl
    rw [E.out]
    simp only [List.take_zero, List.drop_zero, Int.ofNat_zero] at h1 h2 ⊢
    have HE : Hid ((strOfNums s).extract 0 0 = strOfNums []) := by show _ = _; rw [str_cut]; simp
    obtain ⟨A, hA⟩ : ∃ A, A = strOfNums [] := ⟨_, rfl⟩
    rw [← hA] at h1 HE ⊢
    clear q' E hle h0 hA h1
    generalize strOfNums s = S at *
    go_enter Tryz.func104, Tryz.ntmps104
    go_wp2_with fail
    refine Calls.mono (Q.out _) ?_
    rintro e w1 ⟨rfl, rfl⟩
    go_wp2
    go_region
    go_wp2
    go_ret2
    refine ⟨?_, (Below.refl _ _).drew⟩
    show Ending.returned (Value.tuple #[.string (S.extract 0 0), .string S]) = _
    rw [HE.out]
  · obtain ⟨m, hm⟩ : ∃ m, nlast s s.length = m + 1 := ⟨nlast s s.length - 1, by omega⟩
    have E : Hid (nparent s = (s.take m, s.drop (m + 1))) := by show _ = _; unfold nparent; rw [if_neg h0, hm, Nat.add_sub_cancel]
    rw [hm, show (((m + 1 : Nat) : Int) - 1) = (m : Int) by omega] at q'
    have Q : Hid _ := q'
    have h1 := run_head s m (by omega) (by omega)
    have h2 := run_tail s (m + 1) (by omega) ((m : Int) + 1) (by omega)
    have hm1 : m + 1 ≤ s.length := by omega
    have hmx : ¬ (m : Int) < 0 := by omega
    have hmx2 : (0 : Int) ≤ (m : Int) := by omega
    rw [E.out]
    obtain ⟨A, hA⟩ : ∃ A, A = strOfNums (s.take m) := ⟨_, rfl⟩
    obtain ⟨B, hB⟩ : ∃ B, B = strOfNums (s.drop (m + 1)) := ⟨_, rfl⟩
    simp only []
    rw [← hA] at h1 ⊢
    rw [← hB] at h2 ⊢
    clear q' E hle h0 hA hB hm
    generalize strOfNums s = S at *
    go_enter Tryz.func104, Tryz.ntmps104
    go_wp2_with fail
    refine Calls.mono (Q.out _) ?_
    rintro e w1 ⟨rfl, rfl⟩
    go_wp2
    go_region
    go_wp2
    go_ret2
    exact ⟨rfl, (Below.refl _ _).drew⟩

set_option maxHeartbeats 1000000 in
theorem qparent_any (s : List Int) (w : World) (hz : Hid (∀ i, 0 ≤ s.getD i 0 ∧ s.getD i 0 ≤ 255)) (hlen : (s.length : Int) ≤ 400000000) :
    Calls Tryz.prog 56 #[.string (strOfNums s)] w fun e w' => e = .returned (.tuple #[.string (strOfNums (nparent s).1), .string (strOfNums (nparent s).2)]) ∧ Below w.heap.size w w' := by
  have Q : Hid _ := qncut_any s w hz hlen
  have hl : (nparent s).1.length ≤ s.length ∧ (nparent s).2.length ≤ s.length := by unfold nparent; split <;> simp <;> omega
  have Q1 : Hid _ := fun W => qnclone_any (strOfNums (nparent s).1) W (by rw [strOfNums_size]; omega)
  have Q2 : Hid _ := fun W => qnclone_any (strOfNums (nparent s).2) W (by rw [strOfNums_size]; omega)
  clear hl
  generalize strOfNums (nparent s).1 = A at *
  generalize strOfNums (nparent s).2 = B at *
  go_enter Tryz.func56, Tryz.ntmps56
  go_wp2_with fail
  refine Calls.mono Q.out ?_
  rintro e w1 ⟨rfl, hb1⟩
  go_wp2_with fail
  refine Calls.mono (Q1.out _) ?_
  rintro e w2 ⟨rfl, hb2⟩
  go_wp2_with fail
  refine Calls.mono (Q2.out _) ?_
  rintro e w3 ⟨rfl, hb3⟩
  go_wp2
  go_ret2
  exact ⟨rfl, (hb1.trans (hb2.mono hb1.size)).trans (hb3.mono (Nat.le_trans hb1.size hb2.size))⟩

noncomputable def pk (H : ByteArray) : Nat → Sy → List Int → Except ByteArray Sy
  | 0, h, _ => .ok h
  | f + 1, h, s => if s = [] then .ok h else match h (strOfNums s) with
    | some (kd, _) => if kd = 1 then .ok h else .error (strOfNums s)
    | none => pk H f (syPut h (strOfNums s) (1, H)) (nparent s).1

theorem pk_nil (H : ByteArray) (f : Nat) (h : Sy) : pk H f h [] = .ok h := by cases f <;> simp [pk]

theorem pk_none (H : ByteArray) (f : Nat) (h : Sy) (s : List Int) (hs : s ≠ []) (hh : h (strOfNums s) = none) : pk H (f + 1) h s = pk H f (syPut h (strOfNums s) (1, H)) (nparent s).1 := by rw [pk, if_neg hs, hh]

theorem pk_some (H : ByteArray) (f : Nat) (h : Sy) (s : List Int) (hs : s ≠ []) (H0 : ByteArray) (hh : h (strOfNums s) = some (1, H0)) : pk H (f + 1) h s = .ok h := by rw [pk, if_neg hs, hh]; rfl

theorem pk_bad (H : ByteArray) (f : Nat) (h : Sy) (s : List Int) (hs : s ≠ []) (kd : Int) (H0 : ByteArray) (hh : h (strOfNums s) = some (kd, H0)) (hk : kd ≠ 1) : pk H (f + 1) h s = .error (strOfNums s) := by
  rw [pk, if_neg hs, hh]
  simp [hk]

theorem byts_get {s : List Int} (h : byts s) : ∀ i, 0 ≤ s.getD i 0 ∧ s.getD i 0 ≤ 255 := getD_bd h

structure Pr (W wr : World) (bp bs be : Nat) (vf : Value) (H : ByteArray) (n : Nat) (g : ByteArray → Option Value) : Prop where
  hom : Ob wr W.heap.size #[.pointer (some ⟨bp, 0, none⟩), .string H] 204
  po : Pq wr bp bs be vf n g
  grown : W.grownBy wr (some bs)

set_option maxRecDepth 100000 in
set_option maxHeartbeats 8000000 in
theorem qpackages (H : ByteArray) (s0 : List Int) (hsb : Hid (byts s0)) (hsl : Hid (s0.length ≤ 200000000)) (W : World) {R : Option Addr → Prop} {bp bs be : Nat} {vf : Value} {h : Sy} (hP : Hid (Px R W bp bs be vf h)) :
    Calls Tryz.prog 145 #[.agg #[.pointer (some ⟨bp, 0, none⟩), .string H], .string (strOfNums s0)] W fun e W' => Pend R W bp bs be vf (pk H (s0.length + 1) h s0) (.tuple #[]) e W' := by
  obtain ⟨w3, hw3⟩ : ∃ w3, w3 = W.alloc (.cells #[.pointer (some ⟨bp, 0, none⟩), .string H] 204) := ⟨_, rfl⟩
  obtain ⟨n0, g0, hq0, hg0⟩ := hP.out
  have hbl := hq0.blk.lt
  have hsl2 := hq0.sym.lt
  have K3 : Hid (Pr W w3 bp bs be vf H n0 g0) := by
    have hb3 : Below W.heap.size W w3 := by rw [hw3]; exact (Below.refl _ W).alloc (Nat.le_refl _) _
    exact ⟨by rw [hw3]; exact Ob.new W _ _, hq0.below hb3 (Nat.le_refl _), grown_ofV hb3⟩
  have HW3 : Hid _ := hw3
  have hpp : ∀ w, (zeroValue 93).run Tryz.prog w = .ok (.agg #[.int .i64 0, .string ⟨#[]⟩, .pointer none, .pointer none, .pointer none]) w := zeroSym
  clear hw3 hP
  obtain ⟨S0, hS0⟩ : ∃ S0, S0 = strOfNums s0 := ⟨_, rfl⟩
  rw [← hS0]
  have HS0 : Hid _ := hS0
  clear hS0
  go_enter Tryz.func145, Tryz.ntmps145
  go_upto_region 1 with fail
  rw [← HW3.out]
  clear HW3
  go_loopw [1] (fun v wr => ∃ (s : List Int) (f : Nat) (h' : Sy) (n : Nat) (g : ByteArray → Option Value), v = .string (strOfNums s) ∧ Hid (byts s ∧ s.length ≤ 200000000 ∧ s.length < f ∧ pk H f h' s = pk H (s0.length + 1) h s0 ∧ Gs R g h') ∧ Hid (Pr W wr bp bs be vf H n g)) (fun v _ => strLen v)
  case atStart => exact ⟨s0, s0.length + 1, h, n0, g0, by rw [HS0.out], ⟨hsb.out, hsl.out, by omega, rfl, hg0⟩, K3⟩
  case round =>
    obtain ⟨s, f, h', n, g, rfl, HT, K⟩ := hrel
    by_cases hse : s = []
    · subst hse
      have hne : ((strOfNums []).toList == []) = true := by rw [str_list]; rfl
      generalize strOfNums [] = S at *
      go_wp2
      go_end0
      exact pend_ok K.out.grown (HT.out.2.2.2.1.symm.trans (pk_nil H f h')) ⟨n, g, K.out.po, HT.out.2.2.2.2⟩
    · obtain ⟨hby, hln, hfl, hpk, hgs⟩ := HT.out
      obtain ⟨f', rfl⟩ : ∃ f', f = f' + 1 := ⟨f - 1, by omega⟩
      have hz : ∀ i, 0 ≤ s.getD i 0 ∧ s.getD i 0 ≤ 255 := byts_get hby
      have hne : ((strOfNums s).toList == []) = false := by
        cases s with
        | nil => exact absurd rfl hse
        | cons c r => exact str_ne c r
      have hks : (strOfNums s).size ≤ maxLen := by rw [strOfNums_size]; unfold maxLen; omega
      have QP : Hid _ := fun V => qparent_any s V hz (by omega)
      have hlt := nparent_ltV s hse
      have h1 := run_head s (nparent s).1.length (by omega) (by omega)
      rw [← nparent_take s] at h1
      have hlen : ((strOfNums (nparent s).1).size : Int) = ((nparent s).1.length : Int) := by rw [strOfNums_size]
      have hms : strLen (.string (strOfNums (nparent s).1)) < strLen (.string (strOfNums s)) := by simp only [strLen, strOfNums_size]; exact hlt
      have HMS : Hid _ := hms
      have o0 := K.out.hom
      have hP4 := K.out.po
      have hlk := hP4.sym.look symMap (zeroSym wr) (strOfNums s) hks true
      cases hh : h' (strOfNums s) with
      | none =>
        have hgn : g (strOfNums s) = none := (hgs _).1 hh
        have HT2 : Hid (byts (nparent s).1 ∧ (nparent s).1.length ≤ 200000000 ∧ (nparent s).1.length < f' ∧ pk H f' (syPut h' (strOfNums s) (1, H)) (nparent s).1 = pk H (s0.length + 1) h s0 ∧ Gs R (gput g (strOfNums s) (pkgV H)) (syPut h' (strOfNums s) (1, H))) :=
          ⟨fun x hx => hby x (by rw [nparent_take s] at hx; exact List.mem_of_mem_take hx), by omega, by omega, (pk_none H f' h' s hse hh).symm.trans hpk, hgs.put _ _ _ _ _ _⟩
        rw [hgn] at hlk
        simp only [mlook] at hlk
        obtain ⟨w6, hw6⟩ : ∃ w6, w6 = wr.alloc (.cells #[.int .i64 0, .string ⟨#[]⟩, .pointer none, .pointer none, .pointer none] 93) := ⟨_, rfl⟩
        have hb6 : Below wr.heap.size wr w6 := by rw [hw6]; exact (Below.refl _ wr).alloc (Nat.le_refl _) _
        have q0 := o0.below hb6 o0.lt
        have hP6 := hP4.below hb6 (Nat.le_refl _)
        have q2 := hP6.blk
        have HG6 : Hid (W.grownBy w6 (some bs)) := grown_transV K.out.grown (grown_ofV hb6)
        have a0 := fun x : Ext w6 => x.cell (p := ⟨W.heap.size, 0, none⟩) q0.lt (q0.cell 0 rfl)
        have a1 := fun x : Ext w6 => x.cell (p := ⟨W.heap.size, 1, none⟩) q0.lt (q0.cell 1 rfl)
        have c0 := fun x : Ext w6 => x.cell (p := ⟨bp, 0, none⟩) q2.lt (q2.cell 0 rfl)
        have c1 := fun x : Ext w6 => x.cell (p := ⟨bp, 1, none⟩) q2.lt (q2.cell 1 rfl)
        have c2 := fun x : Ext w6 => x.cell (p := ⟨bp, 2, none⟩) q2.lt (q2.cell 2 rfl)
        obtain ⟨⟨x0, x1⟩, _, xl⟩ := ob2 o0
        have z1 : wr.cell? ⟨bp, 1, none⟩ = some (.map (some bs)) := hP4.blk.cell 1 rfl
        have zl := hP4.blk.lt
        have Q0 : Hid _ := q0
        have P6 : Hid (Pq w6 bp bs be vf n g) := hP6
        have HGN : Hid _ := hgn
        have HKS : Hid _ := hks
        have HW6 : Hid _ := hw6
        clear o0 hP4 hb6 q0 q2 hP6 hw6 hms hgn hks hby hz hln hse K HT hpk hgs hh hfl
        generalize hN1 : strOfNums (nparent s).1 = N1 at *
        have HN1 : Hid _ := hN1
        clear hN1
        generalize strOfNums (nparent s).2 = N2 at *
        generalize strOfNums s = S at *
        go_upto_region 6 with fail
        rw [← HW6.out]
        clear HW6 x0 x1 xl z1 zl hlk
        refine wp_region_elast w6 (Below.refl _ _) rfl (by kernel_rfl) (by kernel_rfl) (by kernel_rfl) (by kernel_rfl) ?_
        simp only [List.dropLast]
        repeat (go_big_quiet_step (fail))
        refine wpQuiet_nil ?_
        rintro w7 ⟨⟨_, hb7⟩, rfl⟩ Q' hQ'
        have HQ : Hid _ := hQ'
        have hP7 := P6.out.below hb7 (Nat.le_refl _)
        obtain ⟨w8, hup, hm8, hg8⟩ := hP7.sym.put symMap S HKS.out (.agg #[.int .i64 1, .string H, .pointer none, .pointer none, .pointer none])
        rw [HGN.out] at hm8
        have hP8 := hP7.put hg8 (show Mg w8 bs (n + 1) (gput g S (pkgV H)) from hm8)
        have P8 : Hid _ := hP8
        have HG8 : Hid (W.grownBy w8 (some bs)) := grown_transV (grown_transV HG6.out (grown_ofV hb7)) hg8
        have hbW : W.heap.size ≠ bs := by omega
        have q8 : Ob w8 W.heap.size #[.pointer (some ⟨bp, 0, none⟩), .string H] 204 := (Q0.out.below hb7 Q0.out.lt).grown hg8 (fun e => hbW (Option.some.inj e))
        have Q8 : Hid _ := q8
        clear hQ' hm8 hg8 hb7 a0 a1 c0 c1 c2 HG6 Q0 P6 hP7 hP8 q8
        go_wp2
        refine HQ.out _ _ ?_
        clear HQ hup
        go_wp2_with fail
        refine Calls.mono (QP.out _) ?_
        rintro e w9 ⟨rfl, hb9⟩
        have P9 : Hid _ := P8.out.below hb9 (Nat.le_refl _)
        have Q9 : Hid _ := Q8.out.below hb9 Q8.out.lt
        have HG9 : Hid (W.grownBy w9 (some bs)) := grown_transV HG8.out (grown_ofV hb9)
        clear hb9 P8 Q8 HG8 QP
        go_wp2
        go_roundw
        case rel => first | exact ⟨(nparent s).1, f', _, n + 1, _, by rw [HN1.out], HT2.out, ⟨Q9.out, P9.out, HG9.out⟩⟩ | ((repeat apply Exists.intro); exact ⟨⟨(nparent s).1, f', _, n + 1, _, by rw [HN1.out], HT2.out, ⟨Q9.out, P9.out, HG9.out⟩⟩, rfl⟩)
        case measure => exact HMS.out
      | some x =>
        obtain ⟨kd, H0⟩ := x
        obtain ⟨q1, q2, q3, hgk, _⟩ := (hgs _).2 kd H0 hh
        rw [hgk] at hlk
        simp only [mlook] at hlk
        obtain ⟨⟨x0, x1⟩, _, xl⟩ := ob2 o0
        have z1 : wr.cell? ⟨bp, 1, none⟩ = some (.map (some bs)) := hP4.blk.cell 1 rfl
        have zl := hP4.blk.lt
        have HGK : Hid (W.grownBy wr (some bs)) := K.out.grown
        have HGA : Hid (∀ o, W.grownBy (wr.alloc o) (some bs)) := fun o => grown_transV K.out.grown (grown_ofV ((Below.refl _ _).alloc (Nat.le_refl _) o))
        have HPA : Hid (∀ o, Pq (wr.alloc o) bp bs be vf n g) := fun o => hP4.below ((Below.refl _ _).alloc (Nat.le_refl _) o) (Nat.le_refl _)
        have HGS : Hid _ := hgs
        by_cases hkd : kd = 1
        · subst hkd
          have HR : Hid (pk H (s0.length + 1) h s0 = .ok h') := hpk.symm.trans (pk_some H f' h' s hse H0 hh)
          clear hP4 o0 K HT hpk hgs hh hby hz hln hse QP hlt h1 hlen hms HMS hgk hfl
          generalize strOfNums s = S at *
          go_wp2
          go_end0
          exact pend_ok (HGA.out _) HR.out ⟨n, g, HPA.out _, HGS.out⟩
        · have HR : Hid (pk H (s0.length + 1) h s0 = .error (strOfNums s)) := hpk.symm.trans (pk_bad H f' h' s hse kd H0 hh hkd)
          have hkd' : (kd != 1) = true := by simpa using hkd
          clear hP4 o0 K HT hpk hgs hh hby hz hln hse QP hlt h1 hlen hms HMS hgk hkd hfl
          generalize strOfNums s = S at *
          go_wp2
          exact ⟨rfl, pend_err (HGA.out _) HR.out⟩

end Go.Proofs.YtafmoceinamcdaaGreat
