/- Put together by a program out of these texts of mine: HRef, VLa, VLb. -/
import Derived.Deep.QuietTactic
import Derived.BigQuiet
import Derived.Shelf.SlIter.Sorted
import Derived.Shelf.SortM.Plain
import Derived.Shelf.SortM.SortNone
import Derived.Test.YtafmoceinamcdaaGreatProg
import Derived.Deep.RegionLaw
import Derived.Test.YtafmoceinamcdaaGreatBunS2
import Derived.Test.YtafmoceinamcdaaGreatBunS3
import Derived.Test.YtafmoceinamcdaaGreatBunS26
import Derived.Test.YtafmoceinamcdaaGreatBunS36

namespace Go.Proofs.YtafmoceinamcdaaGreat
open Go.RowKit
set_option linter.unusedVariables false
set_option linter.unusedSimpArgs false

theorem hdrewN {B : Nat} {a w : World} (h : Below B a w) (n : Nat) : Below B a (w.drewN n) := h.trans ⟨rfl, rfl, rfl, Nat.le_refl _, fun _ _ => rfl⟩

set_option maxHeartbeats 1000000 in
theorem rhsame_any {w : World} {a1 a2 : Option Addr} {l1 c1 l2 c2 : Nat} {xs ys : List ByteArray} (h1 : Hid (Sb w a1 l1 c1 xs)) (h2 : Hid (Sb w a2 l2 c2 ys)) :
    Calls Tryz.prog 12 #[.slice a1 l1 c1, .slice a2 l2 c2] w fun e w' => e = .returned (.bool (decide (xs = ys))) ∧ Below w.heap.size w w' := by
  obtain ⟨x1, x2, x3, x4, x6⟩ := h1.out
  obtain ⟨y1, y2, y3, y4, y6⟩ := h2.out
  have X1 : Hid (xs.length = l1) := x1
  have Y1 : Hid (ys.length = l2) := y1
  have X6 : Hid _ := x6
  have Y6 : Hid _ := y6
  clear x1 y1 x6 y6 h1 h2
  by_cases hl : l1 = l2
  · subst hl
    have hne : ((l1 : Int) != (l1 : Int)) = false := by simp
    go_enter Tryz.func12, Tryz.ntmps12
    go_wp2
    go_loopw [13] (fun v wr => ∃ k : Nat, v = .int .i64 (k : Int) ∧ k ≤ l1 ∧ Hid (∀ j, j < k → xs[j]? = ys[j]?) ∧ Below w.heap.size w wr) (fun v _ => l1 - (intOf v).toNat)
    case atStart => exact ⟨0, rfl, by omega, fun j hj => absurd hj (by omega), Below.refl _ _⟩
    case round =>
      obtain ⟨k, rfl, hk, HJ, hb⟩ := hrel
      by_cases hkl : k < l1
      · obtain ⟨b, off, rfl, hlt, hc⟩ := X6.out (by omega)
        obtain ⟨b', off', rfl, hlt', hc'⟩ := Y6.out (by omega)
        obtain ⟨x, hx⟩ : ∃ z, xs[k]? = some z := ⟨xs[k]'(by rw [X1.out]; exact hkl), List.getElem?_eq_getElem (by rw [X1.out]; exact hkl)⟩
        obtain ⟨y, hy⟩ : ∃ z, ys[k]? = some z := ⟨ys[k]'(by rw [Y1.out]; exact hkl), List.getElem?_eq_getElem (by rw [Y1.out]; exact hkl)⟩
        have hcx := (hb.cell hlt).trans (hc k x hx)
        have hcy := (hb.cell hlt').trans (hc' k y hy)
        have heq := text_eq x y
        by_cases e : x = y
        · rw [decide_eq_true e] at heq
          have hnq : (x.toList != y.toList) = false := by rw [bne, heq]; rfl
          have HJ2 : Hid (∀ j, j < k + 1 → xs[j]? = ys[j]?) := fun j hj => by
            by_cases q : j = k
            · rw [q, hx, hy, e]
            · exact HJ.out j (by omega)
          clear HJ hx hy hc hc' e hnq
          go_wp2
          go_quiet (fail)
          rename_i K _ hK
          refine hK _ _ ?_
          go_wp2
          go_roundw
          case rel => first | exact ⟨k + 1, by go_num, by omega, HJ2, hb.trans ((hdrewN (Below.refl _ _) _).mono hb.size)⟩ | ((repeat apply Exists.intro); exact ⟨⟨k + 1, by go_num, by omega, HJ2, hb.trans ((hdrewN (Below.refl _ _) _).mono hb.size)⟩, rfl⟩)
          case measure => simp [intOf]; omega
        · rw [decide_eq_false e] at heq
          have hnq : (x.toList != y.toList) = true := by rw [bne, heq]; rfl
          have E : Hid (decide (xs = ys) = false) := decide_eq_false fun h => by
            subst h
            rw [hx] at hy
            exact e (Option.some.inj hy)
          clear HJ hx hy hc hc' e hnq
          go_wp2
          go_quiet (fail)
          rename_i K _ hK
          refine hK _ _ ?_
          go_wp2
          go_ret
          exact ⟨by rw [E.out]; rfl, hb.trans ((hdrewN (Below.refl _ _) _).mono hb.size)⟩
      · obtain rfl : k = l1 := by omega
        have E : Hid (decide (xs = ys) = true) := decide_eq_true (by
          apply List.ext_getElem?
          intro j
          rcases Nat.lt_or_ge j k with h | h
          · exact HJ.out j h
          · rw [List.getElem?_eq_none (by rw [X1.out]; exact h), List.getElem?_eq_none (by rw [Y1.out]; exact h)])
        clear HJ
        go_wp2
        go_ret
        exact ⟨by rw [E.out]; rfl, hb⟩
  · have hne : ((l1 : Int) != (l2 : Int)) = true := by simp; omega
    have E : Hid (decide (xs = ys) = false) := decide_eq_false fun h => by
      subst h
      exact hl (X1.out.symm.trans Y1.out)
    go_enter Tryz.func12, Tryz.ntmps12
    go_wp2
    go_ret
    exact ⟨by rw [E.out]; rfl, Below.refl _ _⟩

structure Ns (w : World) (a : Option Addr) (len cap : Nat) (zs : List Int) : Prop where
  hlen : zs.length = len
  h63 : (len : Int) ≤ 9223372036854775807
  hmem : 0 < len → ∃ b off, a = some ⟨b, off, none⟩ ∧ b < w.heap.size ∧ ∀ (i : Nat) (z : Int), zs[i]? = some z → w.cell? ⟨b, off + i, none⟩ = some (.int .i64 z)

theorem Ns.below {w w' : World} {a : Option Addr} {len cap : Nat} {zs : List Int} (h : Ns w a len cap zs) (hb : Below w.heap.size w w') : Ns w' a len cap zs := by
  refine ⟨h.hlen, h.h63, fun hp => ?_⟩
  obtain ⟨b, off, h1, hlt, hc⟩ := h.hmem hp
  exact ⟨b, off, h1, Nat.lt_of_lt_of_le hlt hb.size, fun i z hi => (hb.cell hlt).trans (hc i z hi)⟩

theorem pcont_int {w : World} {a : Option Addr} {n c : Nat} {zs : List Int} (h : Hid (Ns w a n c zs)) (x : Int) :
    Calls Tryz.prog 53 #[.slice a n c, .int .i64 x] w fun e w' => e = .returned (.bool (decide (x ∈ zs))) ∧ w = w' := by
  obtain ⟨h1, h2, h3⟩ := h.out
  by_cases hn : n = 0
  · subst hn
    obtain rfl : zs = [] := List.eq_nil_of_length_eq_zero h1
    exact Calls.mono (Sh.slices_Contains_int_empty a c x w) (fun e w' q => ⟨by rw [q.1]; simp, q.2.symm⟩)
  · obtain ⟨b, off, rfl, hlt, hc⟩ := h3 (by omega)
    refine Calls.mono (Sh.slices_Contains_int b off n c zs x w (by omega) (by omega) (fun j hj => ?_)) (fun e w' q => ⟨?_, q.2.symm⟩)
    · rw [List.getD_eq_getElem?_getD, List.getElem?_eq_getElem hj]
      exact hc j _ (List.getElem?_eq_getElem hj)
    · rw [q.1, List.take_of_length_le (by omega), List.contains_eq_mem]

def inS (zs : List ByteArray) (x : ByteArray) : Bool := zs.any (fun y => decide (y = x))

theorem inS_iff (zs : List ByteArray) (x : ByteArray) : inS zs x = true ↔ x ∈ zs := by
  unfold inS
  rw [List.any_eq_true]
  constructor
  · rintro ⟨y, hy, he⟩
    rw [← of_decide_eq_true he]
    exact hy
  · intro hx
    exact ⟨x, hx, decide_eq_true rfl⟩

theorem pcont_str {w : World} {a : Option Addr} {n c : Nat} {zs : List ByteArray} (h : Hid (Sb w a n c zs)) (x : ByteArray) :
    Calls Tryz.prog 54 #[.slice a n c, .string x] w fun e w' => e = .returned (.bool (inS zs x)) ∧ w = w' := by
  obtain ⟨h1, h2, h4, h5, h3⟩ := h.out
  by_cases hn : n = 0
  · subst hn
    obtain rfl : zs = [] := List.eq_nil_of_length_eq_zero h1
    exact Calls.mono (Sh.slices_Contains_string_empty a c x w) (fun e w' q => ⟨by rw [q.1]; rfl, q.2.symm⟩)
  · obtain ⟨b, off, rfl, hlt, hc⟩ := h3 (by omega)
    refine Calls.mono (Sh.slices_Contains_string b off n c zs x w (by omega) (by omega) (fun j hj => ?_)) (fun e w' q => ⟨?_, q.2.symm⟩)
    · rw [List.getD_eq_getElem?_getD, List.getElem?_eq_getElem hj]
      exact hc j _ (List.getElem?_eq_getElem hj)
    · rw [q.1, List.take_of_length_le (by omega)]
      congr 2
      rw [Bool.eq_iff_iff, Go.Lib.containsS_iff, inS_iff]

def fitS (h : Sy) (seen : List ByteArray) (kinds : List Int) (F : ByteArray) : Bool := match h F with
  | some (k, H) => decide (k ∈ kinds) && inS seen H
  | none => false

set_option maxRecDepth 20000 in
set_option maxHeartbeats 4000000 in
theorem pfits {R : Option Addr → Prop} {W : World} {bp bs be : Nat} {vf : Value} {h : Sy} (hP : Hid (Px R W bp bs be vf h)) (F : ByteArray) (hF : F.size ≤ maxLen) (p1 p2 p3 : Nat) {ka : Option Addr} {kn kc : Nat} {kinds : List Int} {sa : Option Addr} {sn sc : Nat} {seen : List ByteArray} (o1 : Ob W p1 #[.pointer (some ⟨bp, 0, none⟩)] 25) (o2 : Ob W p2 #[.slice ka kn kc] 59) (o3 : Ob W p3 #[.slice sa sn sc] 30) (hk : Hid (Ns W ka kn kc kinds)) (hs : Hid (Sb W sa sn sc seen)) :
    Calls Tryz.prog 52 #[.string F, .pointer (some ⟨p1, 0, none⟩), .pointer (some ⟨p2, 0, none⟩), .pointer (some ⟨p3, 0, none⟩)] W fun e W' => e = .returned (.bool (fitS h seen kinds F)) ∧ Below W.heap.size W W' := by
  obtain ⟨n, g, hq, hg⟩ := hP.out
  obtain ⟨va, vn, vc, rfl⟩ := hq.sl
  have Q : Hid _ := pthere bp va vn vc (some bs) (some be) W hq.blk
  have hf1 : ∀ w, (Instr.field 96 (.agg #[.slice va vn vc, .map (some bs), .map (some be)]) 1).run Tryz.prog w = .ok (.map (some bs)) w := fun w => by kernel_rfl
  obtain ⟨c1, _, l1⟩ := ob1 o1
  obtain ⟨c2, _, l2⟩ := ob1 o2
  obtain ⟨c3, _, l3⟩ := ob1 o3
  have hlk : ∀ w1, Below W.heap.size W w1 → (Instr.lookup 88 (.map (some bs)) (.string F) true).run Tryz.prog w1 = .ok (mlook (.agg #[.int .i64 0, .string ⟨#[]⟩, .pointer none, .pointer none, .pointer none]) (g F) true) w1 := fun w1 hb =>
    (hq.below hb (Nat.le_refl _)).sym.look symMap (zeroSym w1) F hF true
  cases hh : h F with
  | none =>
    have E : Hid (fitS h seen kinds F = false) := by show _ = _; unfold fitS; rw [hh]
    rw [(hg F).1 hh] at hlk
    have HLK : Hid _ := hlk
    rw [E.out]
    clear hlk hg hq hP hh E o1 o2 o3 hk hs hF
    go_enter Tryz.func52, Tryz.ntmps52
    go_wp2_with fail
    refine Calls.mono Q.out ?_
    rintro e w1 ⟨rfl, hb1⟩
    have hl1 := HLK.out w1 hb1
    simp only [mlook] at hl1
    have HB1 : Hid (Below W.heap.size W (w1.alloc (.cells #[.int .i64 0, .string ⟨#[]⟩, .pointer none, .pointer none, .pointer none] 93))) := hb1.trans ((Below.refl _ _).alloc hb1.size _)
    clear hb1 Q HLK
    go_wp2
    go_ret
    exact ⟨rfl, HB1.out⟩
  | some y =>
    obtain ⟨k, H⟩ := y
    obtain ⟨q1, q2, q3, hgF, _⟩ := (hg F).2 k H hh
    rw [hgF] at hlk
    have HLK : Hid _ := hlk
    have E : Hid (fitS h seen kinds F = (decide (k ∈ kinds) && inS seen H)) := by show _ = _; unfold fitS; rw [hh]
    rw [E.out]
    obtain ⟨B1, hB1⟩ : ∃ B1, B1 = decide (k ∈ kinds) := ⟨_, rfl⟩
    rw [← hB1]
    have HK1 : Hid _ := hB1
    obtain ⟨B2, hB2⟩ : ∃ B2, B2 = inS seen H := ⟨_, rfl⟩
    rw [← hB2]
    have HK2 : Hid _ := hB2
    clear hlk hg hq hP hh E o1 o2 o3 hF hgF hB1 hB2
    go_enter Tryz.func52, Tryz.ntmps52
    go_wp2_with fail
    refine Calls.mono Q.out ?_
    rintro e w1 ⟨rfl, hb1⟩
    have hl1 := HLK.out w1 hb1
    simp only [mlook] at hl1
    obtain ⟨w2, hw2⟩ : ∃ w2, w2 = w1.alloc (.cells #[.int .i64 k, .string H, .pointer q1, .pointer q2, .pointer q3] 93) := ⟨_, rfl⟩
    have hb2 : Below W.heap.size W w2 := by rw [hw2]; exact hb1.trans ((Below.refl _ _).alloc hb1.size _)
    have on : Ob w2 w1.heap.size #[.int .i64 k, .string H, .pointer q1, .pointer q2, .pointer q3] 93 := by rw [hw2]; exact Ob.new _ _ _
    have y0 := on.cell 0 rfl
    have y1 := on.cell 1 rfl
    have yl := on.lt
    have d1 := (hb2.cell (p := ⟨p1, 0, none⟩) l1).trans c1
    have d2 := (hb2.cell (p := ⟨p2, 0, none⟩) l2).trans c2
    have d3 := (hb2.cell (p := ⟨p3, 0, none⟩) l3).trans c3
    have m2 := Nat.lt_of_lt_of_le l2 hb2.size
    have m3 := Nat.lt_of_lt_of_le l3 hb2.size
    have QK : Hid _ := pcont_int (show Hid _ from hk.out.below hb2) k
    rw [← HK1.out] at QK
    have QS : Hid _ := pcont_str (show Hid _ from hs.out.below hb2) H
    rw [← HK2.out] at QS
    have HB2 : Hid _ := hb2
    have HWN : Hid _ := hw2
    have e1 := (hb1.cell (p := ⟨p1, 0, none⟩) l1).trans c1
    clear on hb2 hb1 Q HLK hk hs hw2
    go_upto_region 2 with fail
    rw [← HWN.out]
    clear HWN
    clear HK1 HK2
    cases B1
    · go_wp2_with fail
      refine Calls.mono QK.out ?_
      rintro e w3 ⟨rfl, rfl⟩
      clear QK
      go_wp2
      go_ret
      exact ⟨rfl, HB2.out⟩
    · skip
      go_wp2_with fail
      refine Calls.mono QK.out ?_
      rintro e w3 ⟨rfl, rfl⟩
      clear QK
      go_wp2_with fail
      refine Calls.mono QS.out ?_
      rintro e w3 ⟨rfl, rfl⟩
      clear QS
      go_wp2
      go_ret
      exact ⟨rfl, HB2.out⟩

theorem so_one9 {w : World} {b : Nat} {v : Value} {x : List Int} (h : So w b v [x]) : ∃ g c, v = .slice (some ⟨g, 0, none⟩) 1 c ∧ w.cell? ⟨g, 0, none⟩ = some (.string (strOfNums x)) ∧ g < w.heap.size := by
  rcases h.1.2 with ⟨_, h2⟩ | ⟨g, c, cur, rfl, h2, h3, h4⟩
  · simp at h2
  · refine ⟨g, c, rfl, ?_, (Array.getElem?_eq_some_iff.1 h3).1⟩
    obtain ⟨_, _, _, h5⟩ := h4
    obtain ⟨l⟩ := cur
    cases l with
    | nil => simp at h5
    | cons y r =>
      simp [scell] at h5
      simp [World.cell?, h3, h5]

theorem s09 : strOfNums [] = ⟨#[]⟩ := by kernel_rfl

theorem places_nil9 (nm : List Int) : ∃ x, nplaces [] nm = [x] ∧ x.length ≤ nm.length := by
  unfold nplaces
  split
  · exact ⟨_, rfl, by simp⟩
  · exact ⟨nm, rfl, Nat.le_refl _⟩

theorem places_more9 {s nm : List Int} (h : ¬ nm.getD 0 0 = 46) (hs : s ≠ []) : nplaces s nm = njoin s nm :: nplaces (nparent s).1 nm := by
  unfold nplaces
  rw [if_neg h, if_neg h]
  exact nplc_more nm s hs

theorem places_dot9 {s nm : List Int} (h : nm.getD 0 0 = 46) : nplaces s nm = nplaces [] nm := by
  unfold nplaces
  rw [if_pos h, if_pos h]

def lookE (o : Option (List Int)) : Ending := match o with
  | some z => .returned (.tuple #[.string (strOfNums z), .bool true])
  | none => .returned (.tuple #[.string ⟨#[]⟩, .bool false])

def lookX (b : Bool) (X : ByteArray) (E : Ending) : Ending := cond b (.returned (.tuple #[.string X, .bool true])) E

def fz (h : Sy) (seen : List ByteArray) (kinds : List Int) (z : List Int) : Bool := fitS h seen kinds (strOfNums z)

theorem look_cons9 (h : Sy) (seen : List ByteArray) (kinds : List Int) (z : List Int) (l : List (List Int)) : lookE ((z :: l).find? (fz h seen kinds)) = lookX (fitS h seen kinds (strOfNums z)) (strOfNums z) (lookE (l.find? (fz h seen kinds))) := by
  rw [List.find?_cons]
  unfold lookX fz
  cases fitS h seen kinds (strOfNums z) <;> rfl

set_option maxRecDepth 20000 in
set_option maxHeartbeats 4000000 in
theorem plook {R : Option Addr → Prop} {W : World} {bp bs be : Nat} {vf : Value} {h : Sy} (hP : Hid (Px R W bp bs be vf h)) {ka : Option Addr} {kn kc : Nat} {kinds : List Int} {sa : Option Addr} {sn sc' : Nat} {seen : List ByteArray} (hk : Hid (Ns W ka kn kc kinds)) (hs : Hid (Sb W sa sn sc' seen)) (sc nm : List Int) (hsb : Hid (byts sc)) (hnb : Hid (byts nm)) (hsl : sc.length ≤ 5000) (hnl : nm.length ≤ 4000) :
    Calls Tryz.prog 27 #[.pointer (some ⟨bp, 0, none⟩), .string (strOfNums sc), .string (strOfNums nm), .slice sa sn sc', .slice ka kn kc] W fun e W' => e = lookE ((nplaces sc nm).find? (fz h seen kinds)) ∧ Below W.heap.size W W' := by
  obtain ⟨w1, hw1⟩ : ∃ w1, w1 = ((W.alloc (.cells #[.pointer (some ⟨bp, 0, none⟩)] 25)).alloc (.cells #[.slice sa sn sc'] 30)).alloc (.cells #[.slice ka kn kc] 59) := ⟨_, rfl⟩
  have hb1 : Below W.heap.size W w1 := by rw [hw1]; exact (((Below.refl _ _).alloc (Nat.le_refl _) _).alloc (by simp) _).alloc (by simp; omega) _
  have o1 : Ob w1 W.heap.size #[.pointer (some ⟨bp, 0, none⟩)] 25 := by rw [hw1]; exact ((Ob.new _ _ _).alloc _).alloc _
  have o2 : Ob w1 (W.heap.size + 1) #[.slice sa sn sc'] 30 := by
    rw [hw1]
    have := (Ob.new (W.alloc (.cells #[.pointer (some ⟨bp, 0, none⟩)] 25)) #[.slice sa sn sc'] 30).alloc (.cells #[.slice ka kn kc] 59)
    simpa using this
  have o3 : Ob w1 (W.heap.size + 2) #[.slice ka kn kc] 59 := by
    rw [hw1]
    have := Ob.new ((W.alloc (.cells #[.pointer (some ⟨bp, 0, none⟩)] 25)).alloc (.cells #[.slice sa sn sc'] 30)) #[.slice ka kn kc] 59
    simpa using this
  have QF0 : Hid (∀ (F : ByteArray), F.size ≤ maxLen → ∀ V, Below w1.heap.size w1 V → Calls Tryz.prog 52 #[.string F, .pointer (some ⟨W.heap.size, 0, none⟩), .pointer (some ⟨W.heap.size + 2, 0, none⟩), .pointer (some ⟨W.heap.size + 1, 0, none⟩)] V fun e W' => e = .returned (.bool (fitS h seen kinds F)) ∧ Below V.heap.size V W') := fun F hF V hV =>
    have hb := hb1.trans (hV.mono hb1.size)
    pfits (show Hid _ from hP.out.below hb (Nat.le_refl _)) F hF _ _ _ (o1.below hV o1.lt) (o3.below hV o3.lt) (o2.below hV o2.lt) (show Hid _ from hk.out.below hb) (show Hid _ from hs.out.below hb)
  have hmf : ∀ (fn : Fn) (first cap : Array Value) (w : World), (Instr.makeFunc fn first cap).run Tryz.prog w = .ok (.func fn first cap) w := fun _ _ _ _ => rfl
  have hpd : Lib.hasPrefix (strOfNums nm).data.toList (⟨#[46]⟩ : ByteArray).data.toList = decide (nm.getD 0 0 = 46) := pre_dot nm hnb.out
  obtain ⟨B, hB⟩ : ∃ B, B = decide (nm.getD 0 0 = 46) := ⟨_, rfl⟩
  have QH : Hid (Calls Tryz.prog 55 #[.string (strOfNums nm), .string ⟨#[46]⟩] w1 fun e w' => e = .returned (.bool B) ∧ w1 = w') := Calls.mono (Sh.strings_HasPrefix (strOfNums nm) ⟨#[46]⟩ w1) (fun e w h => ⟨by rw [h.1, hpd, hB], h.2.symm⟩)
  obtain ⟨RES, hRES⟩ : ∃ RES, RES = (nplaces sc nm).find? (fz h seen kinds) := ⟨_, rfl⟩
  rw [← hRES]
  have HRES : Hid _ := hRES
  have HBB : Hid _ := hB
  have HB1 : Hid _ := hb1
  have HW1 : Hid _ := hw1
  have HN : Hid (nm.length ≤ 4000) := hnl
  have HS : Hid (sc.length ≤ 5000) := hsl
  have HM : Hid _ := (rfl : strOfNums nm = strOfNums nm)
  clear hb1 o1 o2 o3 hw1 hnl hsl hpd hRES hB hP hk hs
  obtain ⟨M, hM⟩ : ∃ M, M = strOfNums nm := ⟨_, rfl⟩
  obtain ⟨S0, hS0⟩ : ∃ S0, S0 = strOfNums sc := ⟨_, rfl⟩
  rw [← hM, ← hS0]
  rw [← hM] at QH
  have HM2 : Hid _ := hM
  have HS0 : Hid _ := hS0
  clear hM hS0 HM
  go_enter Tryz.func27, Tryz.ntmps27
  go_upto_region 2 with fail
  rw [← HW1.out]
  clear HW1
  go_wp2_with fail
  refine Calls.mono QH.out ?_
  rintro e w2 ⟨rfl, rfl⟩
  clear QH
  cases B
  · have HPT : Hid (¬ nm.getD 0 0 = 46) := (show ¬ nm.getD 0 0 = 46 from of_decide_eq_false HBB.out.symm)
    clear HBB
    go_wp2
    go_loopw [1] (fun v wr => ∃ s, v = .string (strOfNums s) ∧ Hid (byts s ∧ s.length ≤ 5000) ∧ Hid (lookE RES = lookE ((nplaces s nm).find? (fz h seen kinds))) ∧ Hid (Below w1.heap.size w1 wr)) (fun v _ => strLen v)
    case atStart => exact ⟨sc, by rw [HS0.out], ⟨hsb.out, HS.out⟩, (show Hid _ from by show _ = _; rw [HRES.out]), Below.refl _ _⟩
    case round =>
      obtain ⟨s, rfl, HSS, HRR, HBr⟩ := hrel
      by_cases hse : s = []
      · subst hse
        have hne : ((strOfNums []).toList == []) = true := by rw [str_list]; rfl
        have QP : Hid _ := pplaces_any [] nm wr (show Hid (NTab wr) from trivial) (show Hid _ from by show byts []; unfold byts; simp) hnb (by simp) (by have := HN.out; omega)
        obtain ⟨x, hx, hxl⟩ := places_nil9 nm
        have HR : Hid (lookE RES = lookX (fitS h seen kinds (strOfNums x)) (strOfNums x) (.returned (.tuple #[.string ⟨#[]⟩, .bool false]))) := by
          show _ = _
          rw [HRR.out, hx, look_cons9]
          rfl
        rw [hx, ← HM2.out, s09] at QP
        have HXL : Hid _ := hxl
        clear hx hxl HRR
        generalize strOfNums [] = Z at *
        go_wp2_with fail
        refine Calls.mono QP.out ?_
        rintro e w3 ⟨v3, rfl, hso, hb3⟩
        obtain ⟨g3, c3, rfl, hc3, hl3⟩ := so_one9 hso
        have HB3 : Hid (Below w1.heap.size w1 w3) := HBr.out.trans (hb3.mono HBr.out.size)
        have QF : Hid _ := QF0.out (strOfNums x) (by rw [strOfNums_size]; have := HXL.out; have := HN.out; unfold maxLen; omega) w3 HB3.out
        generalize strOfNums x = X at *
        obtain ⟨B3, hB3⟩ : ∃ B3, B3 = fitS h seen kinds X := ⟨_, rfl⟩
        rw [← hB3] at QF HR
        clear hso hb3 QP hB3 QF0
        go_wp2_with fail
        refine Calls.mono QF.out ?_
        rintro e w4 ⟨rfl, hb4⟩
        have HB4 : Hid (Below W.heap.size W w4) := HB1.out.trans ((HB3.out.mono HB1.out.size).trans (hb4.mono (Nat.le_trans HB1.out.size HB3.out.size)))
        clear hb4 HB3 QF hc3 hl3
        cases B3
        · go_wp2
          go_ret2
          exact ⟨HR.out.symm, HB4.out⟩
        · go_wp2
          go_ret2
          exact ⟨HR.out.symm, HB4.out⟩
      · have hne : ((strOfNums s).toList == []) = false := by
          cases s with
          | nil => exact absurd rfl hse
          | cons c r => exact str_ne c r
        have QJ : Hid _ := pjoin_any s nm wr (show Hid (NTab wr) from trivial) HSS.out.1 hnb (by have := HSS.out.2; omega) (by have := HN.out; omega)
        rw [← HM2.out] at QJ
        have QF : Hid _ := QF0.out (strOfNums (njoin s nm)) (by rw [strOfNums_size]; have := HSS.out.2; have := HN.out; unfold njoin maxLen; split <;> simp <;> omega)
        have QP : Hid _ := fun V => pparent_any s V (show Hid (NTab V) from trivial) (byts_get HSS.out.1) (by have := HSS.out.2; omega)
        have hms : strLen (.string (strOfNums (nparent s).1)) < strLen (.string (strOfNums s)) := by simp only [strLen, strOfNums_size]; exact nparent_ltV s hse
        have HMS : Hid _ := hms
        have HS2 : Hid (byts (nparent s).1 ∧ (nparent s).1.length ≤ 5000) := ⟨byts_parent HSS.out.1, by have := nparent_ltV s hse; have := HSS.out.2; omega⟩
        have HR : Hid (lookE RES = lookX (fitS h seen kinds (strOfNums (njoin s nm))) (strOfNums (njoin s nm)) (lookE ((nplaces (nparent s).1 nm).find? (fz h seen kinds)))) := by
          show _ = _
          rw [HRR.out, places_more9 HPT.out hse, look_cons9]
        obtain ⟨RE, hRE⟩ : ∃ RE, RE = lookE ((nplaces (nparent s).1 nm).find? (fz h seen kinds)) := ⟨_, rfl⟩
        rw [← hRE] at HR
        have HRE : Hid _ := hRE
        generalize hN1 : strOfNums (nparent s).1 = N1 at *
        have HN1 : Hid _ := hN1
        generalize strOfNums (nparent s).2 = N2 at *
        generalize strOfNums (njoin s nm) = J at *
        generalize strOfNums s = S at *
        obtain ⟨B3, hB3⟩ : ∃ B3, B3 = fitS h seen kinds J := ⟨_, rfl⟩
        rw [← hB3] at QF HR
        clear hN1 hms hse hB3 hRE HRR
        go_wp2_with fail
        refine Calls.mono QJ.out ?_
        rintro e w3 ⟨rfl, hb3⟩
        have HB3 : Hid (Below w1.heap.size w1 w3) := HBr.out.trans (hb3.mono HBr.out.size)
        have QF3 : Hid _ := QF.out w3 HB3.out
        clear hb3 QJ HBr QF
        go_wp2_with fail
        refine Calls.mono QF3.out ?_
        rintro e w4 ⟨rfl, hb4⟩
        have HB4 : Hid (Below w1.heap.size w1 w4) := HB3.out.trans (hb4.mono HB3.out.size)
        clear hb4 QF3 HB3
        cases B3
        · go_wp2_with fail
          refine Calls.mono (QP.out _) ?_
          rintro e w5 ⟨rfl, hb5⟩
          have HB5 : Hid (Below w1.heap.size w1 w5) := HB4.out.trans (hb5.mono HB4.out.size)
          have HR2 : Hid (lookE RES = lookE ((nplaces (nparent s).1 nm).find? (fz h seen kinds))) := HR.out.trans HRE.out
          clear hb5 QP HB4 HR HRE
          go_wp2
          go_roundw
          case rel => first | exact ⟨(nparent s).1, by rw [HN1.out], HS2, HR2, HB5⟩ | ((repeat apply Exists.intro); exact ⟨⟨(nparent s).1, by rw [HN1.out], HS2, HR2, HB5⟩, rfl⟩)
          case measure => exact HMS.out
        · go_wp2
          go_ret2
          exact ⟨HR.out.symm, HB1.out.trans (HB4.out.mono HB1.out.size)⟩
  · have HPT : Hid (nm.getD 0 0 = 46) := (show nm.getD 0 0 = 46 from of_decide_eq_true HBB.out.symm)
    clear HBB
    go_wp2
    go_loopw [1] (fun v wr => v = .string (strOfNums []) ∧ Hid (Below w1.heap.size w1 wr)) (fun v _ => 0)
    case atStart => exact ⟨by rw [s09], Below.refl _ _⟩
    case round =>
      obtain ⟨rfl, HBr⟩ := hrel
      have HRR : Hid (lookE RES = lookE ((nplaces [] nm).find? (fz h seen kinds))) := by
        show _ = _
        rw [HRES.out, places_dot9 HPT.out]
      have hne : ((strOfNums []).toList == []) = true := by rw [str_list]; rfl
      have QP : Hid _ := pplaces_any [] nm wr (show Hid (NTab wr) from trivial) (show Hid _ from by show byts []; unfold byts; simp) hnb (by simp) (by have := HN.out; omega)
      obtain ⟨x, hx, hxl⟩ := places_nil9 nm
      have HR : Hid (lookE RES = lookX (fitS h seen kinds (strOfNums x)) (strOfNums x) (.returned (.tuple #[.string ⟨#[]⟩, .bool false]))) := by
        show _ = _
        rw [HRR.out, hx, look_cons9]
        rfl
      rw [hx, ← HM2.out, s09] at QP
      have HXL : Hid _ := hxl
      clear hx hxl HRR
      generalize strOfNums [] = Z at *
      go_wp2_with fail
      refine Calls.mono QP.out ?_
      rintro e w3 ⟨v3, rfl, hso, hb3⟩
      obtain ⟨g3, c3, rfl, hc3, hl3⟩ := so_one9 hso
      have HB3 : Hid (Below w1.heap.size w1 w3) := HBr.out.trans (hb3.mono HBr.out.size)
      have QF : Hid _ := QF0.out (strOfNums x) (by rw [strOfNums_size]; have := HXL.out; have := HN.out; unfold maxLen; omega) w3 HB3.out
      generalize strOfNums x = X at *
      obtain ⟨B3, hB3⟩ : ∃ B3, B3 = fitS h seen kinds X := ⟨_, rfl⟩
      rw [← hB3] at QF HR
      clear hso hb3 QP hB3 QF0
      go_wp2_with fail
      refine Calls.mono QF.out ?_
      rintro e w4 ⟨rfl, hb4⟩
      have HB4 : Hid (Below W.heap.size W w4) := HB1.out.trans ((HB3.out.mono HB1.out.size).trans (hb4.mono (Nat.le_trans HB1.out.size HB3.out.size)))
      clear hb4 HB3 QF hc3 hl3
      cases B3
      · go_wp2
        go_ret2
        exact ⟨HR.out.symm, HB4.out⟩
      · go_wp2
        go_ret2
        exact ⟨HR.out.symm, HB4.out⟩

end Go.Proofs.YtafmoceinamcdaaGreat
