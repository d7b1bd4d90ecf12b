/- Put together by a program out of these texts of mine: PEach, PCount, PDeep, TSame, PSm0, PEqf, PSame, QTxt, QPs, QPd, QSh, QPn. -/
import Derived.OneCell
import Derived.Laws.EntriesVeiled
import Derived.Deep.RegionWith
import Derived.Deep.QuietTactic
import Derived.BigQuiet
import Derived.Shelf.Strings.Prefix
import Derived.Test.YtgkablmglkagfaaGreatDoorProg
import Derived.Test.YtgkablmglkagfaaGreatDoorBunC5
import Derived.Test.YtgkablmglkagfaaGreatDoorBunC6
import Derived.Test.YtgkablmglkagfaaGreatDoorBunC8

/- The contract of the program's own node.each, of whatever function value it is handed. -/
namespace Go.Proofs.YtgkablmglkagfaaGreatDoor
open Go.RowKit
set_option linter.unusedVariables false
set_option linter.unusedSimpArgs false

/-- A list of nodes that lies in the world w. -/
structure Kl (w : World) (ad : Option Addr) (cap : Nat) (kids : List Tn) : Prop where
  hlen : (kids.length : Int) ≤ 9223372036854775807
  hcap : kids.length ≤ cap
  hnil : ad = none → cap = 0
  hmem : 0 < kids.length → ∃ b off, ad = some ⟨b, off, none⟩ ∧ b < w.heap.size ∧ ∀ (i : Nat) (t : Tn), kids[i]? = some t → ∀ (j : Nat) (u : Value), t.cells[j]? = some u → w.cell? ⟨b, off + i * 8 + j, none⟩ = some u
  hall : ∀ (i : Nat) (t : Tn), kids[i]? = some t → TnOk w t

theorem Kl.under {w w' : World} {ad : Option Addr} {cap : Nat} {kids : List Tn} (h : Kl w ad cap kids) (hb : Below w.heap.size w w') : Kl w' ad cap kids := by
  refine ⟨h.hlen, h.hcap, h.hnil, fun hp => ?_, fun i t hi => (h.hall i t hi).under hb⟩
  obtain ⟨b, off, h1, h2, h3⟩ := h.hmem hp
  exact ⟨b, off, h1, Nat.lt_of_lt_of_le h2 hb.size, fun i t hi j u hj => (hb.cell h2).trans (h3 i t hi j u hj)⟩

theorem TnOk.kl {w : World} {kind : Int} {text : List Int} {n m a pos : Int} {doc : List Int} {ad : Option Addr} {cap : Nat} {kids : List Tn} (h : TnOk w (.mk kind text n m a pos doc ad cap kids)) : Kl w ad cap kids := by
  cases h with
  | mk hkind htext htl hn hm ha hpos hdoc hdl hkl hcap hnone hmem hkids => exact ⟨hkl, hcap, hnone, hmem, hkids⟩

/-- The function has a body: a call enters it. -/
def Goin (k : FuncId) : Prop := ∀ (args : Array Value) (w : World), (callFunc k args).run Tryz.prog w = .ok (.enter k args) w

set_option maxRecDepth 10000 in
set_option maxHeartbeats 2000000 in
theorem peach_any {w : World} {ad : Option Addr} {cap : Nat} {kids : List Tn} (hk : Kl w ad cap kids) (kf : FuncId) (hin : Goin kf) (caps : Array Value) (J : Nat → World → Prop) (Z : World → Prop)
    (hB : ∀ i V, J i V → Below w.heap.size w V) (hJ : ∀ i V V', J i V → Below V.heap.size V V' → J i V')
    (hf : ∀ (i : Nat) (t : Tn), kids[i]? = some t → ∀ V, J i V → Calls Tryz.prog kf (#[t.val] ++ caps) V fun e V' => (e = .returned (.bool true) ∧ J (i + 1) V') ∨ (e = .returned (.bool false) ∧ Z V'))
    (W : World) (h0 : J 0 W) :
    Calls Tryz.prog 14 #[.slice ad kids.length cap, .func (.func kf) #[] caps] W fun e W' => (e = .returned (.bool true) ∧ J kids.length W') ∨ (e = .returned (.bool false) ∧ Z W') := by
  have hkl := hk.hlen
  have HMem : Hid _ := hk.hmem
  have HF : Hid _ := hf
  have HS : Hid (∀ i V, J i V → Below w.heap.size w V) := hB
  have HJ : Hid (∀ i V V', J i V → Below V.heap.size V V' → J i V') := hJ
  have H0 : Hid (J 0 W) := h0
  clear hk hf hB hJ h0
  unfold Goin at hin
  go_enter Tryz.func14, Tryz.ntmps14
  go_wp2
  go_loopw [9] (fun v wr => ∃ (k : Nat), v = .int .i64 (k : Int) ∧ k ≤ kids.length ∧ Hid (J k wr)) (fun v _ => kids.length - (intOf v).toNat)
  case atStart => exact ⟨0, rfl, by omega, H0⟩
  case round =>
    obtain ⟨k, rfl, hk, HK⟩ := hrel
    by_cases hkl2 : k < kids.length
    · obtain ⟨b, off, rfl, hlt, hc⟩ := HMem.out (by omega)
      obtain ⟨⟨kd, tx, n2, m2, a2, pos2, doc2, ad2, cap2, ks⟩, hkid⟩ : ∃ t, kids[k]? = some t := ⟨kids[k]'hkl2, List.getElem?_eq_getElem hkl2⟩
      have hBB : Below w.heap.size w wr := HS.out _ _ HK.out
      obtain ⟨c0, c1, c2, c3, c4, c5, c6, c7⟩ := kid_cells hlt hBB hc hkid
      have HBn : Hid (J k (wr.alloc (.cells #[.int .i64 kd, .string (strOfNums tx), .int .i64 n2, .int .i64 m2, .int .i64 a2, .int .i64 pos2, .string (strOfNums doc2), .slice ad2 ks.length cap2] 24))) := HJ.out _ _ _ HK.out ((Below.refl _ _).alloc (Nat.le_refl _) _)
      have q := HF.out k _ hkid _ HBn.out
      change Calls Tryz.prog kf ((#[Value.agg #[.int .i64 kd, .string (strOfNums tx), .int .i64 n2, .int .i64 m2, .int .i64 a2, .int .i64 pos2, .string (strOfNums doc2), .slice ad2 ks.length cap2]] : Array Value) ++ caps) _ _ at q
      generalize strOfNums tx = U1 at c1 q HBn
      generalize strOfNums doc2 = U2 at c6 q HBn
      have Q : Hid _ := q
      clear q hc hkid hBB
      go_wp2_with fail
      refine Calls.mono Q.out ?_
      rintro e w2 (⟨rfl, hz⟩ | ⟨rfl, hz⟩)
      · have HB2 : Hid (J (k + 1) w2) := hz
        clear hz
        go_wp2
        go_roundw
        case rel => first | exact ⟨k + 1, by go_num, by omega, HB2⟩ | ((repeat apply Exists.intro); exact ⟨⟨k + 1, by go_num, by omega, HB2⟩, rfl⟩)
        case measure => simp [intOf]; omega
      · have HZ : Hid (Z w2) := hz
        clear hz
        go_wp2
        go_ret
        exact .inr ⟨rfl, HZ.out⟩
    · obtain rfl : k = kids.length := by omega
      go_wp2
      go_ret
      exact .inl ⟨rfl, HK.out⟩

end Go.Proofs.YtgkablmglkagfaaGreatDoor

/- The contracts of the program's own node.Count and of the closure that it goes down by. -/
namespace Go.Proofs.YtgkablmglkagfaaGreatDoor
open Go.RowKit
set_option linter.unusedVariables false
set_option linter.unusedSimpArgs false

theorem one_cell_of {V : World} {g : Nat} {v : Value} {t : TypeId} (h : V.heap[g]? = some (.cells #[v] t (0, 0))) : V.cell? ⟨g, 0, none⟩ = some v := by
  simp [World.cell?, h]

theorem one_frozen {V : World} {g : Nat} {v : Value} {t : TypeId} (h : V.heap[g]? = some (.cells #[v] t (0, 0))) : V.frozen? ⟨g, 0, none⟩ = false := by
  simp [World.frozen?, h]

theorem alloc_at (w : World) (o : Obj) {k : Nat} (hk : k = w.heap.size) : (w.alloc o).heap[k]? = some o := by subst hk; exact heap_alloc_new _ _

theorem one_lt {V : World} {g : Nat} {o : Obj} (h : V.heap[g]? = some o) : g < V.heap.size := by
  rcases Nat.lt_or_ge g V.heap.size with h' | h'
  · exact h'
  · rw [Array.getElem?_eq_none h'] at h; cases h

theorem alloc_old {w : World} {o x : Obj} {k : Nat} (h : w.heap[k]? = some x) : (w.alloc o).heap[k]? = some x :=
  (((Below.refl w.heap.size w).alloc (Nat.le_refl _) o).block _ (one_lt h)).trans h

mutual
theorem tcnt_or : ∀ (t : Tn) (x : Int), 0 ≤ x → x ≤ 20000 → tcnt t x ≤ 20000 ∨ tcnt t x = 30000
  | .mk _ _ _ _ _ _ _ _ _ kids, x, h0, h1 => by
    rw [tcnt]
    by_cases h : 20000 < x + 1
    · rw [if_pos h]; exact .inr rfl
    · rw [if_neg h]
      exact tcnts_or kids (x + 1) (by omega) (by omega)
theorem tcnts_or : ∀ (l : List Tn) (x : Int), 0 ≤ x → x ≤ 20000 → tcnts l x ≤ 20000 ∨ tcnts l x = 30000
  | [], x, h0, h1 => by rw [tcnts]; exact .inl h1
  | k :: r, x, h0, h1 => by
    have h2 := tcnt_bd k x h0 h1
    rw [tcnts]
    by_cases h : 20000 < tcnt k x
    · rw [if_pos h]; exact .inr rfl
    · rw [if_neg h]
      exact tcnts_or r (tcnt k x) (by omega) (by omega)
end

/-- What node.Count's closure goes by: the count's cell, its own. -/
structure Cst (w : World) (gc gd : Nat) (V : World) (c : Int) : Prop where
  below : Below w.heap.size w V
  cnt : V.heap[gc]? = some (.cells #[.int .i64 c] 3 (0, 0))
  self : V.heap[gd]? = some (.cells #[.func (.func 18) #[] #[.pointer (some ⟨gc, 0, none⟩), .pointer (some ⟨gd, 0, none⟩)]] 26 (0, 0))

theorem Cst.under {w : World} {gc gd : Nat} {V V' : World} {c : Int} (h : Cst w gc gd V c) (hb : Below V.heap.size V V') : Cst w gc gd V' c :=
  ⟨h.below.trans (hb.mono h.below.size), (hb.block _ (one_lt h.cnt)).trans h.cnt, (hb.block _ (one_lt h.self)).trans h.self⟩

theorem Cst.set {w : World} {gc gd : Nat} {V : World} {c : Int} (h : Cst w gc gd V c) (hc : w.heap.size ≤ gc) (hne : gd ≠ gc) (y : Int) : Cst w gc gd (V.setCell ⟨gc, 0, none⟩ (.int .i64 y)) y :=
  ⟨h.below.setCell hc _, one_setCell h.cnt, (heap_setCell_other _ _ _ _ hne).trans h.self⟩

set_option maxRecDepth 10000 in
set_option maxHeartbeats 2000000 in
theorem pcnt_any {w : World} {t : Tn} (h : TnOk w t) (gc gd : Nat) (hc : w.heap.size ≤ gc) (hne : gd ≠ gc) : ∀ (V : World) (c : Int), Cst w gc gd V c → 0 ≤ c → c ≤ 20000 →
    Calls Tryz.prog 18 #[t.val, .pointer (some ⟨gc, 0, none⟩), .pointer (some ⟨gd, 0, none⟩)] V fun e V' => (e = .returned (.bool true) ∧ Cst w gc gd V' (tcnt t c) ∧ tcnt t c ≤ 20000) ∨ (e = .returned (.bool false) ∧ 20000 < tcnt t c ∧ Below w.heap.size w V') := by
  induction h with
  | @mk kind text n m a pos doc ad cap kids hkind htext htl hn hm ha hpos hdoc hdl hkl hcap hnone hmem hkids ih =>
    intro V c hV h0 h1
    have hkl : Kl w ad cap kids := ⟨hkl, hcap, hnone, hmem, hkids⟩
    have hcell := one_cell_of hV.cnt
    have hself := one_cell_of hV.self
    have hlt := one_lt hV.cnt
    have hfr := one_frozen hV.cnt
    have hltd := one_lt hV.self
    have hset := hV.set hc hne (c + 1)
    show Calls Tryz.prog 18 #[.agg #[.int .i64 kind, .string (strOfNums text), .int .i64 n, .int .i64 m, .int .i64 a, .int .i64 pos, .string (strOfNums doc), .slice ad kids.length cap], .pointer (some ⟨gc, 0, none⟩), .pointer (some ⟨gd, 0, none⟩)] V _
    obtain ⟨R, hR⟩ : ∃ R, R = tcnt (.mk kind text n m a pos doc ad cap kids) c := ⟨_, rfl⟩
    rw [← hR]
    rw [tcnt] at hR
    have hcap' : ∀ (T1 T2 : ByteArray), Cst w gc gd ((V.setCell ⟨gc, 0, none⟩ (.int .i64 (c + 1))).alloc (.cells #[.int .i64 kind, .string T1, .int .i64 n, .int .i64 m, .int .i64 a, .int .i64 pos, .string T2, .slice ad kids.length cap] 24)) (c + 1) := fun _ _ => hset.under ((Below.refl _ _).alloc (Nat.le_refl _) _)
    generalize strOfNums text = T1
    generalize strOfNums doc = T2
    have HA := hcap' T1 T2
    have hself2 : ((V.setCell ⟨gc, 0, none⟩ (.int .i64 (c + 1))).alloc (.cells #[.int .i64 kind, .string T1, .int .i64 n, .int .i64 m, .int .i64 a, .int .i64 pos, .string T2, .slice ad kids.length cap] 24)).cell? ⟨gd, 0, none⟩ = some (.func (.func 18) #[] #[.pointer (some ⟨gc, 0, none⟩), .pointer (some ⟨gd, 0, none⟩)]) := one_cell_of HA.self
    by_cases hbig : c + 1 ≤ 20000
    · rw [if_neg (by omega)] at hR
      have q := peach_any hkl 18 Tryz.call18 #[.pointer (some ⟨gc, 0, none⟩), .pointer (some ⟨gd, 0, none⟩)] (fun i U => ∃ y, Cst w gc gd U y ∧ 0 ≤ y ∧ y ≤ 20000 ∧ R = tcnts (kids.drop i) y) (fun U => 20000 < R ∧ Below w.heap.size w U)
        (fun i U ⟨y, hy, _⟩ => hy.below) (fun i U U' ⟨y, hy, h2, h3, h4⟩ hb => ⟨y, hy.under hb, h2, h3, h4⟩)
        (fun i t hi U ⟨y, hy, h2, h3, h4⟩ => by
          refine (ih i t hi U y hy h2 h3).mono ?_
          have hil : i < kids.length := (List.getElem?_eq_some_iff.1 hi).1
          rw [List.drop_eq_getElem_cons hil, show kids[i] = t by rw [List.getElem?_eq_getElem hil] at hi; exact Option.some.inj hi, tcnts] at h4
          have hbd := tcnt_bd t y h2 h3
          rintro e U' (⟨rfl, h5, h6⟩ | ⟨rfl, h5, h6⟩)
          · rw [if_neg (by omega)] at h4
            exact .inl ⟨rfl, _, h5, by omega, h6, h4⟩
          · rw [if_pos h5] at h4
            exact .inr ⟨rfl, by omega, h6⟩) _ ⟨c + 1, HA, by omega, hbig, by rw [hR]; rfl⟩
      have Q : Hid _ := q
      clear q hcap' ih hkl hmem hkids hset HA hV hR htext hdoc hnone
      go_enter Tryz.func18, Tryz.ntmps18
      go_wp2_with fail
      refine Calls.mono Q.out ?_
      rintro e U (⟨rfl, y, h5, h6, h7, h8⟩ | ⟨rfl, h5, h6⟩)
      · have H : Hid _ := And.intro h5 (And.intro h7 h8)
        clear h5 h7 h8
        go_wp2
        go_ret
        obtain ⟨h5, h7, h8⟩ := H.out
        have h8' : R = y := by rw [h8, List.drop_length, tcnts]
        subst h8'
        exact .inl ⟨rfl, h5, h7⟩
      · have H : Hid _ := And.intro h5 h6
        clear h5 h6
        go_wp2
        go_ret
        exact .inr ⟨rfl, H.out.1, H.out.2⟩
    · rw [if_pos (by omega)] at hR
      have HB : Hid (Below w.heap.size w _) := HA.below
      have HR : Hid (20000 < R) := by show _ < _; omega
      clear hcap' ih hkl hmem hkids hset HA hV htext hdoc hnone hR
      go_enter Tryz.func18, Tryz.ntmps18
      go_wp2
      go_ret
      exact .inr ⟨rfl, HR.out, HB.out⟩

set_option maxRecDepth 10000 in
set_option maxHeartbeats 2000000 in
theorem pcount_all {w : World} {t : Tn} (h : TnOk w t) (W : World) (hB : Below w.heap.size w W) :
    Calls Tryz.prog 8 #[t.val] W fun e W' => e = .returned (.int .i64 (tcount t)) ∧ Below W.heap.size W W' := by
  have q := fun V hV => pcnt_any (h.under hB) (W.heap.size + 1) (W.heap.size + 2) (by omega) (by omega) V 0 hV (by omega) (by omega)
  have hbd := tcnt_or t 0 (by omega) (by omega)
  have E0 : tcount t = min (tcnt t 0) 30000 := rfl
  rw [E0]
  clear E0
  generalize tcnt t 0 = C at q hbd ⊢
  have hmf : ∀ (fn : Fn) (first cap : Array Value) (w : World), (Instr.makeFunc fn first cap).run Tryz.prog w = .ok (.func fn first cap) w := fun _ _ _ _ => rfl
  obtain ⟨kind, text, n, m, a, pos, doc, ad, cap, kids⟩ := t
  show Calls Tryz.prog 8 #[.agg #[.int .i64 kind, .string (strOfNums text), .int .i64 n, .int .i64 m, .int .i64 a, .int .i64 pos, .string (strOfNums doc), .slice ad kids.length cap]] W _
  change ∀ V, _ → Calls Tryz.prog 18 #[.agg #[.int .i64 kind, .string (strOfNums text), .int .i64 n, .int .i64 m, .int .i64 a, .int .i64 pos, .string (strOfNums doc), .slice ad kids.length cap], .pointer (some ⟨W.heap.size + 1, 0, none⟩), .pointer (some ⟨W.heap.size + 2, 0, none⟩)] V _ at q
  generalize strOfNums text = T1 at q ⊢
  generalize strOfNums doc = T2 at q ⊢
  have HQ : Hid _ := q
  clear q h hB
  go_enter Tryz.func8, Tryz.ntmps8
  go_wp2_with fail
  refine Calls.mono (HQ.out _ ?_) ?_
  · exact ⟨(((Below.refl _ _).alloc (Nat.le_refl _) _).alloc (by simp only [World.size_alloc]; omega) _).alloc (by simp only [World.size_alloc]; omega) _, alloc_old (alloc_at _ _ (by simp)), alloc_at _ _ (by simp)⟩
  · rintro e U (⟨rfl, h1, h2⟩ | ⟨rfl, h1, h2⟩)
    · have hc := one_cell_of h1.cnt
      have HB : Hid (Below W.heap.size W U) := h1.below
      clear h1
      go_wp2
      go_ret
      exact ⟨by rw [show min C 30000 = C by omega]; rfl, HB.out⟩
    · have HB : Hid (Below W.heap.size W U) := h2
      clear h2
      go_wp2
      go_ret
      exact ⟨by rw [show min C 30000 = 30000 by omega]; rfl, HB.out⟩

end Go.Proofs.YtgkablmglkagfaaGreatDoor

/- The contracts of the program's own node.Deep and of the closure that it goes down by. -/
namespace Go.Proofs.YtgkablmglkagfaaGreatDoor
open Go.RowKit
set_option linter.unusedVariables false
set_option linter.unusedSimpArgs false

/-- What node.Deep's closure goes by: the depth's cell, the deepest one's, its own. -/
structure Dst (w : World) (gp gm gd : Nat) (V : World) (m d : Int) : Prop where
  below : Below w.heap.size w V
  dep : V.heap[gp]? = some (.cells #[.int .i64 d] 3 (0, 0))
  most : V.heap[gm]? = some (.cells #[.int .i64 m] 3 (0, 0))
  self : V.heap[gd]? = some (.cells #[.func (.func 19) #[] #[.pointer (some ⟨gp, 0, none⟩), .pointer (some ⟨gm, 0, none⟩), .pointer (some ⟨gd, 0, none⟩)]] 26 (0, 0))

theorem Dst.under {w : World} {gp gm gd : Nat} {V V' : World} {m d : Int} (h : Dst w gp gm gd V m d) (hb : Below V.heap.size V V') : Dst w gp gm gd V' m d :=
  ⟨h.below.trans (hb.mono h.below.size), (hb.block _ (one_lt h.dep)).trans h.dep, (hb.block _ (one_lt h.most)).trans h.most, (hb.block _ (one_lt h.self)).trans h.self⟩

theorem Dst.set {w : World} {gp gm gd : Nat} {V : World} {m d : Int} (h : Dst w gp gm gd V m d) (hc : w.heap.size ≤ gp) (h1 : gm ≠ gp) (h2 : gd ≠ gp) (y : Int) : Dst w gp gm gd (V.setCell ⟨gp, 0, none⟩ (.int .i64 y)) m y :=
  ⟨h.below.setCell hc _, one_setCell h.dep, (heap_setCell_other _ _ _ _ h1).trans h.most, (heap_setCell_other _ _ _ _ h2).trans h.self⟩

theorem Dst.set2 {w : World} {gp gm gd : Nat} {V : World} {m d : Int} (h : Dst w gp gm gd V m d) (hc : w.heap.size ≤ gm) (h1 : gp ≠ gm) (h2 : gd ≠ gm) (y : Int) : Dst w gp gm gd (V.setCell ⟨gm, 0, none⟩ (.int .i64 y)) y d :=
  ⟨h.below.setCell hc _, (heap_setCell_other _ _ _ _ h1).trans h.dep, one_setCell h.most, (heap_setCell_other _ _ _ _ h2).trans h.self⟩

set_option maxRecDepth 10000 in
set_option maxHeartbeats 2000000 in
theorem pdp_any {w : World} {t : Tn} (h : TnOk w t) (gp gm gd : Nat) (hp : w.heap.size ≤ gp) (hm : w.heap.size ≤ gm) (h1 : gm ≠ gp) (h2 : gd ≠ gp) (h3 : gd ≠ gm) : ∀ (V : World) (m d : Int), Dst w gp gm gd V m d → 0 ≤ d → d ≤ 64 → 0 ≤ m → m ≤ 64 →
    Calls Tryz.prog 19 #[t.val, .pointer (some ⟨gp, 0, none⟩), .pointer (some ⟨gm, 0, none⟩), .pointer (some ⟨gd, 0, none⟩)] V fun e V' => (e = .returned (.bool true) ∧ Dst w gp gm gd V' (max m (tdp t (d + 1))) d ∧ tdp t (d + 1) ≤ 64) ∨ (e = .returned (.bool false) ∧ 64 < tdp t (d + 1) ∧ ∃ m', Dst w gp gm gd V' m' d) := by
  induction h with
  | @mk kind text n mm a pos doc ad cap kids hkind htext htl hn hmm ha hpos hdoc hdl hkl hcap hnone hmem hkids ih =>
    intro V m d hV h0 h01 hm0 hm1
    have hkl : Kl w ad cap kids := ⟨hkl, hcap, hnone, hmem, hkids⟩
    have hcell := one_cell_of hV.dep
    have hmost := one_cell_of hV.most
    have hself := one_cell_of hV.self
    have hlt := one_lt hV.dep
    have hltm := one_lt hV.most
    have hltd := one_lt hV.self
    have hfr := one_frozen hV.dep
    have hfrm := one_frozen hV.most
    obtain ⟨M, hM⟩ : ∃ M, M = max m (d + 1) := ⟨_, rfl⟩
    have hM1 : max m (d + 1) = M := hM.symm
    have hMb : 0 ≤ M ∧ M ≤ 65 := by omega
    obtain ⟨hMb0, hMb1⟩ := hMb
    have hset := hV.set hp h1 h2 (d + 1)
    have hset2 := hset.set2 hm h1.symm h3 M
    show Calls Tryz.prog 19 #[.agg #[.int .i64 kind, .string (strOfNums text), .int .i64 n, .int .i64 mm, .int .i64 a, .int .i64 pos, .string (strOfNums doc), .slice ad kids.length cap], .pointer (some ⟨gp, 0, none⟩), .pointer (some ⟨gm, 0, none⟩), .pointer (some ⟨gd, 0, none⟩)] V _
    obtain ⟨R, hR⟩ : ∃ R, R = tdp (.mk kind text n mm a pos doc ad cap kids) (d + 1) := ⟨_, rfl⟩
    rw [← hR]
    rw [tdp] at hR
    have hcap' : ∀ (T1 T2 : ByteArray), Dst w gp gm gd (((V.setCell ⟨gp, 0, none⟩ (.int .i64 (d + 1))).setCell ⟨gm, 0, none⟩ (.int .i64 M)).alloc (.cells #[.int .i64 kind, .string T1, .int .i64 n, .int .i64 mm, .int .i64 a, .int .i64 pos, .string T2, .slice ad kids.length cap] 24)) M (d + 1) := fun _ _ => hset2.under ((Below.refl _ _).alloc (Nat.le_refl _) _)
    generalize strOfNums text = T1
    generalize strOfNums doc = T2
    have HA := hcap' T1 T2
    have hmost2 : (V.setCell ⟨gp, 0, none⟩ (.int .i64 (d + 1))).cell? ⟨gm, 0, none⟩ = some (.int .i64 m) := one_cell_of hset.most
    have hfrm2 : (V.setCell ⟨gp, 0, none⟩ (.int .i64 (d + 1))).frozen? ⟨gm, 0, none⟩ = false := one_frozen hset.most
    have hdep2 : ((V.setCell ⟨gp, 0, none⟩ (.int .i64 (d + 1))).setCell ⟨gm, 0, none⟩ (.int .i64 M)).cell? ⟨gp, 0, none⟩ = some (.int .i64 (d + 1)) := one_cell_of hset2.dep
    have hfrd2 : ((V.setCell ⟨gp, 0, none⟩ (.int .i64 (d + 1))).setCell ⟨gm, 0, none⟩ (.int .i64 M)).frozen? ⟨gp, 0, none⟩ = false := one_frozen hset2.dep
    have hself2 : ((V.setCell ⟨gp, 0, none⟩ (.int .i64 (d + 1))).setCell ⟨gm, 0, none⟩ (.int .i64 M)).cell? ⟨gd, 0, none⟩ = some (.func (.func 19) #[] #[.pointer (some ⟨gp, 0, none⟩), .pointer (some ⟨gm, 0, none⟩), .pointer (some ⟨gd, 0, none⟩)]) := one_cell_of hset2.self
    have hsz1 : gm < (V.setCell ⟨gp, 0, none⟩ (.int .i64 (d + 1))).heap.size := one_lt hset.most
    have hsz2 : gp < ((V.setCell ⟨gp, 0, none⟩ (.int .i64 (d + 1))).setCell ⟨gm, 0, none⟩ (.int .i64 M)).heap.size := one_lt hset2.dep
    have hsz3 : gd < ((V.setCell ⟨gp, 0, none⟩ (.int .i64 (d + 1))).setCell ⟨gm, 0, none⟩ (.int .i64 M)).heap.size := one_lt hset2.self
    have HPs : Hid (w.heap.size ≤ gp ∧ gm ≠ gp ∧ gd ≠ gp) := ⟨hp, h1, h2⟩
    by_cases hbig : d + 1 ≤ 64
    · rw [if_neg (by omega)] at hR
      have q := peach_any hkl 19 Tryz.call19 #[.pointer (some ⟨gp, 0, none⟩), .pointer (some ⟨gm, 0, none⟩), .pointer (some ⟨gd, 0, none⟩)] (fun i U => ∃ y z, Dst w gp gm gd U y (d + 1) ∧ y = max m z ∧ d + 1 ≤ z ∧ z ≤ 64 ∧ R = tdps (kids.drop i) (d + 1) z) (fun U => 64 < R ∧ ∃ m', Dst w gp gm gd U m' (d + 1))
        (fun i U ⟨y, z, hy, _⟩ => hy.below) (fun i U U' ⟨y, z, hy, h5⟩ hb => ⟨y, z, hy.under hb, h5⟩)
        (fun i t hi U ⟨y, z, hy, h5, h6, h7, h8⟩ => by
          refine (ih i t hi U y (d + 1) hy (by omega) hbig (by omega) (by omega)).mono ?_
          have hil : i < kids.length := (List.getElem?_eq_some_iff.1 hi).1
          rw [List.drop_eq_getElem_cons hil, show kids[i] = t by rw [List.getElem?_eq_getElem hil] at hi; exact Option.some.inj hi, tdps] at h8
          rintro e U' (⟨rfl, h9, h10⟩ | ⟨rfl, h9, h10⟩)
          · rw [if_neg (by omega)] at h8
            exact .inl ⟨rfl, _, _, h9, by omega, by omega, by omega, h8⟩
          · rw [if_pos (by omega)] at h8
            exact .inr ⟨rfl, by omega, h10⟩) _ ⟨M, d + 1, HA, hM, by omega, hbig, by rw [hR]; rfl⟩
      have Q : Hid _ := q
      clear q hcap' ih hkl hmem hkids hset hset2 HA hV hR htext hdoc hnone hM hp hm h1 h2 h3
      go_enter Tryz.func19, Tryz.ntmps19
      go_wp2_with fail
      refine Calls.mono Q.out ?_
      clear hdep2 hself2 hmost2 hfrm2 hfrd2 hcell hmost hself hfr hfrm hlt hltm hltd hsz1 hsz2 hsz3
      rintro e U (⟨rfl, y, z, h5, h6, h7, h8, h9⟩ | ⟨rfl, h5, m', h6⟩)
      · have hc1 := one_cell_of h5.dep
        have hc2 := one_frozen h5.dep
        have HS := h5.set HPs.out.1 HPs.out.2.1 HPs.out.2.2 d
        have H : Hid _ := And.intro HS (And.intro h6 (And.intro h8 h9))
        clear h5 h6 h8 h9 HS
        go_wp2
        go_ret
        obtain ⟨h5, h6, h8, h9⟩ := H.out
        have h9' : R = z := by rw [h9, List.drop_length, tdps]
        subst h9'
        subst h6
        exact .inl ⟨rfl, h5, h8⟩
      · have hc1 := one_cell_of h6.dep
        have hc2 := one_frozen h6.dep
        have HS := h6.set HPs.out.1 HPs.out.2.1 HPs.out.2.2 d
        have H : Hid _ := And.intro HS h5
        clear h5 h6 HS
        go_wp2
        go_ret
        exact .inr ⟨rfl, H.out.2, m', H.out.1⟩
    · rw [if_pos (by omega)] at hR
      have HR : Hid (64 < R) := by show _ < _; omega
      have HS : Hid (∀ T1 T2, ∃ m', Dst w gp gm gd (((((V.setCell ⟨gp, 0, none⟩ (.int .i64 (d + 1))).setCell ⟨gm, 0, none⟩ (.int .i64 M)).setCell ⟨gp, 0, none⟩ (.int .i64 d)).alloc (.cells #[.int .i64 kind, .string T1, .int .i64 n, .int .i64 mm, .int .i64 a, .int .i64 pos, .string T2, .slice ad kids.length cap] 24))) m' d) := fun T1 T2 => ⟨M, (hset2.set hp h1 h2 d).under ((Below.refl _ _).alloc (Nat.le_refl _) _)⟩
      clear hcap' ih hkl hmem hkids hset hset2 HA hV htext hdoc hnone hR hM hp hm h1 h2 h3
      go_enter Tryz.func19, Tryz.ntmps19
      go_wp2
      go_ret
      exact .inr ⟨rfl, HR.out, HS.out _ _⟩

set_option maxRecDepth 10000 in
set_option maxHeartbeats 2000000 in
theorem pdeep_all {w : World} {t : Tn} (h : TnOk w t) (W : World) (hB : Below w.heap.size w W) :
    Calls Tryz.prog 9 #[t.val] W fun e W' => e = .returned (.int .i64 (tdeep t)) ∧ Below W.heap.size W W' := by
  have q := fun V hV => pdp_any (h.under hB) (W.heap.size + 2) (W.heap.size + 1) (W.heap.size + 3) (by omega) (by omega) (by omega) (by omega) (by omega) V 0 0 hV (by omega) (by omega) (by omega) (by omega)
  have hbd := tdp_bd t 1 (by omega)
  have E0 : tdeep t = if 64 < tdp t 1 then 100 else tdp t 1 := rfl
  rw [E0]
  clear E0
  change ∀ V, _ → Calls _ _ _ V (fun e V' => (e = .returned (.bool true) ∧ Dst W (W.heap.size + 2) (W.heap.size + 1) (W.heap.size + 3) V' (max 0 (tdp t 1)) 0 ∧ tdp t 1 ≤ 64) ∨ (e = .returned (.bool false) ∧ 64 < tdp t 1 ∧ ∃ m', Dst W (W.heap.size + 2) (W.heap.size + 1) (W.heap.size + 3) V' m' 0)) at q
  generalize tdp t 1 = C at q hbd ⊢
  have hmf : ∀ (fn : Fn) (first cap : Array Value) (w : World), (Instr.makeFunc fn first cap).run Tryz.prog w = .ok (.func fn first cap) w := fun _ _ _ _ => rfl
  obtain ⟨kind, text, n, m, a, pos, doc, ad, cap, kids⟩ := t
  show Calls Tryz.prog 9 #[.agg #[.int .i64 kind, .string (strOfNums text), .int .i64 n, .int .i64 m, .int .i64 a, .int .i64 pos, .string (strOfNums doc), .slice ad kids.length cap]] W _
  change ∀ V, _ → Calls Tryz.prog 19 #[.agg #[.int .i64 kind, .string (strOfNums text), .int .i64 n, .int .i64 m, .int .i64 a, .int .i64 pos, .string (strOfNums doc), .slice ad kids.length cap], .pointer (some ⟨W.heap.size + 2, 0, none⟩), .pointer (some ⟨W.heap.size + 1, 0, none⟩), .pointer (some ⟨W.heap.size + 3, 0, none⟩)] V _ at q
  generalize strOfNums text = T1 at q ⊢
  generalize strOfNums doc = T2 at q ⊢
  have HQ : Hid _ := q
  clear q h hB
  go_enter Tryz.func9, Tryz.ntmps9
  go_wp2_with fail
  refine Calls.mono (HQ.out _ ?_) ?_
  · exact ⟨((((Below.refl _ _).alloc (Nat.le_refl _) _).alloc (by simp only [World.size_alloc]; omega) _).alloc (by simp only [World.size_alloc]; omega) _).alloc (by simp only [World.size_alloc]; omega) _, alloc_old (alloc_at _ _ (by simp)), alloc_old (alloc_old (alloc_at _ _ (by simp))), alloc_at _ _ (by simp)⟩
  · rintro e U (⟨rfl, h1, h2⟩ | ⟨rfl, h1, m', h2⟩)
    · have hc := one_cell_of h1.most
      have HB : Hid (Below W.heap.size W U) := h1.below
      clear h1
      rw [show max 0 C = C by omega] at hc
      go_wp2
      go_ret
      exact ⟨by first | rfl | (rw [if_neg (by omega)]; rfl), HB.out⟩
    · have HB : Hid (Below W.heap.size W U) := h2.below
      clear h2
      go_wp2
      go_ret
      exact ⟨by first | rfl | (rw [if_pos h1]; rfl), HB.out⟩

end Go.Proofs.YtgkablmglkagfaaGreatDoor

/- The contracts of the reference's own same, Same. -/
namespace Go.Proofs.YtgkablmglkagfaaGreatDoor
open Go.RowKit
set_option linter.unusedVariables false
set_option linter.unusedSimpArgs false

theorem tsames_cons (x : Tn) (r : List Tn) (y : Tn) (q : List Tn) : tsames (x :: r) (y :: q) = (tsame x y && tsames r q) := by rw [tsames]

end Go.Proofs.YtgkablmglkagfaaGreatDoor

/- The program's own Same as plain functions; its alike. -/
namespace Go.Proofs.YtgkablmglkagfaaGreatDoor
open Go.RowKit
set_option linter.unusedVariables false
set_option linter.unusedSimpArgs false

/-- Alike but for their places and kids. -/
def palk : Tn → Tn → Bool
  | .mk k1 t1 n1 m1 a1 _ d1 _ _ _, .mk k2 t2 n2 m2 a2 _ d2 _ _ _ => (k1 == k2) && ((t1 == t2) && ((n1 == n2) && ((m1 == m2) && ((a1 == a2) && (d1 == d2)))))

/-- .. all the way down, so many levels at most. -/
def psm : Nat → Tn → Tn → Bool
  | 0, _, _ => false
  | l + 1, t, u => palk t u && (decide (t.kids.length = u.kids.length) && (t.kids.zip u.kids).all fun p => psm l p.1 p.2)

mutual
/-- How high a tree is. -/
def tht : Tn → Nat
  | .mk _ _ _ _ _ _ _ _ _ kids => thts kids + 1
def thts : List Tn → Nat
  | [] => 0
  | k :: r => max (tht k) (thts r)
end

mutual
theorem tdp_ht : ∀ (t : Tn) (x : Int), x ≤ 65 → (64 < tdp t x ↔ 64 < x - 1 + tht t)
  | .mk _ _ _ _ _ _ _ _ _ kids, x, h => by
    rw [tdp, tht]
    by_cases hx : 64 < x
    · rw [if_pos hx]; omega
    · rw [if_neg hx, tdps_ht kids x x (by omega) (by omega) (by omega)]; omega
theorem tdps_ht : ∀ (l : List Tn) (x d : Int), x ≤ 64 → x ≤ d → d ≤ 64 → (64 < tdps l x d ↔ 64 < x + thts l)
  | [], x, d, h0, h1, h2 => by rw [tdps, thts]; omega
  | k :: r, x, d, h0, h1, h2 => by
    have hk := tdp_ht k (x + 1) (by omega)
    have hb := tdp_bd k (x + 1) (by omega)
    rw [tdps, thts]
    by_cases h : 64 < max d (tdp k (x + 1))
    · rw [if_pos h]; omega
    · rw [if_neg h, tdps_ht r x _ h0 (by omega) (by omega)]; omega
end

theorem tdeep_ht (t : Tn) : tdeep t ≤ 64 ↔ tht t ≤ 64 := by
  have h := tdp_ht t 1 (by omega)
  unfold tdeep
  split <;> omega

mutual
theorem tsame_ht : ∀ (t u : Tn), tsame t u = true → tht t = tht u
  | .mk k1 t1 n1 m1 a1 _ d1 _ _ kids1, .mk k2 t2 n2 m2 a2 _ d2 _ _ kids2, h => by
    rw [tsame, Bool.and_eq_true] at h
    obtain ⟨h1, h2⟩ := h
    have h1 := of_decide_eq_true h1
    rw [tht, tht, tsames_ht kids1 kids2 h1.2.2.2.2.2.2 h2]
theorem tsames_ht : ∀ (l r : List Tn), l.length = r.length → tsames l r = true → thts l = thts r
  | [], [], _, _ => rfl
  | [], _ :: _, h, _ => by simp at h
  | _ :: _, [], h, _ => by simp at h
  | x :: l, y :: r, h, h2 => by
    rw [tsames, Bool.and_eq_true] at h2
    rw [thts, thts, tsame_ht x y h2.1, tsames_ht l r (by simpa using h) h2.2]
end

theorem psms_eq {l : Nat} (ih : ∀ t u, psm l t u = (tsame t u && decide (tht t ≤ l))) : ∀ (ks us : List Tn), ks.length = us.length → ((ks.zip us).all fun p => psm l p.1 p.2) = (tsames ks us && decide (thts ks ≤ l))
  | [], [], _ => by simp [tsames, thts]
  | [], _ :: _, h => by simp at h
  | _ :: _, [], h => by simp at h
  | x :: r, y :: q, h => by
    rw [List.zip_cons_cons, List.all_cons, psms_eq ih r q (by simpa using h), tsames, thts, ih x y]
    rw [Bool.eq_iff_iff]
    simp only [Bool.and_eq_true, decide_eq_true_eq]
    constructor
    · rintro ⟨⟨a, b⟩, c, d⟩; exact ⟨⟨a, c⟩, by omega⟩
    · rintro ⟨⟨a, c⟩, d⟩; exact ⟨⟨a, by omega⟩, c, by omega⟩

theorem psm_eq : ∀ (l : Nat) (t u : Tn), psm l t u = (tsame t u && decide (tht t ≤ l))
  | 0, .mk _ _ _ _ _ _ _ _ _ kids, u => by rw [psm, tht, decide_eq_false (by omega), Bool.and_false]
  | l + 1, .mk k1 t1 n1 m1 a1 _ d1 _ _ kids1, .mk k2 t2 n2 m2 a2 _ d2 _ _ kids2 => by
    rw [psm, tsame, tht]
    show (palk _ _ && (decide (kids1.length = kids2.length) && (kids1.zip kids2).all fun p => psm l p.1 p.2)) = _
    by_cases hl : kids1.length = kids2.length
    · rw [psms_eq (psm_eq l) kids1 kids2 hl]
      rw [Bool.eq_iff_iff]
      simp only [palk, Bool.and_eq_true, decide_eq_true_eq, beq_iff_eq]
      constructor
      · rintro ⟨⟨a, b, c, d, e, f⟩, g, h, i⟩; exact ⟨⟨⟨a, b, c, d, e, f, g⟩, h⟩, by omega⟩
      · rintro ⟨⟨⟨a, b, c, d, e, f, g⟩, h⟩, i⟩; exact ⟨⟨a, b, c, d, e, f⟩, g, h, by omega⟩
    · rw [decide_eq_false hl, decide_eq_false (fun h => hl h.2.2.2.2.2.2)]; simp

theorem psm_tSame (t u : Tn) : psm 64 t u = tSame t u := by
  rw [psm_eq]
  unfold tSame
  rw [Bool.eq_iff_iff]
  simp only [Bool.and_eq_true, decide_eq_true_eq, tdeep_ht]
  constructor
  · rintro ⟨a, b⟩; exact ⟨b, by rw [← tsame_ht t u a]; exact b, a⟩
  · rintro ⟨a, b, c⟩; exact ⟨c, a⟩

end Go.Proofs.YtgkablmglkagfaaGreatDoor

/- The contract of slices.EqualFunc at nodes, of whatever function value it is handed. -/
namespace Go.Proofs.YtgkablmglkagfaaGreatDoor
open Go.RowKit
set_option linter.unusedVariables false
set_option linter.unusedSimpArgs false

end Go.Proofs.YtgkablmglkagfaaGreatDoor

/- The contracts of the program's own node.Same and its closures. -/
namespace Go.Proofs.YtgkablmglkagfaaGreatDoor
open Go.RowKit
set_option linter.unusedVariables false
set_option linter.unusedSimpArgs false

theorem blk_cell {w : World} {g : Nat} {cs : Array Value} {t : TypeId} {fr : Nat × Nat} (h : w.heap[g]? = some (.cells cs t fr)) (i : Nat) (v : Value) (hv : cs[i]? = some v) : w.cell? ⟨g, i, none⟩ = some v := by
  simp [World.cell?, h, hv]

end Go.Proofs.YtgkablmglkagfaaGreatDoor

/- The contract of the document's own quoted text (the reference's Text), over the turned text. -/
namespace Go.Proofs.YtgkablmglkagfaaGreatDoor
open Go.RowKit
set_option linter.unusedVariables false
set_option linter.unusedSimpArgs false

theorem flat_take (zs : List Int) (k : Nat) (h : k < zs.length) : (zs.take (k + 1)).flatMap qch = (zs.take k).flatMap qch ++ qch (zs.getD k 0) := by
  rw [List.take_succ_eq_append_getElem h, List.flatMap_append]
  simp [List.getD, List.getElem?_eq_getElem h]

end Go.Proofs.YtgkablmglkagfaaGreatDoor

/- The contracts of the program's own quote.appendSign and quote.Text, over the turned text. -/
namespace Go.Proofs.YtgkablmglkagfaaGreatDoor
open Go.RowKit
set_option linter.unusedVariables false
set_option linter.unusedSimpArgs false

theorem lits_bs (w : World) (C : Array Value) (zs : List Int) (n : Nat) (hC : C.toList = zs.map (Value.int .u8)) (hn : zs.length = n) (h1 : n ≤ 1000) (hb : ∀ c ∈ zs, 0 ≤ c ∧ c ≤ 255) : Bs (w.alloc (.cells C 5)) (some ⟨w.heap.size, 0, none⟩) n n zs := by
  refine Bs.of_owns (zs := zs) (base := w.heap.size) (n := n) ?_ hb
  have hs : C.size = n := by
    have := congrArg List.length hC
    simp at this
    omega
  rw [← hC]
  exact lit_row w 5 C n hs h1

theorem own_alloc {W : World} {base e sz n : Nat} {v : Value} {xs : List Value} (h : W.ownsRow base e sz v n xs) (o : Obj) : (W.alloc o).ownsRow base e sz v n xs :=
  own_below h ((Below.refl _ _).alloc (Nat.le_refl _) _)

/-- What a way of appendSign ends in: the signs stand behind what was there. -/
def SignEnd (base n : Nat) (xs : List Value) (w : World) (o : List Int) (e : Ending) (w' : World) : Prop :=
  ∃ v', e = .returned v' ∧ w'.ownsRow base 5 1 v' (n + o.length) (xs ++ o.map (Value.int .u8)) ∧ Below base w w'

theorem and7_u8 : ∀ a : Fin 256, bits .and .u8 (a.val : Int) 7 = ((a.val % 8 : Nat) : Int) := by decide +kernel

theorem bits_and7 (x : Int) (h0 : 0 ≤ x) (h1 : x ≤ 255) : bits .and .u8 x 7 = x % 8 := by
  have := and7_u8 ⟨x.toNat, by omega⟩
  simp only at this
  rw [show ((x.toNat : Nat) : Int) = x by omega] at this
  rw [this]; omega

end Go.Proofs.YtgkablmglkagfaaGreatDoor

/- The contracts of the program's own digits: the closure that quote.digitsOf answers, quote.takeDigits, over the turned text. -/
namespace Go.Proofs.YtgkablmglkagfaaGreatDoor
open Go.RowKit
set_option linter.unusedVariables false
set_option linter.unusedSimpArgs false

/-- What the closure tells as a sign's worth: the base itself, if it is no digit. -/
def pdv (base c : Int) : Int := if dgt c = 99 then base else dgt c

theorem pdv_in {base c : Int} (h : dgt c < base) (hb : base ≤ 16) : pdv base c = dgt c := by unfold pdv; rw [if_neg (by omega)]

theorem pdv_bd (base c : Int) (h0 : 0 ≤ base) (h1 : base ≤ 16) : 0 ≤ pdv base c ∧ pdv base c ≤ 16 := by
  have h : dgt c = 99 ∨ (0 ≤ dgt c ∧ dgt c ≤ 15) := by unfold dgt; repeat' split <;> omega
  unfold pdv
  split <;> omega

theorem Below.drewN'' (w : World) : ∀ n, Below w.heap.size w (w.drewN n)
  | 0 => Below.refl _ _
  | n + 1 => (Below.drewN'' w n).drew

set_option maxHeartbeats 1000000 in
theorem pclo_1 (c base : Int) (g : Nat) (w : World) (h0 : 48 ≤ c) (h1 : c ≤ 57) (b0 : 0 ≤ base) (b1 : base ≤ 16) (hc : w.cell? ⟨g, 0, none⟩ = some (.int .u64 base)) :
    Calls Tryz.prog 94 #[.int .u8 c, .pointer (some ⟨g, 0, none⟩)] w fun e w' => e = .returned (.tuple #[.int .u64 (c - 48), .bool (decide (c - 48 < base))]) ∧ ∃ n, w' = w.drewN n := by
  go_enter Tryz.func94, Tryz.ntmps94
  go_wp2
  go_quiet (fail)
  rename_i K _ hK
  refine hK _ _ ?_
  go_wp2
  go_ret2
  exact ⟨rfl, _, rfl⟩

set_option maxHeartbeats 1000000 in
theorem pclo_2 (c base : Int) (g : Nat) (w : World) (h0 : 97 ≤ c) (h1 : c ≤ 102) (b0 : 0 ≤ base) (b1 : base ≤ 16) (hc : w.cell? ⟨g, 0, none⟩ = some (.int .u64 base)) :
    Calls Tryz.prog 94 #[.int .u8 c, .pointer (some ⟨g, 0, none⟩)] w fun e w' => e = .returned (.tuple #[.int .u64 (c - 97 + 10), .bool (decide (c - 97 + 10 < base))]) ∧ ∃ n, w' = w.drewN n := by
  have e1 : ¬ c ≤ 57 := by omega
  go_enter Tryz.func94, Tryz.ntmps94
  go_wp2
  go_quiet (fail)
  rename_i K _ hK
  refine hK _ _ ?_
  go_wp2
  go_ret2
  exact ⟨rfl, _, rfl⟩

set_option maxHeartbeats 1000000 in
theorem pclo_3 (c base : Int) (g : Nat) (w : World) (h0 : 65 ≤ c) (h1 : c ≤ 70) (b0 : 0 ≤ base) (b1 : base ≤ 16) (hc : w.cell? ⟨g, 0, none⟩ = some (.int .u64 base)) :
    Calls Tryz.prog 94 #[.int .u8 c, .pointer (some ⟨g, 0, none⟩)] w fun e w' => e = .returned (.tuple #[.int .u64 (c - 65 + 10), .bool (decide (c - 65 + 10 < base))]) ∧ ∃ n, w' = w.drewN n := by
  have e2 : ¬ 97 ≤ c := by omega
  have e1 : ¬ c ≤ 57 := by omega
  go_enter Tryz.func94, Tryz.ntmps94
  go_wp2
  go_quiet (fail)
  rename_i K _ hK
  refine hK _ _ ?_
  go_wp2
  go_ret2
  exact ⟨rfl, _, rfl⟩

set_option maxHeartbeats 1000000 in
theorem pclo_4 (c base : Int) (g : Nat) (w : World) (h0 : 0 ≤ c) (h1 : c ≤ 255) (k1 : ¬ (48 ≤ c ∧ c ≤ 57)) (k2 : ¬ (97 ≤ c ∧ c ≤ 102)) (k3 : ¬ (65 ≤ c ∧ c ≤ 70)) (b0 : 0 ≤ base) (b1 : base ≤ 16) (hc : w.cell? ⟨g, 0, none⟩ = some (.int .u64 base)) :
    Calls Tryz.prog 94 #[.int .u8 c, .pointer (some ⟨g, 0, none⟩)] w fun e w' => e = .returned (.tuple #[.int .u64 base, .bool false]) ∧ ∃ n, w' = w.drewN n := by
  have hways : c < 48 ∨ (57 < c ∧ c < 65) ∨ (70 < c ∧ c < 97) ∨ 102 < c := by omega
  clear k1 k2 k3
  rcases hways with h | ⟨h, h'⟩ | ⟨h, h'⟩ | h
  all_goals
    go_enter Tryz.func94, Tryz.ntmps94
    go_wp2
    go_quiet (fail)
    first | (rename_i K _ hK; refine hK _ _ ?_) | (rename_i K _ hK _; refine hK _ _ ?_) | (rename_i K _ hK _ _; refine hK _ _ ?_) | (rename_i K _ hK _ _ _; refine hK _ _ ?_)
    go_wp2
    go_ret2
    exact ⟨by simp, _, rfl⟩

theorem pclo_any (c base : Int) (g : Nat) (w : World) (h0 : 0 ≤ c) (h1 : c ≤ 255) (b0 : 0 ≤ base) (b1 : base ≤ 16) (hc : w.cell? ⟨g, 0, none⟩ = some (.int .u64 base)) :
    Calls Tryz.prog 94 #[.int .u8 c, .pointer (some ⟨g, 0, none⟩)] w fun e w' => e = .returned (.tuple #[.int .u64 (pdv base c), .bool (decide (dgt c < base))]) ∧ Below w.heap.size w w' := by
  have fin : ∀ (x : Int) (y : Bool), x = pdv base c → y = decide (dgt c < base) → Calls Tryz.prog 94 #[.int .u8 c, .pointer (some ⟨g, 0, none⟩)] w (fun e w' => e = .returned (.tuple #[.int .u64 x, .bool y]) ∧ ∃ n, w' = w.drewN n) →
      Calls Tryz.prog 94 #[.int .u8 c, .pointer (some ⟨g, 0, none⟩)] w fun e w' => e = .returned (.tuple #[.int .u64 (pdv base c), .bool (decide (dgt c < base))]) ∧ Below w.heap.size w w' := by
    intro x y hx hy h
    refine h.mono ?_
    rintro e w' ⟨rfl, n, rfl⟩
    exact ⟨by rw [hx, hy], Below.drewN'' _ _⟩
  by_cases k1 : 48 ≤ c ∧ c ≤ 57
  · have e := dgt_1 k1
    exact fin _ _ (by unfold pdv; rw [e, if_neg (by omega)]) (by rw [e]) (pclo_1 c base g w k1.1 k1.2 b0 b1 hc)
  by_cases k2 : 97 ≤ c ∧ c ≤ 102
  · have e := dgt_2 k2
    exact fin _ _ (by unfold pdv; rw [e, if_neg (by omega)]; omega) (by rw [e, show c - 97 + 10 = c - 87 by omega]) (pclo_2 c base g w k2.1 k2.2 b0 b1 hc)
  by_cases k3 : 65 ≤ c ∧ c ≤ 70
  · have e := dgt_3 k3
    exact fin _ _ (by unfold pdv; rw [e, if_neg (by omega)]; omega) (by rw [e, show c - 65 + 10 = c - 55 by omega]) (pclo_3 c base g w k3.1 k3.2 b0 b1 hc)
  · have e := dgt_4 k1 k2 k3
    exact fin _ _ (by unfold pdv; rw [e, if_pos rfl]) (by rw [e]; simp; omega) (pclo_4 c base g w h0 h1 k1 k2 k3 b0 b1 hc)

/-- What holds at takeDigits' label: k digits are read. -/
def DJ (w : World) (S : ByteArray) (zs : List Int) (base : Int) (most : Nat) (a' : Act) (w' : World) : Prop :=
  ∃ (n : Int) (k : Nat) (us : Nat → Value), a' = { tmps := #[.string S, .int .u32 base, .int .i64 (most : Int), undef, undef, undef, .int .u32 0, .int .i64 0, .func (.func 94) #[] #[.pointer (some ⟨w.heap.size, 0, none⟩)], .int .u32 n, .int .i64 (k : Int), us 11, us 12, us 13, us 14, us 15, us 16, us 17, us 18, us 19, us 20, us 21, us 22, us 23, us 24, us 25, us 26, us 27, us 28, us 29, us 30, us 31, us 32, us 33, us 34, us 35, us 36, us 37, us 38, us 39, us 40, us 41, us 42, us 43], defers := [] } ∧
    0 ≤ n ∧ k ≤ most ∧ k ≤ zs.length ∧ Hid (n < ((16 ^ k : Nat) : Int)) ∧ Hid (qrn base most zs 0 = ((qrn base (most - k) (zs.drop k) n).1, (qrn base (most - k) (zs.drop k) n).2 + k)) ∧ w.heap.size < w'.heap.size ∧ w'.cell? ⟨w.heap.size, 0, none⟩ = some (.int .u64 base) ∧ Below w.heap.size w w'

theorem DJ.mk {w : World} {S : ByteArray} {zs : List Int} {base : Int} {most : Nat} {a' : Act} {w' : World} (n : Int) (k : Nat) (us : Nat → Value) (_hu : us = fun k => a'.tmps.getD k undef)
    (h1 : a' = { tmps := #[.string S, .int .u32 base, .int .i64 (most : Int), undef, undef, undef, .int .u32 0, .int .i64 0, .func (.func 94) #[] #[.pointer (some ⟨w.heap.size, 0, none⟩)], .int .u32 n, .int .i64 (k : Int), us 11, us 12, us 13, us 14, us 15, us 16, us 17, us 18, us 19, us 20, us 21, us 22, us 23, us 24, us 25, us 26, us 27, us 28, us 29, us 30, us 31, us 32, us 33, us 34, us 35, us 36, us 37, us 38, us 39, us 40, us 41, us 42, us 43], defers := [] })
    (h2 : 0 ≤ n) (h3 : k ≤ most) (h4 : k ≤ zs.length) (h5 : n < ((16 ^ k : Nat) : Int)) (h6 : qrn base most zs 0 = ((qrn base (most - k) (zs.drop k) n).1, (qrn base (most - k) (zs.drop k) n).2 + k)) (h7 : w.heap.size < w'.heap.size) (h8 : w'.cell? ⟨w.heap.size, 0, none⟩ = some (.int .u64 base)) (h9 : Below w.heap.size w w') : DJ w S zs base most a' w' :=
  ⟨n, k, us, h1, h2, h3, h4, h5, h6, h7, h8, h9⟩

end Go.Proofs.YtgkablmglkagfaaGreatDoor

/- Contracts of Go's own library at this program, each one application of the guide's: strings_HasPrefix. -/
namespace Go.Proofs.YtgkablmglkagfaaGreatDoor
open Go.Shelf

def Sh.lays99_ren : Go.Shelf.Ren := ⟨fun | 99 => 93 | 206 => 74 | n => n, fun | 9 => 9 | 4 => 4 | 3 => 3 | n => n, fun | n => n⟩

theorem Sh.lays99 : Go.Proofs.Lays.n99 Tryz.prog Sh.lays99_ren := {
  mixed := by kernel_rfl
  f99 := Tryz.func93.trans (congrArg some (by kernel_rfl))
  f206 := Tryz.func74.trans (congrArg some (by kernel_rfl))
  t3 := Tryz.underlying3
  a3 := Tryz.isAgg3
  z3 := Tryz.sizeOf3
  v3 := Tryz.zeroValue3
  t4 := Tryz.underlying4
  a4 := Tryz.isAgg4
  z4 := Tryz.sizeOf4
  v4 := Tryz.zeroValue4
  t9 := Tryz.underlying9
  a9 := Tryz.isAgg9
  z9 := Tryz.sizeOf9
  v9 := Tryz.zeroValue9 }

open Go.RowKit Go.Lib in
theorem Sh.strings_HasPrefix (s p : ByteArray) (w : World) :
    Calls Tryz.prog 93 #[.string s, .string p] w fun e w' => e = .returned (.bool (Lib.hasPrefix s.data.toList p.data.toList)) ∧ w' = w := Any.strings_HasPrefix Sh.lays99 s p w

end Go.Proofs.YtgkablmglkagfaaGreatDoor

/- The contracts of the program's own quote.splitBase and quote.Number, over the turned text. -/
namespace Go.Proofs.YtgkablmglkagfaaGreatDoor
open Go.RowKit
set_option linter.unusedVariables false
set_option linter.unusedSimpArgs false

theorem u8_beq (x a : Int) (hx : 0 ≤ x ∧ x ≤ 255) (ha : 0 ≤ a ∧ a ≤ 255) : (UInt8.ofNat x.toNat == UInt8.ofNat a.toNat) = decide (a = x) := by
  rw [Bool.eq_iff_iff]
  simp only [beq_iff_eq, decide_eq_true_eq]
  exact ⟨fun h => (u8_inj hx ha h).symm, fun h => by rw [h]⟩

/-- Does a text begin with two signs? -/
theorem hp_two (zs : List Int) (hz : ∀ i, 0 ≤ zs.getD i 0 ∧ zs.getD i 0 ≤ 255) (x y : Int) (hx : 0 ≤ x ∧ x ≤ 255) (hy : 0 ≤ y ∧ y ≤ 255) :
    Lib.hasPrefix (strOfNums zs).data.toList (strOfNums [x, y]).data.toList = decide (2 ≤ zs.length ∧ zs.getD 0 0 = x ∧ zs.getD 1 0 = y) := by
  rw [strOfNums_data, strOfNums_data]
  match zs, hz with
  | [], _ => simp [Lib.hasPrefix, List.isPrefixOf]
  | [a], _ => simp [Lib.hasPrefix, List.isPrefixOf]
  | a :: b :: r, hz =>
    have ha : 0 ≤ a ∧ a ≤ 255 := hz 0
    have hb : 0 ≤ b ∧ b ≤ 255 := hz 1
    simp only [Lib.hasPrefix, List.map_cons, List.map_nil, List.isPrefixOf, Bool.and_true, u8_beq x a hx ha, u8_beq y b hy hb]
    rw [Bool.eq_iff_iff]
    simp [List.getD]

theorem php (zs : List Int) (w : World) (hz : Hid (∀ i, 0 ≤ zs.getD i 0 ∧ zs.getD i 0 ≤ 255)) (x y : Int) (hx : 0 ≤ x ∧ x ≤ 255) (hy : 0 ≤ y ∧ y ≤ 255) :
    Calls Tryz.prog 93 #[.string (strOfNums zs), .string (strOfNums [x, y])] w fun e w' => e = .returned (.bool (decide (2 ≤ zs.length ∧ zs.getD 0 0 = x ∧ zs.getD 1 0 = y))) ∧ w = w' := by
  refine (Sh.strings_HasPrefix (strOfNums zs) (strOfNums [x, y]) w).mono ?_
  rintro e w' ⟨rfl, rfl⟩
  exact ⟨by rw [hp_two zs hz.out x y hx hy], rfl⟩

/-- The digits that must write a number, and their base. -/
def qsp (s : List Int) : List Int × Int :=
  if 2 ≤ s.length ∧ s.getD 0 0 = 48 ∧ (s.getD 1 0 = 120 ∨ s.getD 1 0 = 88) then (s.drop 2, 16)
  else if 1 < s.length ∧ s.getD 0 0 = 48 then (s.drop 1, 8) else (s, 10)

theorem qnum_qsp (s : List Int) : qnum s = if (qsp s).1 = [] then (0, false) else qnm (qsp s).2 (qsp s).1 0 := by
  unfold qnum qsp
  by_cases h1 : 2 ≤ s.length ∧ s.getD 0 0 = 48 ∧ (s.getD 1 0 = 120 ∨ s.getD 1 0 = 88)
  · rw [if_pos h1]
    by_cases h2 : 2 < s.length
    · rw [if_pos ⟨h2, h1.2⟩, if_neg]
      intro h
      have := congrArg List.length h
      simp only [List.length_drop, List.length_nil] at this
      omega
    · rw [if_neg (fun h => h2 h.1), if_pos ⟨by omega, h1.2.1⟩, if_pos (List.drop_eq_nil_of_le (by omega))]
      have hd : s.drop 1 = [s.getD 1 0] := by
        rw [drop_at (by omega), List.drop_eq_nil_of_le (by omega)]
      rw [hd, qnm, if_pos]
      left
      rcases h1.2.2 with h | h <;> (rw [h]; decide)
  · rw [if_neg h1, if_neg (fun h => h1 ⟨by omega, h.2⟩)]
    by_cases h2 : 1 < s.length ∧ s.getD 0 0 = 48
    · rw [if_pos h2, if_pos h2, if_neg]
      intro h
      have := congrArg List.length h
      simp only [List.length_drop, List.length_nil] at this
      omega
    · rw [if_neg h2, if_neg h2]

theorem psb_1 (S T : ByteArray) (n : Nat) (w : World) (hsz : S.size = n) (hn : 2 ≤ n) (hn2 : (n : Int) ≤ 100000000) (hex : S.extract 2 n = T) (P : Hid (∀ W, Calls Tryz.prog 93 #[.string S, .string { data := #[48, 120] }] W fun e w' => e = .returned (.bool true) ∧ W = w')) :
    Calls Tryz.prog 79 #[.string S] w fun e w' => e = .returned (.tuple #[.string T, .int .u64 16]) ∧ w = w' := by
  go_enter Tryz.func79, Tryz.ntmps79
  go_wp2_with fail
  refine Calls.mono (P.out _) ?_
  rintro e w1 ⟨rfl, rfl⟩
  go_wp2
  go_ret2
  exact ⟨rfl, rfl⟩

theorem psb_2 (S T : ByteArray) (n : Nat) (w : World) (hsz : S.size = n) (hn : 2 ≤ n) (hn2 : (n : Int) ≤ 100000000) (hex : S.extract 2 n = T) (P : Hid (∀ W, Calls Tryz.prog 93 #[.string S, .string { data := #[48, 120] }] W fun e w' => e = .returned (.bool false) ∧ W = w')) (Q : Hid (∀ W, Calls Tryz.prog 93 #[.string S, .string { data := #[48, 88] }] W fun e w' => e = .returned (.bool true) ∧ W = w')) :
    Calls Tryz.prog 79 #[.string S] w fun e w' => e = .returned (.tuple #[.string T, .int .u64 16]) ∧ w = w' := by
  go_enter Tryz.func79, Tryz.ntmps79
  go_wp2_with fail
  refine Calls.mono (P.out _) ?_
  rintro e w1 ⟨rfl, rfl⟩
  go_wp2_with fail
  refine Calls.mono (Q.out _) ?_
  rintro e w1 ⟨rfl, rfl⟩
  go_wp2
  go_ret2
  exact ⟨rfl, rfl⟩

theorem psb_3 (S T : ByteArray) (n : Nat) (w : World) (hsz : S.size = n) (hn : 1 < n) (hn2 : (n : Int) ≤ 100000000) (hat : ((S[0]'(by omega)).toNat : Int) = 48) (hex : S.extract 1 n = T) (P : Hid (∀ W, Calls Tryz.prog 93 #[.string S, .string { data := #[48, 120] }] W fun e w' => e = .returned (.bool false) ∧ W = w')) (Q : Hid (∀ W, Calls Tryz.prog 93 #[.string S, .string { data := #[48, 88] }] W fun e w' => e = .returned (.bool false) ∧ W = w')) :
    Calls Tryz.prog 79 #[.string S] w fun e w' => e = .returned (.tuple #[.string T, .int .u64 8]) ∧ w = w' := by
  go_enter Tryz.func79, Tryz.ntmps79
  go_wp2_with fail
  refine Calls.mono (P.out _) ?_
  rintro e w1 ⟨rfl, rfl⟩
  go_wp2_with fail
  refine Calls.mono (Q.out _) ?_
  rintro e w1 ⟨rfl, rfl⟩
  go_wp2
  go_ret2
  exact ⟨rfl, rfl⟩

theorem psb_4 (S : ByteArray) (n : Nat) (w : World) (hsz : S.size = n) (hn : n ≤ 1) (P : Hid (∀ W, Calls Tryz.prog 93 #[.string S, .string { data := #[48, 120] }] W fun e w' => e = .returned (.bool false) ∧ W = w')) (Q : Hid (∀ W, Calls Tryz.prog 93 #[.string S, .string { data := #[48, 88] }] W fun e w' => e = .returned (.bool false) ∧ W = w')) :
    Calls Tryz.prog 79 #[.string S] w fun e w' => e = .returned (.tuple #[.string S, .int .u64 10]) ∧ w = w' := by
  have hn1 : ¬ (1 : Int) < (n : Int) := by omega
  go_enter Tryz.func79, Tryz.ntmps79
  go_wp2_with fail
  refine Calls.mono (P.out _) ?_
  rintro e w1 ⟨rfl, rfl⟩
  go_wp2_with fail
  refine Calls.mono (Q.out _) ?_
  rintro e w1 ⟨rfl, rfl⟩
  go_wp2
  go_ret2
  exact ⟨rfl, rfl⟩

theorem psb_5 (S : ByteArray) (n : Nat) (c : Int) (w : World) (hsz : S.size = n) (hn : 1 < n) (hn2 : (n : Int) ≤ 100000000) (hat : ((S[0]'(by omega)).toNat : Int) = c) (hc : (c == 48) = false) (P : Hid (∀ W, Calls Tryz.prog 93 #[.string S, .string { data := #[48, 120] }] W fun e w' => e = .returned (.bool false) ∧ W = w')) (Q : Hid (∀ W, Calls Tryz.prog 93 #[.string S, .string { data := #[48, 88] }] W fun e w' => e = .returned (.bool false) ∧ W = w')) :
    Calls Tryz.prog 79 #[.string S] w fun e w' => e = .returned (.tuple #[.string S, .int .u64 10]) ∧ w = w' := by
  go_enter Tryz.func79, Tryz.ntmps79
  go_wp2_with fail
  refine Calls.mono (P.out _) ?_
  rintro e w1 ⟨rfl, rfl⟩
  go_wp2_with fail
  refine Calls.mono (Q.out _) ?_
  rintro e w1 ⟨rfl, rfl⟩
  go_wp2
  go_ret2
  exact ⟨rfl, rfl⟩

theorem psb_any (zs : List Int) (w : World) (hz : Hid (∀ i, 0 ≤ zs.getD i 0 ∧ zs.getD i 0 ≤ 255)) (hlen : (zs.length : Int) ≤ 100000000) :
    Calls Tryz.prog 79 #[.string (strOfNums zs)] w fun e w' => e = .returned (.tuple #[.string (strOfNums (qsp zs).1), .int .u64 (qsp zs).2]) ∧ w = w' := by
  have hsz := strOfNums_size zs
  have p := fun W => php zs W hz 48 120 (by omega) (by omega)
  have q := fun W => php zs W hz 48 88 (by omega) (by omega)
  rw [show strOfNums [48, 120] = ⟨#[48, 120]⟩ from rfl] at p
  rw [show strOfNums [48, 88] = ⟨#[48, 88]⟩ from rfl] at q
  by_cases h2 : 2 ≤ zs.length ∧ zs.getD 0 0 = 48 ∧ (zs.getD 1 0 = 120 ∨ zs.getD 1 0 = 88)
  · have hex : (strOfNums zs).extract 2 zs.length = strOfNums (zs.drop 2) := by rw [str_cut, List.take_of_length_le (by simp)]
    rw [qsp, if_pos h2]
    obtain ⟨hl, hv, h⟩ := h2
    by_cases hx : zs.getD 1 0 = 120
    · rw [show decide (2 ≤ zs.length ∧ zs.getD 0 0 = 48 ∧ zs.getD 1 0 = 120) = true from decide_eq_true ⟨hl, hv, hx⟩] at p
      exact psb_1 _ _ _ w hsz hl hlen hex p
    · rw [show decide (2 ≤ zs.length ∧ zs.getD 0 0 = 48 ∧ zs.getD 1 0 = 120) = false from decide_eq_false (fun h => hx h.2.2)] at p
      rw [show decide (2 ≤ zs.length ∧ zs.getD 0 0 = 48 ∧ zs.getD 1 0 = 88) = true from decide_eq_true ⟨hl, hv, h.resolve_left hx⟩] at q
      exact psb_2 _ _ _ w hsz hl hlen hex p q
  · rw [show decide (2 ≤ zs.length ∧ zs.getD 0 0 = 48 ∧ zs.getD 1 0 = 120) = false from decide_eq_false (fun h => h2 ⟨h.1, h.2.1, .inl h.2.2⟩)] at p
    rw [show decide (2 ≤ zs.length ∧ zs.getD 0 0 = 48 ∧ zs.getD 1 0 = 88) = false from decide_eq_false (fun h => h2 ⟨h.1, h.2.1, .inr h.2.2⟩)] at q
    rw [qsp, if_neg h2]
    by_cases h1 : 1 < zs.length
    · have hat := str_at zs hz.out 0 (by rw [hsz]; omega)
      by_cases hv : zs.getD 0 0 = 48
      · have hex : (strOfNums zs).extract 1 zs.length = strOfNums (zs.drop 1) := by rw [str_cut, List.take_of_length_le (by simp)]
        rw [if_pos ⟨h1, hv⟩]
        rw [hv] at hat
        exact psb_3 _ _ _ w hsz h1 hlen hat hex p q
      · rw [if_neg (fun h => hv h.2)]
        exact psb_5 _ _ _ w hsz h1 hlen hat (by simpa using hv) p q
    · rw [if_neg (fun h => h1 h.1)]
      exact psb_4 _ _ w hsz (by omega) p q

set_option maxHeartbeats 1000000 in
theorem pnum_10 (S : ByteArray) (D : List Int) (w : World) (hz : Hid (∀ i, 0 ≤ D.getD i 0 ∧ D.getD i 0 ≤ 255)) (hlen : (D.length : Int) ≤ 100000000) (hD : D ≠ [])
    (P : Hid (∀ W, Calls Tryz.prog 79 #[.string S] W fun e w' => e = .returned (.tuple #[.string (strOfNums D), .int .u64 10]) ∧ W = w')) :
    Calls Tryz.prog 65 #[.string S] w fun e w' => e = .returned (.tuple #[.int .u64 (qnm 10 D 0).1, .bool (qnm 10 D 0).2]) ∧ Below w.heap.size w w' := by
  have hsz := strOfNums_size D
  have hne : ((strOfNums D).toList == []) = false := by cases D with | nil => exact absurd rfl hD | cons a b => exact str_ne a b
  clear hD
  have HA : Hid (∀ k, (h : k < D.length) → (((strOfNums D)[k]'(by rw [hsz]; exact h)).toNat : Int) = D.getD k 0) := fun k h => str_at D hz.out k _
  have hmf : ∀ (fn : Fn) (first cap : Array Value) (w : World), (Instr.makeFunc fn first cap).run Tryz.prog w = .ok (.func fn first cap) w := fun _ _ _ _ => rfl
  obtain ⟨R, hR⟩ : ∃ R, R = qnm 10 D 0 := ⟨_, rfl⟩
  rw [← hR]
  have HR : Hid (R = qnm 10 (D.drop 0) 0) := hR
  clear hR
  generalize strOfNums D = DS at hsz hne HA P
  go_enter Tryz.func65, Tryz.ntmps65
  go_wp2_with fail
  refine Calls.mono (P.out _) ?_
  rintro e w1 ⟨rfl, rfl⟩
  go_wp2
  go_loopw [7, 22] (fun v i wr => ∃ (n : Int) (k : Nat), v = .int .u64 n ∧ i = .int .i64 (k : Int) ∧ 0 ≤ n ∧ n ≤ 18446744073709551615 ∧ k ≤ D.length ∧ Hid (R = qnm 10 (D.drop k) n) ∧ w.heap.size < wr.heap.size ∧ wr.cell? ⟨w.heap.size, 0, none⟩ = some (.int .u64 10) ∧ Below w.heap.size w wr) (fun _ i _ => D.length - (intOf i).toNat)
  case atStart => exact ⟨0, 0, rfl, rfl, by omega, by omega, by omega, HR, by simp, by simp, (Below.refl _ _).alloc (Nat.le_refl _) _⟩
  case round =>
    obtain ⟨n, k, rfl, rfl, n0, n1, hkl, HQ, hlt, hcell, hb⟩ := hrel
    by_cases hk : k < D.length
    · have hat := HA.out k hk
      obtain ⟨c0, c255⟩ := hz.out k
      have HQ' := HQ.out
      rw [drop_at hk, qnm] at HQ'
      generalize D.getD k 0 = c at hat c0 c255 HQ'
      have q := pclo_any c 10 w.heap.size wr c0 c255 (by omega) (by omega) hcell
      obtain ⟨d0, d99⟩ := dgt_bd c
      have HQ2 : Hid _ := HQ'
      clear HQ' HQ HR
      by_cases hbb : 10 ≤ dgt c
      · have E : Hid (R = (0, false)) := by have := HQ2.out; rw [if_pos (Or.inl hbb)] at this; exact this
        clear HQ2
        rw [show decide (dgt c < 10) = false by simpa using hbb] at q
        generalize pdv 10 c = d at q
        have Q : Hid _ := q
        clear q
        go_wp2_with fail
        refine Calls.mono Q.out ?_
        rintro e w1 ⟨rfl, hb1⟩
        go_wp2
        go_ret2
        exact ⟨by rw [E.out]; rfl, hb.trans (hb1.mono hb.size)⟩
      · have hd : dgt c < 10 := by omega
        rw [pdv_in hd (by omega), show decide (dgt c < 10) = true by simpa using hd] at q
        generalize dgt c = d at q d0 d99 HQ2 hbb hd
        have Q : Hid _ := q
        clear q
        by_cases ho : (18446744073709551615 - d) / 10 < n
        · have E : Hid (R = (0, false)) := by have := HQ2.out; rw [if_pos (Or.inr ho)] at this; exact this
          clear HQ2
          go_wp2_with fail
          refine Calls.mono Q.out ?_
          rintro e w1 ⟨rfl, hb1⟩
          go_wp2
          go_ret2
          exact ⟨by rw [E.out]; rfl, hb.trans (hb1.mono hb.size)⟩
        · have E : Hid (R = qnm 10 (D.drop (k + 1)) (n * 10 + d)) := by have := HQ2.out; rw [if_neg (by omega)] at this; exact this
          clear HQ2
          go_wp2_with fail
          refine Calls.mono Q.out ?_
          rintro e w1 ⟨rfl, hb1⟩
          go_wp2
          go_roundw
          case rel => first | exact ⟨n * 10 + d, k + 1, rfl, by go_num, by omega, by omega, by omega, E, Nat.lt_of_lt_of_le hlt hb1.size, (hb1.cell hlt).trans hcell, hb.trans (hb1.mono hb.size)⟩ | ((repeat apply Exists.intro); exact ⟨⟨n * 10 + d, k + 1, rfl, by go_num, by omega, by omega, by omega, E, Nat.lt_of_lt_of_le hlt hb1.size, (hb1.cell hlt).trans hcell, hb.trans (hb1.mono hb.size)⟩, rfl⟩)
          case measure => simp [intOf]; omega
    · obtain rfl : k = D.length := by omega
      have E : Hid (R = (n, true)) := by show _ = _; rw [HQ.out, List.drop_eq_nil_of_le (Nat.le_refl _)]; rfl
      clear HQ HR
      go_wp2
      go_ret2
      exact ⟨by rw [E.out]; rfl, hb⟩

set_option maxHeartbeats 1000000 in
theorem pnum_16 (S : ByteArray) (D : List Int) (w : World) (hz : Hid (∀ i, 0 ≤ D.getD i 0 ∧ D.getD i 0 ≤ 255)) (hlen : (D.length : Int) ≤ 100000000) (hD : D ≠ [])
    (P : Hid (∀ W, Calls Tryz.prog 79 #[.string S] W fun e w' => e = .returned (.tuple #[.string (strOfNums D), .int .u64 16]) ∧ W = w')) :
    Calls Tryz.prog 65 #[.string S] w fun e w' => e = .returned (.tuple #[.int .u64 (qnm 16 D 0).1, .bool (qnm 16 D 0).2]) ∧ Below w.heap.size w w' := by
  have hsz := strOfNums_size D
  have hne : ((strOfNums D).toList == []) = false := by cases D with | nil => exact absurd rfl hD | cons a b => exact str_ne a b
  clear hD
  have HA : Hid (∀ k, (h : k < D.length) → (((strOfNums D)[k]'(by rw [hsz]; exact h)).toNat : Int) = D.getD k 0) := fun k h => str_at D hz.out k _
  have hmf : ∀ (fn : Fn) (first cap : Array Value) (w : World), (Instr.makeFunc fn first cap).run Tryz.prog w = .ok (.func fn first cap) w := fun _ _ _ _ => rfl
  obtain ⟨R, hR⟩ : ∃ R, R = qnm 16 D 0 := ⟨_, rfl⟩
  rw [← hR]
  have HR : Hid (R = qnm 16 (D.drop 0) 0) := hR
  clear hR
  generalize strOfNums D = DS at hsz hne HA P
  go_enter Tryz.func65, Tryz.ntmps65
  go_wp2_with fail
  refine Calls.mono (P.out _) ?_
  rintro e w1 ⟨rfl, rfl⟩
  go_wp2
  go_loopw [7, 22] (fun v i wr => ∃ (n : Int) (k : Nat), v = .int .u64 n ∧ i = .int .i64 (k : Int) ∧ 0 ≤ n ∧ n ≤ 18446744073709551615 ∧ k ≤ D.length ∧ Hid (R = qnm 16 (D.drop k) n) ∧ w.heap.size < wr.heap.size ∧ wr.cell? ⟨w.heap.size, 0, none⟩ = some (.int .u64 16) ∧ Below w.heap.size w wr) (fun _ i _ => D.length - (intOf i).toNat)
  case atStart => exact ⟨0, 0, rfl, rfl, by omega, by omega, by omega, HR, by simp, by simp, (Below.refl _ _).alloc (Nat.le_refl _) _⟩
  case round =>
    obtain ⟨n, k, rfl, rfl, n0, n1, hkl, HQ, hlt, hcell, hb⟩ := hrel
    by_cases hk : k < D.length
    · have hat := HA.out k hk
      obtain ⟨c0, c255⟩ := hz.out k
      have HQ' := HQ.out
      rw [drop_at hk, qnm] at HQ'
      generalize D.getD k 0 = c at hat c0 c255 HQ'
      have q := pclo_any c 16 w.heap.size wr c0 c255 (by omega) (by omega) hcell
      obtain ⟨d0, d99⟩ := dgt_bd c
      have HQ2 : Hid _ := HQ'
      clear HQ' HQ HR
      by_cases hbb : 16 ≤ dgt c
      · have E : Hid (R = (0, false)) := by have := HQ2.out; rw [if_pos (Or.inl hbb)] at this; exact this
        clear HQ2
        rw [show decide (dgt c < 16) = false by simpa using hbb] at q
        generalize pdv 16 c = d at q
        have Q : Hid _ := q
        clear q
        go_wp2_with fail
        refine Calls.mono Q.out ?_
        rintro e w1 ⟨rfl, hb1⟩
        go_wp2
        go_ret2
        exact ⟨by rw [E.out]; rfl, hb.trans (hb1.mono hb.size)⟩
      · have hd : dgt c < 16 := by omega
        rw [pdv_in hd (by omega), show decide (dgt c < 16) = true by simpa using hd] at q
        generalize dgt c = d at q d0 d99 HQ2 hbb hd
        have Q : Hid _ := q
        clear q
        by_cases ho : (18446744073709551615 - d) / 16 < n
        · have E : Hid (R = (0, false)) := by have := HQ2.out; rw [if_pos (Or.inr ho)] at this; exact this
          clear HQ2
          go_wp2_with fail
          refine Calls.mono Q.out ?_
          rintro e w1 ⟨rfl, hb1⟩
          go_wp2
          go_ret2
          exact ⟨by rw [E.out]; rfl, hb.trans (hb1.mono hb.size)⟩
        · have E : Hid (R = qnm 16 (D.drop (k + 1)) (n * 16 + d)) := by have := HQ2.out; rw [if_neg (by omega)] at this; exact this
          clear HQ2
          go_wp2_with fail
          refine Calls.mono Q.out ?_
          rintro e w1 ⟨rfl, hb1⟩
          go_wp2
          go_roundw
          case rel => first | exact ⟨n * 16 + d, k + 1, rfl, by go_num, by omega, by omega, by omega, E, Nat.lt_of_lt_of_le hlt hb1.size, (hb1.cell hlt).trans hcell, hb.trans (hb1.mono hb.size)⟩ | ((repeat apply Exists.intro); exact ⟨⟨n * 16 + d, k + 1, rfl, by go_num, by omega, by omega, by omega, E, Nat.lt_of_lt_of_le hlt hb1.size, (hb1.cell hlt).trans hcell, hb.trans (hb1.mono hb.size)⟩, rfl⟩)
          case measure => simp [intOf]; omega
    · obtain rfl : k = D.length := by omega
      have E : Hid (R = (n, true)) := by show _ = _; rw [HQ.out, List.drop_eq_nil_of_le (Nat.le_refl _)]; rfl
      clear HQ HR
      go_wp2
      go_ret2
      exact ⟨by rw [E.out]; rfl, hb⟩

set_option maxHeartbeats 1000000 in
theorem pnum_8 (S : ByteArray) (D : List Int) (w : World) (hz : Hid (∀ i, 0 ≤ D.getD i 0 ∧ D.getD i 0 ≤ 255)) (hlen : (D.length : Int) ≤ 100000000) (hD : D ≠ [])
    (P : Hid (∀ W, Calls Tryz.prog 79 #[.string S] W fun e w' => e = .returned (.tuple #[.string (strOfNums D), .int .u64 8]) ∧ W = w')) :
    Calls Tryz.prog 65 #[.string S] w fun e w' => e = .returned (.tuple #[.int .u64 (qnm 8 D 0).1, .bool (qnm 8 D 0).2]) ∧ Below w.heap.size w w' := by
  have hsz := strOfNums_size D
  have hne : ((strOfNums D).toList == []) = false := by cases D with | nil => exact absurd rfl hD | cons a b => exact str_ne a b
  clear hD
  have HA : Hid (∀ k, (h : k < D.length) → (((strOfNums D)[k]'(by rw [hsz]; exact h)).toNat : Int) = D.getD k 0) := fun k h => str_at D hz.out k _
  have hmf : ∀ (fn : Fn) (first cap : Array Value) (w : World), (Instr.makeFunc fn first cap).run Tryz.prog w = .ok (.func fn first cap) w := fun _ _ _ _ => rfl
  obtain ⟨R, hR⟩ : ∃ R, R = qnm 8 D 0 := ⟨_, rfl⟩
  rw [← hR]
  have HR : Hid (R = qnm 8 (D.drop 0) 0) := hR
  clear hR
  generalize strOfNums D = DS at hsz hne HA P
  go_enter Tryz.func65, Tryz.ntmps65
  go_wp2_with fail
  refine Calls.mono (P.out _) ?_
  rintro e w1 ⟨rfl, rfl⟩
  go_wp2
  go_loopw [7, 22] (fun v i wr => ∃ (n : Int) (k : Nat), v = .int .u64 n ∧ i = .int .i64 (k : Int) ∧ 0 ≤ n ∧ n ≤ 18446744073709551615 ∧ k ≤ D.length ∧ Hid (R = qnm 8 (D.drop k) n) ∧ w.heap.size < wr.heap.size ∧ wr.cell? ⟨w.heap.size, 0, none⟩ = some (.int .u64 8) ∧ Below w.heap.size w wr) (fun _ i _ => D.length - (intOf i).toNat)
  case atStart => exact ⟨0, 0, rfl, rfl, by omega, by omega, by omega, HR, by simp, by simp, (Below.refl _ _).alloc (Nat.le_refl _) _⟩
  case round =>
    obtain ⟨n, k, rfl, rfl, n0, n1, hkl, HQ, hlt, hcell, hb⟩ := hrel
    by_cases hk : k < D.length
    · have hat := HA.out k hk
      obtain ⟨c0, c255⟩ := hz.out k
      have HQ' := HQ.out
      rw [drop_at hk, qnm] at HQ'
      generalize D.getD k 0 = c at hat c0 c255 HQ'
      have q := pclo_any c 8 w.heap.size wr c0 c255 (by omega) (by omega) hcell
      obtain ⟨d0, d99⟩ := dgt_bd c
      have HQ2 : Hid _ := HQ'
      clear HQ' HQ HR
      by_cases hbb : 8 ≤ dgt c
      · have E : Hid (R = (0, false)) := by have := HQ2.out; rw [if_pos (Or.inl hbb)] at this; exact this
        clear HQ2
        rw [show decide (dgt c < 8) = false by simpa using hbb] at q
        generalize pdv 8 c = d at q
        have Q : Hid _ := q
        clear q
        go_wp2_with fail
        refine Calls.mono Q.out ?_
        rintro e w1 ⟨rfl, hb1⟩
        go_wp2
        go_ret2
        exact ⟨by rw [E.out]; rfl, hb.trans (hb1.mono hb.size)⟩
      · have hd : dgt c < 8 := by omega
        rw [pdv_in hd (by omega), show decide (dgt c < 8) = true by simpa using hd] at q
        generalize dgt c = d at q d0 d99 HQ2 hbb hd
        have Q : Hid _ := q
        clear q
        by_cases ho : (18446744073709551615 - d) / 8 < n
        · have E : Hid (R = (0, false)) := by have := HQ2.out; rw [if_pos (Or.inr ho)] at this; exact this
          clear HQ2
          go_wp2_with fail
          refine Calls.mono Q.out ?_
          rintro e w1 ⟨rfl, hb1⟩
          go_wp2
          go_ret2
          exact ⟨by rw [E.out]; rfl, hb.trans (hb1.mono hb.size)⟩
        · have E : Hid (R = qnm 8 (D.drop (k + 1)) (n * 8 + d)) := by have := HQ2.out; rw [if_neg (by omega)] at this; exact this
          clear HQ2
          go_wp2_with fail
          refine Calls.mono Q.out ?_
          rintro e w1 ⟨rfl, hb1⟩
          go_wp2
          go_roundw
          case rel => first | exact ⟨n * 8 + d, k + 1, rfl, by go_num, by omega, by omega, by omega, E, Nat.lt_of_lt_of_le hlt hb1.size, (hb1.cell hlt).trans hcell, hb.trans (hb1.mono hb.size)⟩ | ((repeat apply Exists.intro); exact ⟨⟨n * 8 + d, k + 1, rfl, by go_num, by omega, by omega, by omega, E, Nat.lt_of_lt_of_le hlt hb1.size, (hb1.cell hlt).trans hcell, hb.trans (hb1.mono hb.size)⟩, rfl⟩)
          case measure => simp [intOf]; omega
    · obtain rfl : k = D.length := by omega
      have E : Hid (R = (n, true)) := by show _ = _; rw [HQ.out, List.drop_eq_nil_of_le (Nat.le_refl _)]; rfl
      clear HQ HR
      go_wp2
      go_ret2
      exact ⟨by rw [E.out]; rfl, hb⟩

set_option maxHeartbeats 1000000 in
theorem pnum_no (S T : ByteArray) (b : Int) (w : World) (hne : (T.toList == []) = true)
    (P : Hid (∀ W, Calls Tryz.prog 79 #[.string S] W fun e w' => e = .returned (.tuple #[.string T, .int .u64 b]) ∧ W = w')) :
    Calls Tryz.prog 65 #[.string S] w fun e w' => e = .returned (.tuple #[.int .u64 0, .bool false]) ∧ Below w.heap.size w w' := by
  go_enter Tryz.func65, Tryz.ntmps65
  go_wp2_with fail
  refine Calls.mono (P.out _) ?_
  rintro e w1 ⟨rfl, rfl⟩
  go_wp2
  go_ret2
  exact ⟨rfl, Below.refl _ _⟩

theorem pnum_any (zs : List Int) (w : World) (hz : Hid (∀ i, 0 ≤ zs.getD i 0 ∧ zs.getD i 0 ≤ 255)) (hlen : (zs.length : Int) ≤ 100000000) :
    Calls Tryz.prog 65 #[.string (strOfNums zs)] w fun e w' => e = .returned (.tuple #[.int .u64 (qnum zs).1, .bool (qnum zs).2]) ∧ Below w.heap.size w w' := by
  have p := fun W => psb_any zs W hz hlen
  rw [qnum_qsp]
  have hzd : ∀ j, Hid (∀ i, 0 ≤ (zs.drop j).getD i 0 ∧ (zs.drop j).getD i 0 ≤ 255) := fun j i => by rw [getD_drop']; exact hz.out _
  by_cases hD : (qsp zs).1 = []
  · rw [if_pos hD]
    exact pnum_no _ _ _ w (by rw [hD, str_list]; rfl) p
  rw [if_neg hD]
  revert p hD
  unfold qsp
  split
  · intro p hD; exact pnum_16 _ _ w (hzd 2) (by simp only [List.length_drop]; omega) hD p
  split
  · intro p hD; exact pnum_8 _ _ w (hzd 1) (by simp only [List.length_drop]; omega) hD p
  · intro p hD; exact pnum_10 _ _ w hz hlen hD p

end Go.Proofs.YtgkablmglkagfaaGreatDoor
