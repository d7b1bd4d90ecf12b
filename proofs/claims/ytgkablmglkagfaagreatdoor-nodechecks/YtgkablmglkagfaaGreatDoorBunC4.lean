/- Put together by a program out of these texts of mine: TMem, TMath, TShort. -/
import Derived.Deep.Slices
import Derived.Test.YtgkablmglkagfaaGreatDoorBunC3

/- Nodes in memory: a tree, that it lies in a world, and how one that came in is opened. -/
namespace Go.Proofs.YtgkablmglkagfaaGreatDoor
open Go.RowKit
set_option linter.unusedVariables false
set_option linter.unusedSimpArgs false

/-- A node, and where its kids lie. -/
inductive Tn where
  | mk (kind : Int) (text : List Int) (n m a pos : Int) (doc : List Int) (ad : Option Addr) (cap : Nat) (kids : List Tn) : Tn

def Tn.kind : Tn → Int | .mk k _ _ _ _ _ _ _ _ _ => k
def Tn.text : Tn → List Int | .mk _ t _ _ _ _ _ _ _ _ => t
def Tn.kids : Tn → List Tn | .mk _ _ _ _ _ _ _ _ _ k => k
def Tn.cells : Tn → List Value
  | .mk kind text n m a pos doc ad cap kids => [.int .i64 kind, .string (strOfNums text), .int .i64 n, .int .i64 m, .int .i64 a, .int .i64 pos, .string (strOfNums doc), .slice ad kids.length cap]
def Tn.val (t : Tn) : Value := .agg t.cells.toArray

def i64b (x : Int) : Prop := -9223372036854775808 ≤ x ∧ x ≤ 9223372036854775807

/-- A tree that lies in the world w. -/
inductive TnOk (w : World) : Tn → Prop
  | mk {kind : Int} {text : List Int} {n m a pos : Int} {doc : List Int} {ad : Option Addr} {cap : Nat} {kids : List Tn} (hkind : i64b kind) (htext : byts text) (htl : (text.length : Int) ≤ 9223372036854775807) (hn : i64b n) (hm : i64b m) (ha : i64b a) (hpos : i64b pos)
      (hdoc : byts doc) (hdl : (doc.length : Int) ≤ 9223372036854775807) (hkl : (kids.length : Int) ≤ 9223372036854775807) (hcap : kids.length ≤ cap) (hnone : ad = none → cap = 0)
      (hmem : 0 < kids.length → ∃ b off, ad = some ⟨b, off, none⟩ ∧ b < w.heap.size ∧ ∀ (i : Nat) (t : Tn), kids[i]? = some t → ∀ (j : Nat) (u : Value), t.cells[j]? = some u → w.cell? ⟨b, off + i * 8 + j, none⟩ = some u)
      (hkids : ∀ (i : Nat) (t : Tn), kids[i]? = some t → TnOk w t) : TnOk w (.mk kind text n m a pos doc ad cap kids)

theorem TnOk.under {w w' : World} {t : Tn} (h : TnOk w t) (hb : Below w.heap.size w w') : TnOk w' t := by
  induction h with
  | mk hkind htext htl hn hm ha hpos hdoc hdl hkl hcap hnone hmem hkids ih =>
    refine .mk hkind htext htl hn hm ha hpos hdoc hdl hkl hcap hnone (fun hp => ?_) ih
    obtain ⟨b, off, h1, h2, h3⟩ := hmem hp
    exact ⟨b, off, h1, Nat.lt_of_lt_of_le h2 hb.size, fun i t hi j u hj => (hb.cell h2).trans (h3 i t hi j u hj)⟩

open Go.ChangeShapes Go.WideShapes Go.ChangeAt

theorem add_add' (b off i j : Nat) : ((⟨b, off, none⟩ : Addr).add i).add j = ⟨b, off + i + j, none⟩ := by
  have h1 : (⟨b, off, none⟩ : Addr).add i = ⟨b, off + i, none⟩ := by unfold Addr.add; split <;> simp_all
  rw [h1]
  unfold Addr.add
  split <;> simp_all

theorem eight {α : Type} {l : List α} (h : l.length = 8) : ∃ c0 c1 c2 c3 c4 c5 c6 c7, l = [c0, c1, c2, c3, c4, c5, c6, c7] := by
  match l, h with
  | [c0, c1, c2, c3, c4, c5, c6, c7], _ => exact ⟨c0, c1, c2, c3, c4, c5, c6, c7, rfl⟩

theorem node_open {H : Type} {enc : TypeId × Value → H} {W : World} : ∀ (fuel : Nat) (cs : List Value) (x : DataW H × List MemPlace),
    DataW.trod enc Tryz.prog W 0 (fun _ => true) true fuel 24 cs = some x → ∃ t, TnOk W t ∧ cs = t.cells := by
  intro fuel
  induction fuel using Nat.strongRecOn with
  | _ fuel ih =>
    intro cs x hf
    obtain ⟨xs, n, hfu, _, hl, hlen, hfl⟩ := DataW.trod_struct Tryz.underlying24 hf
    have k8 : Tryz.prog.cellsOf 24 = 8 := by kernel_rfl
    rw [k8] at hl
    obtain ⟨c0, c1, c2, c3, c4, c5, c6, c7, rfl⟩ := eight hl
    have k1 : Tryz.prog.cellsOf 3 = 1 := by kernel_rfl
    have k2 : Tryz.prog.cellsOf 2 = 1 := by kernel_rfl
    have k3 : Tryz.prog.cellsOf 9 = 1 := by kernel_rfl
    have k4 : Tryz.prog.cellsOf 22 = 1 := by kernel_rfl
    obtain ⟨y0, y1, y2, y3, y4, y5, y6, y7, rfl⟩ := eight (l := xs) hlen
    have t0 : DataW.trod enc Tryz.prog W 0 (fun _ => true) true n 3 [c0] = some y0 := by have h := hfl 0 _ rfl; simpa [k1] using h
    have t1 : DataW.trod enc Tryz.prog W 0 (fun _ => true) true n 9 [c1] = some y1 := by have h := hfl 1 _ rfl; simpa [k3] using h
    have t2 : DataW.trod enc Tryz.prog W 0 (fun _ => true) true n 2 [c2] = some y2 := by have h := hfl 2 _ rfl; simpa [k2] using h
    have t3 : DataW.trod enc Tryz.prog W 0 (fun _ => true) true n 2 [c3] = some y3 := by have h := hfl 3 _ rfl; simpa [k2] using h
    have t4 : DataW.trod enc Tryz.prog W 0 (fun _ => true) true n 3 [c4] = some y4 := by have h := hfl 4 _ rfl; simpa [k1] using h
    have t5 : DataW.trod enc Tryz.prog W 0 (fun _ => true) true n 3 [c5] = some y5 := by have h := hfl 5 _ rfl; simpa [k1] using h
    have t6 : DataW.trod enc Tryz.prog W 0 (fun _ => true) true n 9 [c6] = some y6 := by have h := hfl 6 _ rfl; simpa [k3] using h
    have t7 : DataW.trod enc Tryz.prog W 0 (fun _ => true) true n 22 [c7] = some y7 := by have h := hfl 7 _ rfl; simpa [k4] using h
    obtain ⟨kind, e0, _, w0⟩ := DataW.trod_int Tryz.underlying3 t0
    obtain ⟨s1, e1, _, w1⟩ := DataW.trod_string Tryz.underlying9 t1
    obtain ⟨nn, e2, _, w2⟩ := DataW.trod_int Tryz.underlying2 t2
    obtain ⟨mm, e3, _, w3⟩ := DataW.trod_int Tryz.underlying2 t3
    obtain ⟨aa, e4, _, w4⟩ := DataW.trod_int Tryz.underlying3 t4
    obtain ⟨pp, e5, _, w5⟩ := DataW.trod_int Tryz.underlying3 t5
    obtain ⟨s6, e6, _, w6⟩ := DataW.trod_string Tryz.underlying9 t6
    simp at e0 e1 e2 e3 e4 e5 e6
    subst e0 e1 e2 e3 e4 e5 e6
    obtain ⟨z1, hz1, hb1⟩ := str_nums s1
    obtain ⟨z6, hz6, hb6⟩ := str_nums s6
    subst hz1 hz6
    have l1 : (z1.length : Int) ≤ 9223372036854775807 := by rw [strOfNums_size] at w1; unfold maxLen at w1; omega
    have l6 : (z6.length : Int) ≤ 9223372036854775807 := by rw [strOfNums_size] at w6; unfold maxLen at w6; omega
    rcases DataW.trod_slice Tryz.underlying22 t7 with ⟨hcs, _⟩ | ⟨y, l, c, elems, rest, n', hn', hcs, _, _, hl', hm, hel, hx, _, _⟩
    · simp at hcs
      subst hcs
      exact ⟨.mk kind z1 nn mm aa pp z6 none 0 [], .mk (bounds_i64 w0) (mem_bd hb1) l1 (bounds_i64 w2) (bounds_i64 w3) (bounds_i64 w4) (bounds_i64 w5) (mem_bd hb6) l6 (by simp) (by simp) (fun _ => rfl) (fun h => absurd h (by simp)) (fun i t h => by simp at h), rfl⟩
    · simp at hcs
      subst hcs
      have hpick : ∀ i, ∃ t : Tn, i < l → TnOk W t ∧ W.cells? 0 (y.add (i * 8)) 8 = some t.cells := by
        intro i
        by_cases hi : i < l
        · have h1 := hx i hi
          rw [k8, List.getElem?_eq_getElem (by omega), Option.bind_eq_some_iff] at h1
          obtain ⟨cs', h2, h3⟩ := h1
          obtain ⟨t, ht, hc⟩ := ih n' (by omega) cs' _ h3
          exact ⟨t, fun _ => ⟨ht, by rw [h2, hc]⟩⟩
        · exact ⟨.mk 0 [] 0 0 0 0 [] none 0 [], fun h => absurd h hi⟩
      obtain ⟨f, hfn⟩ := Classical.axiomOfChoice hpick
      have hl8 : ∀ t : Tn, t.cells.length = 8 := fun t => by cases t; rfl
      have hkid : ∀ (i : Nat) (t : Tn), ((List.range l).map f)[i]? = some t → i < l ∧ t = f i := by
        intro i t hi
        have hil : i < l := by
          have := (List.getElem?_eq_some_iff.1 hi).1
          simpa using this
        simp [hil] at hi
        exact ⟨hil, hi.symm⟩
      refine ⟨.mk kind z1 nn mm aa pp z6 (some y) c ((List.range l).map f), .mk (bounds_i64 w0) (mem_bd hb1) l1 (bounds_i64 w2) (bounds_i64 w3) (bounds_i64 w4) (bounds_i64 w5) (mem_bd hb6) l6 (by simp; unfold maxLen at hm; omega) (by simpa using hl') (fun h => by simp at h) (fun hp => ?_) (fun i t hi => ?_), by simp [Tn.cells]⟩
      · obtain ⟨b, off, spot⟩ := y
        have h0 := (hfn 0 (by simpa using hp)).2
        obtain ⟨_, hlen0, hc0⟩ := World.cells?_some h0
        have hsp : W.cell? (((⟨b, off, spot⟩ : Addr).add (0 * 8)).add 0) = some ((f 0).cells[0]'(by rw [hl8]; omega)) := (hc0 0 (by omega)).trans (List.getElem?_eq_getElem _)
        have hspot : spot = none := by simpa [Addr.add] using World.cell?_spot hsp
        subst hspot
        refine ⟨b, off, rfl, ?_, ?_⟩
        · rcases Nat.lt_or_ge b W.heap.size with h | h
          · exact h
          · simp [World.cell?, Addr.add, Array.getElem?_eq_none h] at hsp
        · intro i t hi j u hj
          obtain ⟨hil, rfl⟩ := hkid i t hi
          obtain ⟨_, hlen1, hc1⟩ := World.cells?_some (hfn i hil).2
          have hjl : j < (f i).cells.length := (List.getElem?_eq_some_iff.1 hj).1
          have := hc1 j (by rw [hl8] at hjl; exact hjl)
          rw [add_add'] at this
          rw [this]
          exact hj
      · obtain ⟨hil, rfl⟩ := hkid i t hi
        exact (hfn i hil).1

theorem node_arg {H : Type} {enc : TypeId × Value → H} {W : World} {r : Reach} {b0 : Nat} {v : Value} {d : DataW H} {p : List MemPlace} (hv : Value.okWide Tryz.prog W r b0 24 v)
    (h : DataW.Trod enc Tryz.prog W 0 (fun _ => true) true 24 v d p) : ∃ t : Tn, v = t.val ∧ TnOk W t := by
  obtain ⟨cs, rfl, hsz⟩ := okWide_struct Tryz.underlying24 hv
  obtain ⟨fuel, hf⟩ := h
  obtain ⟨t, ht, hc⟩ := node_open fuel cs.toList (d, p) (by simpa [Value.cells] using hf)
  refine ⟨t, ?_, ht⟩
  unfold Tn.val
  rw [← hc]

end Go.Proofs.YtgkablmglkagfaaGreatDoor

/- Trees of nodes as plain functions: how many, how deep, which are alike. -/
namespace Go.Proofs.YtgkablmglkagfaaGreatDoor
set_option linter.unusedVariables false
set_option linter.unusedSimpArgs false

mutual
/-- The law's own 'size'. -/
def tsz : Tn → Int → Int → Int
  | .mk _ text _ _ _ _ doc _ _ kids, all, deep => if 80 < deep ∨ 2000 < (text.length : Int) ∨ 2000 < (doc.length : Int) then 1000 else tszs kids (all + 1) (deep + 1)
def tszs : List Tn → Int → Int → Int
  | [], all, _ => all
  | k :: r, all, deep => if 400 < all then all else tszs r (tsz k all deep) deep
end

mutual
/-- How many, added to so many. -/
def tcnt : Tn → Int → Int
  | .mk _ _ _ _ _ _ _ _ _ kids, all => if 20000 < all + 1 then 30000 else tcnts kids (all + 1)
def tcnts : List Tn → Int → Int
  | [], all => all
  | k :: r, all => if 20000 < tcnt k all then 30000 else tcnts r (tcnt k all)
end

mutual
/-- How deep, from a depth on. -/
def tdp : Tn → Int → Int
  | .mk _ _ _ _ _ _ _ _ _ kids, x => if 64 < x then x else tdps kids x x
def tdps : List Tn → Int → Int → Int
  | [], _, d => d
  | k :: r, x, d => if 64 < max d (tdp k (x + 1)) then max d (tdp k (x + 1)) else tdps r x (max d (tdp k (x + 1)))
end

mutual
/-- Alike but for their places. -/
def tsame : Tn → Tn → Bool
  | .mk k1 t1 n1 m1 a1 _ d1 _ _ kids1, .mk k2 t2 n2 m2 a2 _ d2 _ _ kids2 => decide (k1 = k2 ∧ t1 = t2 ∧ n1 = n2 ∧ m1 = m2 ∧ a1 = a2 ∧ d1 = d2 ∧ kids1.length = kids2.length) && tsames kids1 kids2
def tsames : List Tn → List Tn → Bool
  | [], _ => true
  | _ :: _, [] => true
  | x :: r, y :: q => tsame x y && tsames r q
end

def tcount (t : Tn) : Int := min (tcnt t 0) 30000

def tdeep (t : Tn) : Int := if 64 < tdp t 1 then 100 else tdp t 1

def tfew (t : Tn) : Bool := decide (tsz t 0 0 ≤ 400)

def tSame (a b : Tn) : Bool := decide (tdeep a ≤ 64) && (decide (tdeep b ≤ 64) && tsame a b)

mutual
theorem tcnt_bd : ∀ (t : Tn) (x : Int), 0 ≤ x → x ≤ 20000 → x + 1 ≤ tcnt t x ∧ tcnt t x ≤ 30000
  | .mk _ _ _ _ _ _ _ _ _ kids, x, h0, h1 => by
    rw [tcnt]
    by_cases h : 20000 < x + 1
    · rw [if_pos h]; omega
    · rw [if_neg h]
      have := tcnts_bd kids (x + 1) (by omega) (by omega)
      omega
theorem tcnts_bd : ∀ (l : List Tn) (x : Int), 0 ≤ x → x ≤ 20000 → x ≤ tcnts l x ∧ tcnts l x ≤ 30000
  | [], x, h0, h1 => by rw [tcnts]; omega
  | k :: r, x, h0, h1 => by
    have h2 := tcnt_bd k x h0 h1
    rw [tcnts]
    by_cases h : 20000 < tcnt k x
    · rw [if_pos h]; omega
    · rw [if_neg h]
      have := tcnts_bd r (tcnt k x) (by omega) (by omega)
      omega
end

mutual
theorem tdp_bd : ∀ (t : Tn) (x : Int), x ≤ 65 → x ≤ tdp t x ∧ tdp t x ≤ 65
  | .mk _ _ _ _ _ _ _ _ _ kids, x, h1 => by
    rw [tdp]
    by_cases h : 64 < x
    · rw [if_pos h]; omega
    · rw [if_neg h]
      exact tdps_bd kids x x (by omega) (by omega) (by omega)
theorem tdps_bd : ∀ (l : List Tn) (x d : Int), x ≤ 64 → x ≤ d → d ≤ 65 → x ≤ tdps l x d ∧ tdps l x d ≤ 65
  | [], x, d, h0, h1, h2 => by rw [tdps]; omega
  | k :: r, x, d, h0, h1, h2 => by
    have h3 := tdp_bd k (x + 1) (by omega)
    rw [tdps]
    by_cases h : 64 < max d (tdp k (x + 1))
    · rw [if_pos h]; omega
    · rw [if_neg h]
      exact tdps_bd r x _ h0 (by omega) (by omega)
end

mutual
theorem tsz_bd : ∀ (t : Tn) (x d : Int), 0 ≤ x → x ≤ 400 → 0 ≤ d → d ≤ 81 → 0 ≤ tsz t x d ∧ tsz t x d ≤ 1000
  | .mk _ text _ _ _ _ doc _ _ kids, x, d, h0, h1, h2, h3 => by
    rw [tsz]
    by_cases h : 80 < d ∨ 2000 < (text.length : Int) ∨ 2000 < (doc.length : Int)
    · rw [if_pos h]; omega
    · rw [if_neg h]
      exact tszs_bd kids (x + 1) (d + 1) (by omega) (by omega) (by omega) (by omega)
theorem tszs_bd : ∀ (l : List Tn) (x d : Int), 0 ≤ x → x ≤ 1000 → 0 ≤ d → d ≤ 81 → 0 ≤ tszs l x d ∧ tszs l x d ≤ 1000
  | [], x, d, h0, h1, _, _ => by rw [tszs]; omega
  | k :: r, x, d, h0, h1, h2, h3 => by
    rw [tszs]
    by_cases h : 400 < x
    · rw [if_pos h]; omega
    · rw [if_neg h]
      have := tsz_bd k x d h0 (by omega) h2 h3
      exact tszs_bd r _ d (by omega) (by omega) h2 h3
end

end Go.Proofs.YtgkablmglkagfaaGreatDoor

/- Trees none of whose texts is long. -/
namespace Go.Proofs.YtgkablmglkagfaaGreatDoor
set_option linter.unusedVariables false

/-- No text is long. -/
inductive TnShort : Tn → Prop
  | mk {kind : Int} {text : List Int} {n m a pos : Int} {doc : List Int} {ad : Option Addr} {cap : Nat} {kids : List Tn} (hl : (text.length : Int) ≤ 100000) (hk : ∀ (i : Nat) (t : Tn), kids[i]? = some t → TnShort t) : TnShort (.mk kind text n m a pos doc ad cap kids)

theorem tszs_low : ∀ (l : List Tn) (x d : Int), tszs l x d ≤ 400 → x ≤ 400
  | [], x, d, h => by rw [tszs] at h; exact h
  | k :: r, x, d, h => by
    rw [tszs] at h
    by_cases hx : 400 < x
    · rw [if_pos hx] at h; omega
    · omega

mutual
theorem tsz_short : ∀ (t : Tn) (x d : Int), tsz t x d ≤ 400 → TnShort t
  | .mk _ text _ _ _ _ doc _ _ kids, x, d, h => by
    rw [tsz] at h
    by_cases hx : 80 < d ∨ 2000 < (text.length : Int) ∨ 2000 < (doc.length : Int)
    · rw [if_pos hx] at h; omega
    · rw [if_neg hx] at h
      exact .mk (by omega) (tszs_short kids _ _ h)
theorem tszs_short : ∀ (l : List Tn) (x d : Int), tszs l x d ≤ 400 → ∀ (i : Nat) (t : Tn), l[i]? = some t → TnShort t
  | [], _, _, _, i, t, hi => by simp at hi
  | k :: r, x, d, h, i, t, hi => by
    rw [tszs] at h
    by_cases hx : 400 < x
    · rw [if_pos hx] at h; omega
    · rw [if_neg hx] at h
      cases i with
      | zero => simp at hi; rw [← hi]; exact tsz_short k x d (tszs_low _ _ _ h)
      | succ j => exact tszs_short r _ _ h j t (by simpa using hi)
end

theorem tfew_short {t : Tn} (h : tfew t = true) : TnShort t := tsz_short t 0 0 (of_decide_eq_true h)

end Go.Proofs.YtgkablmglkagfaaGreatDoor
